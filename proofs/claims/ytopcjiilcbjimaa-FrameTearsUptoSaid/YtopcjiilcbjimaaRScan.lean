/- The contract of the document's own Scan: the records one behind the other, up to the end or to the first that is none. Condition: rows below 2 to the 39. -/
import Derived.Test.YtopcjiilcbjimaaScan
namespace Go.Proofs.Ytopcjiilcbjimaa
open Go.RowKit
set_option maxHeartbeats 3200000 in
theorem rscan_any (A : Option Addr) (n c : Nat) (xs : List Nat) (w : World) (hA : IsB w (.slice A n c) xs) (hn : xs.length = n) (hb : ∀ x ∈ xs, x < 256) (h3 : n ≤ 549755813888) :
    Calls Try.prog 18 #[.slice A n c] w fun e w' => ∃ s vs, e = .returned (.tuple #[s, .int .i64 ((scanL xs).2.1 : Nat), .int .i64 ((scanL xs).2.2 : Nat)]) ∧ OwnV w' w.heap.size s vs ∧ Owns w' w.heap.size vs (scanL xs).1 ∧ Below w.heap.size w w' := by
  have HA := hide hA
  have HN := hide hn
  have HB := hide hb
  obtain ⟨hcn, hcm⟩ := hA.caps
  clear hA hn hb
  go_enter Try.func18, Try.ntmps18
  go_wp2_with fail
  go_loopw [5, 6] (fun l g wr => ∃ (k : Nat) (vs : List Value) (acc : List (List Nat)), k ≤ n ∧ g = .int .i64 (k : Int) ∧
      Hid (OwnV wr w.heap.size l vs) ∧ Hid (Owns wr w.heap.size vs acc) ∧ Hid (Sofar xs k acc) ∧ Hid (Below w.heap.size w wr)) (fun _ g _ => n - (intOf g).toNat)
  case atStart => exact ⟨0, [], [], Nat.zero_le _, rfl, OwnV.nil _ _, Owns.nil _ _, Sofar.start xs, Below.refl _ _⟩
  case round =>
    obtain ⟨k, vs, acc, hk, rfl, hV, hO, hS, hbel⟩ := hrel
    by_cases hlt : k < n
    · obtain ⟨g0, off, rfl⟩ := HA.out.at_ (by omega)
      have HI := hide (HA.out.drop k (n - k) (c - k) rfl rfl hk)
      have hc0 : ¬ c = k := by omega
      have hc1 : n - k ≤ c - k := by omega
      have HL : Hid ((xs.drop k).length = n - k) := by unfold Hid; rw [List.length_drop, HN.out]
      have hsm := dec_small (xs.drop k)
      have HBD : Hid (∀ x ∈ xs.drop k, x < 256) := fun x hx => HB.out x (List.mem_of_mem_drop hx)
      obtain ⟨de, hde⟩ : ∃ de, de = (decL (xs.drop k)).2.2 := ⟨_, rfl⟩
      obtain ⟨dn, hdn⟩ : ∃ dn, dn = (decL (xs.drop k)).2.1 := ⟨_, rfl⟩
      obtain ⟨dp, hdp⟩ : ∃ dp, dp = (decL (xs.drop k)).1 := ⟨_, rfl⟩
      rw [← hde] at hsm
      have hdec := rdecode_any (some ⟨g0, off + k, none⟩) (n - k) (c - k) (xs.drop k)
      rw [← hde, ← hdn, ← hdp] at hdec
      by_cases he : de = 0
      · have hok := dec_ok (b := xs.drop k) (by rw [← hde]; exact he)
        rw [← hdn, HL.out] at hok
        have HS2 := hide (hS.out.next (by rw [HN.out]; exact hlt) (by rw [← hde]; exact he) (k + dn) dp hdp (by rw [hok.1]))
        have d8 : 8 ≤ dn := by omega
        have dm : k + dn ≤ n := by omega
        have hlen := hS.out.2.2.2
        have hvl := hO.out.1
        have HVL : Hid (vs.length + 1 ≤ 1099511627776) := by unfold Hid; omega
        have HDEC := hide hdec
        clear hde hdn hdp hok hS hlen hvl hdec
        subst he
        go_wp2_with fail
        refine (HDEC.out _ (HI.out.keep hbel.out) HL.out HBD.out (by omega) hc1 (by omega)).mono ?_
        rintro e w1 ⟨s1, rfl, o1, k1⟩
        obtain ⟨A1, c1, rfl, _⟩ := o1.isB.form (n := dp.length) rfl
        obtain ⟨r, hr⟩ : ∃ r, r = dp.length := ⟨_, rfl⟩
        rw [← hr] at o1 ⊢
        have O1 := hide (o1.more hbel.out.size)
        have V1 := hide (hV.out.keep k1)
        have W1 := hide (hO.out.keep k1)
        have K1 := hide (below_step hbel.out k1)
        clear o1 k1 hV hO hbel hr
        go_wp2_with (at_builtin; refine halt ?_)
        refine ⟨?_⟩
        have nb : Below w1.heap.size w1 (w1.alloc (.cells #[.slice A1 r c1] 22)) := (Below.refl _ _).alloc (Nat.le_refl _) _
        refine wpList_append_row rfl (.tmp 27) (.tmp 29) rfl w.heap.size _ vs rfl (V1.out.keep nb) w1.heap.size (.slice A1 r c1) rfl (cell_new _ _ _) rfl HVL.out (Nat.le_trans K1.out.size nb.size) ?_
        intro v2 w2 V2 k2 g2
        have V2' := hide V2
        have W2 := hide (((W1.out.keep nb).apart (V1.out.keep nb) g2).snoc (Own.apart (O1.out.keep nb) (V1.out.keep nb) g2))
        have K2 := hide ((K1.out.alloc K1.out.size _).trans k2)
        clear nb V2 k2 g2 V1 W1 O1 K1
        go_wp2_with fail
        go_roundw
        case rel => exact ⟨k + dn, _, _, by omega, by go_num, V2', W2, HS2, K2⟩
        case measure => simp [intOf]; omega
      · have hbad := hS.out.bad (by rw [HN.out]; exact hlt) de hde he
        have HBAD := hide hbad
        have hne : ((de : Int) != 0) = true := by simp; omega
        have HDEC := hide hdec
        clear hde hdn hdp hdec hbad he
        go_wp2_with fail
        refine (HDEC.out _ (HI.out.keep hbel.out) HL.out HBD.out (by omega) hc1 (by omega)).mono ?_
        rintro e w1 ⟨s1, rfl, o1, k1⟩
        have V1 := hide (hV.out.keep k1)
        have W1 := hide (hO.out.keep k1)
        have K1 := hide (below_step hbel.out k1)
        clear o1 k1 hV hO hbel
        go_wp2_with fail
        go_ret3
        exact ⟨_, _, by rw [HBAD.out.2.1, HBAD.out.2.2]; rfl, V1.out, by rw [HBAD.out.1]; exact W1.out, K1.out⟩
    · have HD := hide (hS.out.done (by rw [HN.out]; omega))
      go_wp2_with fail
      go_ret3
      exact ⟨_, _, by rw [HD.out.2.1, HD.out.2.2]; rfl, hV.out, by rw [HD.out.1]; exact hO.out, hbel.out⟩
end Go.Proofs.Ytopcjiilcbjimaa
