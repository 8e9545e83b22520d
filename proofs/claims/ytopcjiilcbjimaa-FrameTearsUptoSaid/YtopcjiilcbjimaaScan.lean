/- The contracts of frame.Scan and of the document's own: the records one behind the other, up to the end or to the first that is none. Condition: rows below 2 to the 39. -/
import Derived.Test.YtopcjiilcbjimaaWalkDec
import Derived.Test.YtopcjiilcbjimaaRowsV
namespace Go.Proofs.Ytopcjiilcbjimaa
open Go.RowKit
/-- The records from the beginning on, how many bytes they take together, and the error; the first number bounds the rounds. -/
def scanF : Nat → List Nat → List (List Nat) × Nat × Nat
  | 0, _ => ([], 0, 0)
  | f + 1, b =>
    if b.length = 0 then ([], 0, 0)
    else if (decL b).2.2 ≠ 0 then ([], 0, (decL b).2.2)
    else ((decL b).1 :: (scanF f (b.drop (8 + val32 b))).1, 8 + val32 b + (scanF f (b.drop (8 + val32 b))).2.1, (scanF f (b.drop (8 + val32 b))).2.2)
theorem scanF_step (f : Nat) (b : List Nat) : scanF (f + 1) b = if b.length = 0 then ([], 0, 0)
    else if (decL b).2.2 ≠ 0 then ([], 0, (decL b).2.2)
    else ((decL b).1 :: (scanF f (b.drop (8 + val32 b))).1, 8 + val32 b + (scanF f (b.drop (8 + val32 b))).2.1, (scanF f (b.drop (8 + val32 b))).2.2) := by
  conv => lhs; unfold scanF
theorem scanF_more : ∀ (f g : Nat) (b : List Nat), b.length ≤ f → b.length ≤ g → scanF f b = scanF g b := by
  intro f
  induction f with
  | zero =>
    intro g b hf _
    rcases g with _ | g
    · rfl
    · rw [scanF_step, if_pos (by omega)]; unfold scanF; rfl
  | succ f ih =>
    intro g b hf hg
    rcases g with _ | g
    · rw [scanF_step, if_pos (by omega)]; unfold scanF; rfl
    · rw [scanF_step, scanF_step]
      by_cases h : b.length = 0
      · rw [if_pos h, if_pos h]
      · rw [if_neg h, if_neg h, ih g (b.drop (8 + val32 b)) (by rw [List.length_drop]; omega) (by rw [List.length_drop]; omega)]
def scanL (b : List Nat) : List (List Nat) × Nat × Nat := scanF b.length b
theorem scan_end {b : List Nat} (h : b.length = 0) : scanL b = ([], 0, 0) := by
  unfold scanL
  rw [h]
  unfold scanF
  rfl
theorem scan_bad {b : List Nat} (h : b.length ≠ 0) (e : (decL b).2.2 ≠ 0) : scanL b = ([], 0, (decL b).2.2) := by
  unfold scanL
  obtain ⟨f, hf⟩ : ∃ f, b.length = f + 1 := ⟨b.length - 1, by omega⟩
  rw [hf, scanF_step, if_neg h, if_pos e]
theorem scan_more {b : List Nat} (h : b.length ≠ 0) (e : (decL b).2.2 = 0) : scanL b = ((decL b).1 :: (scanL (b.drop (8 + val32 b))).1, 8 + val32 b + (scanL (b.drop (8 + val32 b))).2.1, (scanL (b.drop (8 + val32 b))).2.2) := by
  unfold scanL
  obtain ⟨f, hf⟩ : ∃ f, b.length = f + 1 := ⟨b.length - 1, by omega⟩
  rw [hf, scanF_step, if_neg h, if_neg (by omega), scanF_more f _ (b.drop (8 + val32 b)) (by rw [List.length_drop]; omega) (Nat.le_refl _)]
theorem dec_ok {b : List Nat} (e : (decL b).2.2 = 0) : (decL b).2.1 = 8 + val32 b ∧ 8 + val32 b ≤ b.length := by
  unfold decL at e ⊢
  split at e
  · cases e
  · rename_i h1
    rw [if_neg h1]
    split at e
    · cases e
    · rename_i h2
      rw [if_neg h2]
      split at e
      · cases e
      · rename_i h3
        rw [if_neg h3]
        split at e
        · cases e
        · rename_i h4
          rw [if_neg h4]
          exact ⟨rfl, by omega⟩
theorem dec_small (b : List Nat) : (decL b).2.2 ≤ 5 := by
  unfold decL
  split
  · show 2 ≤ 5; decide
  · split
    · show 5 ≤ 5; decide
    · split
      · show 2 ≤ 5; decide
      · split
        · show 4 ≤ 5; decide
        · show 0 ≤ 5; decide
/-- What has been read up to place k, and what is left. -/
def Sofar (xs : List Nat) (k : Nat) (acc : List (List Nat)) : Prop :=
  (scanL xs).1 = acc ++ (scanL (xs.drop k)).1 ∧ (scanL xs).2.1 = k + (scanL (xs.drop k)).2.1 ∧ (scanL xs).2.2 = (scanL (xs.drop k)).2.2 ∧ acc.length ≤ k
theorem Sofar.start (xs : List Nat) : Sofar xs 0 [] := by
  unfold Sofar
  rw [List.drop_zero]
  generalize scanL xs = r
  exact ⟨rfl, (Nat.zero_add _).symm, rfl, Nat.le_refl _⟩
theorem scan_more3 {b : List Nat} (h : b.length ≠ 0) (e : (decL b).2.2 = 0) (p : List Nat) (v : Nat) (hp : p = (decL b).1) (hv : v = 8 + val32 b) :
    (scanL b).1 = p :: (scanL (b.drop v)).1 ∧ (scanL b).2.1 = v + (scanL (b.drop v)).2.1 ∧ (scanL b).2.2 = (scanL (b.drop v)).2.2 := by
  have h1 := scan_more h e
  rw [← hp, ← hv] at h1
  clear hp hv e h
  generalize scanL (b.drop v) = r at h1 ⊢
  rw [h1]
  exact ⟨rfl, rfl, rfl⟩
theorem Sofar.next {xs : List Nat} {k : Nat} {acc : List (List Nat)} (h : Sofar xs k acc) (hk : k < xs.length) (e : (decL (xs.drop k)).2.2 = 0) (m : Nat) (p : List Nat) (hp : p = (decL (xs.drop k)).1) (hm : m = k + (8 + val32 (xs.drop k))) : Sofar xs m (acc ++ [p]) := by
  have hne : (xs.drop k).length ≠ 0 := by rw [List.length_drop]; omega
  obtain ⟨v, hv⟩ : ∃ v, v = 8 + val32 (xs.drop k) := ⟨_, rfl⟩
  obtain ⟨h1, h2, h3⟩ := scan_more3 hne e p v hp hv
  have hv8 : 8 ≤ v := by omega
  rw [← hv] at hm
  subst hm
  clear hv hp e
  obtain ⟨g1, g2, g3, g4⟩ := h
  rw [h1] at g1
  rw [h2] at g2
  rw [h3] at g3
  rw [List.drop_drop] at g1 g2 g3
  exact ⟨by rw [g1, List.append_assoc]; rfl, by rw [g2, Nat.add_assoc], g3, by rw [List.length_append]; simp; omega⟩
theorem Sofar.bad {xs : List Nat} {k : Nat} {acc : List (List Nat)} (h : Sofar xs k acc) (hk : k < xs.length) (d : Nat) (hd : d = (decL (xs.drop k)).2.2) (e : d ≠ 0) : (scanL xs).1 = acc ∧ (scanL xs).2.1 = k ∧ (scanL xs).2.2 = d := by
  have hne : (xs.drop k).length ≠ 0 := by rw [List.length_drop]; omega
  have h1 := scan_bad hne (by rw [← hd]; exact e)
  rw [← hd] at h1
  clear hd
  obtain ⟨g1, g2, g3, _⟩ := h
  rw [h1] at g1 g2 g3
  exact ⟨by rw [g1, List.append_nil], by rw [g2]; rfl, g3⟩
theorem Sofar.done {xs : List Nat} {k : Nat} {acc : List (List Nat)} (h : Sofar xs k acc) (hk : xs.length ≤ k) : (scanL xs).1 = acc ∧ (scanL xs).2.1 = k ∧ (scanL xs).2.2 = 0 := by
  have hne : (xs.drop k).length = 0 := by rw [List.length_drop]; omega
  have h1 := scan_end hne
  obtain ⟨g1, g2, g3, _⟩ := h
  rw [h1] at g1 g2 g3
  exact ⟨by rw [g1, List.append_nil], by rw [g2]; rfl, g3⟩
/-- A slice's end, wherever it lies. -/
theorem IsB.tail {w : World} {A : Option Addr} {n c : Nat} {xs : List Nat} (h : IsB w (.slice A n c) xs) (k : Nat) (hk : k ≤ n) :
    ∀ b off, A = some ⟨b, off, none⟩ → IsB w (.slice (some ⟨b, if c = k then off else off + k, none⟩) (n - k) (c - k)) (xs.drop k) := by
  rintro b off rfl
  by_cases hc : c = k
  · rw [if_pos hc]
    obtain ⟨_, _, e, _, _, h2, h3⟩ := h
    cases e
    have hd : xs.drop k = [] := List.drop_of_length_le (by omega)
    rw [hd]
    refine ⟨_, _, by rw [show xs.length - k = 0 by omega]; rfl, fun h => absurd rfl h, (fun h => by cases h), Nat.zero_le _, by omega⟩
  · rw [if_neg hc]
    exact h.drop k (n - k) (c - k) rfl rfl hk
set_option maxHeartbeats 3200000 in
theorem scan_any (A : Option Addr) (n c : Nat) (xs : List Nat) (w : World) (hA : IsB w (.slice A n c) xs) (hn : xs.length = n) (hb : ∀ x ∈ xs, x < 256) (h3 : n ≤ 549755813888) :
    Calls Try.prog 17 #[.slice A n c] w fun e w' => ∃ s vs, e = .returned (.tuple #[s, .int .i64 ((scanL xs).2.1 : Nat), .int .i64 ((scanL xs).2.2 : Nat)]) ∧ OwnV w' w.heap.size s vs ∧ Owns w' w.heap.size vs (scanL xs).1 ∧ Below w.heap.size w w' := by
  have HA := hide hA
  have HN := hide hn
  have HB := hide hb
  clear hA hn hb
  go_enter Try.func17, Try.ntmps17
  go_wp2_with fail
  go_loopw [0, 5, 6] (fun s l g wr => ∃ (k : Nat) (A' : Option Addr) (c' : Nat) (vs : List Value) (acc : List (List Nat)), k ≤ n ∧ s = .slice A' (n - k) c' ∧ g = .int .i64 (k : Int) ∧
      Hid (IsB w (.slice A' (n - k) c') (xs.drop k)) ∧ Hid (OwnV wr w.heap.size l vs) ∧ Hid (Owns wr w.heap.size vs acc) ∧ Hid (Sofar xs k acc) ∧ Hid (Below w.heap.size w wr)) (fun _ _ g _ => n - (intOf g).toNat)
  case atStart => exact ⟨0, A, c, [], [], Nat.zero_le _, rfl, rfl, HA.out, OwnV.nil _ _, Owns.nil _ _, Sofar.start xs, Below.refl _ _⟩
  case round =>
    obtain ⟨k, A', c', vs, acc, hk, rfl, rfl, hI, hV, hO, hS, hbel⟩ := hrel
    by_cases hlt : k < n
    · obtain ⟨g0, off, rfl⟩ := hI.out.at_ (by omega)
      obtain ⟨hc1, hc2⟩ := hI.out.caps
      have HL : Hid ((xs.drop k).length = n - k) := by unfold Hid; rw [List.length_drop, HN.out]
      have hsm := dec_small (xs.drop k)
      have HBD : Hid (∀ x ∈ xs.drop k, x < 256) := fun x hx => HB.out x (List.mem_of_mem_drop hx)
      obtain ⟨de, hde⟩ : ∃ de, de = (decL (xs.drop k)).2.2 := ⟨_, rfl⟩
      obtain ⟨dn, hdn⟩ : ∃ dn, dn = (decL (xs.drop k)).2.1 := ⟨_, rfl⟩
      obtain ⟨dp, hdp⟩ : ∃ dp, dp = (decL (xs.drop k)).1 := ⟨_, rfl⟩
      rw [← hde] at hsm
      have m1 : (0 : Int) < ((n - k : Nat) : Int) := by omega
      have hdec := decode_any (some ⟨g0, off, none⟩) (n - k) c' (xs.drop k)
      rw [← hde, ← hdn, ← hdp] at hdec
      by_cases he : de = 0
      · have hok := dec_ok (b := xs.drop k) (by rw [← hde]; exact he)
        rw [← hdn, HL.out] at hok
        have HS2 := hide (hS.out.next (by rw [HN.out]; exact hlt) (by rw [← hde]; exact he) (k + dn) dp hdp (by rw [hok.1]))
        have d8 : 8 ≤ dn := by omega
        have dm : dn ≤ n - k := by omega
        have HT := hide (hI.out.tail dn dm g0 off rfl)
        have hlen := hS.out.2.2.2
        have hvl := hO.out.1
        have HVL : Hid (vs.length + 1 ≤ 1099511627776) := by unfold Hid; omega
        have HDEC := hide hdec
        clear hde hdn hdp hok hS hlen hvl hdec
        subst he
        obtain ⟨m, hm⟩ : ∃ m, m = n - k := ⟨_, rfl⟩
        rw [← hm] at m1 dm hI HT HL HDEC hc1 ⊢
        have m3 : m ≤ 549755813888 := by omega
        have m4 : k + m = n := by omega
        have HM := hide hm
        clear hm
        go_wp2_with fail
        refine (HDEC.out _ (hI.out.keep hbel.out) HL.out HBD.out m3 hc1 hc2).mono ?_
        rintro e w1 ⟨s1, rfl, o1, k1⟩
        obtain ⟨A1, c1, rfl, _⟩ := o1.isB.form (n := dp.length) rfl
        obtain ⟨r, hr⟩ : ∃ r, r = dp.length := ⟨_, rfl⟩
        rw [← hr] at o1 ⊢
        have O1 := hide (o1.more hbel.out.size)
        have V1 := hide (hV.out.keep k1)
        have W1 := hide (hO.out.keep k1)
        have K1 := hide (below_step hbel.out k1)
        clear o1 k1 hV hO hbel hr
        go_wp2_with (at_builtin; refine halt ?_)
        refine ⟨?_⟩
        have nb : Below w1.heap.size w1 (w1.alloc (.cells #[.slice A1 r c1] 22)) := (Below.refl _ _).alloc (Nat.le_refl _) _
        refine wpList_append_row rfl (.tmp 24) (.tmp 26) rfl w.heap.size _ vs rfl (V1.out.keep nb) w1.heap.size (.slice A1 r c1) rfl (cell_new _ _ _) rfl HVL.out (Nat.le_trans K1.out.size nb.size) ?_
        intro v2 w2 V2 k2 g2
        have V2' := hide V2
        have W2 := hide (((W1.out.keep nb).apart (V1.out.keep nb) g2).snoc (Own.apart (O1.out.keep nb) (V1.out.keep nb) g2))
        have K2 := hide ((K1.out.alloc K1.out.size _).trans k2)
        clear nb V2 k2 g2 V1 W1 O1 K1
        have e1 : n - (k + dn) = m - dn := by omega
        by_cases hcd : c' = dn
        · rw [if_pos hcd] at HT
          subst hcd
          have e2 : m - c' = 0 := by omega
          have HI2 : Hid (IsB w (.slice (some ⟨g0, off, none⟩) (n - (k + c')) (c' - c')) (xs.drop (k + c'))) := by
            unfold Hid
            rw [e1, ← List.drop_drop]
            exact HT.out
          have E := hide (show Value.slice (some ⟨g0, off, none⟩) 0 0 = .slice (some ⟨g0, off, none⟩) (n - (k + c')) (c' - c') by rw [e1, e2, Nat.sub_self])
          clear HT e1 e2
          go_wp2_with fail
          go_roundw
          case rel => exact ⟨k + c', _, _, _, _, by omega, E.out, by go_num, HI2, V2', W2, HS2, K2⟩
          case measure => simp [intOf]; omega
        · rw [if_neg hcd] at HT
          have HI2 : Hid (IsB w (.slice (some ⟨g0, off + dn, none⟩) (n - (k + dn)) (c' - dn)) (xs.drop (k + dn))) := by
            unfold Hid
            rw [e1, ← List.drop_drop]
            exact HT.out
          have E := hide (show Value.slice (some ⟨g0, off + dn, none⟩) (m - dn) (c' - dn) = .slice (some ⟨g0, off + dn, none⟩) (n - (k + dn)) (c' - dn) by rw [e1])
          clear HT e1
          go_wp2_with fail
          go_roundw
          case rel => exact ⟨k + dn, _, _, _, _, by omega, E.out, by go_num, HI2, V2', W2, HS2, K2⟩
          case measure => simp [intOf]; omega
      · have hbad := hS.out.bad (by rw [HN.out]; exact hlt) de hde he
        have HBAD := hide hbad
        have hne : ((de : Int) != 0) = true := by simp; omega
        have HDEC := hide hdec
        clear hde hdn hdp hdec hbad he
        obtain ⟨m, hm⟩ : ∃ m, m = n - k := ⟨_, rfl⟩
        rw [← hm] at m1 hI HL HDEC hc1 ⊢
        have m3 : m ≤ 549755813888 := by omega
        clear hm
        go_wp2_with fail
        refine (HDEC.out _ (hI.out.keep hbel.out) HL.out HBD.out m3 hc1 hc2).mono ?_
        rintro e w1 ⟨s1, rfl, o1, k1⟩
        have V1 := hide (hV.out.keep k1)
        have W1 := hide (hO.out.keep k1)
        have K1 := hide (below_step hbel.out k1)
        clear o1 k1 hV hO hbel
        go_wp2_with fail
        go_ret3
        exact ⟨_, _, by rw [HBAD.out.2.1, HBAD.out.2.2]; rfl, V1.out, by rw [HBAD.out.1]; exact W1.out, K1.out⟩
    · have HD := hide (hS.out.done (by rw [HN.out]; omega))
      obtain ⟨m, hm⟩ : ∃ m, m = n - k := ⟨_, rfl⟩
      rw [← hm]
      have m0 : m ≤ 0 := by omega
      clear hm
      go_wp2_with fail
      go_ret3
      exact ⟨_, _, by rw [HD.out.2.1, HD.out.2.2]; rfl, hV.out, by rw [HD.out.1]; exact hO.out, hbel.out⟩
end Go.Proofs.Ytopcjiilcbjimaa
