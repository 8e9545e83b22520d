/- The contract of the law's own known(). No condition. The walk of the law VolumeRots. -/
import Derived.Test.YtehgjkckhjggbaaVr38
import Derived.Test.YtehgjkckhjggbaaVr23
import Derived.Test.YtehgjkckhjggbaaVr10
import Derived.Test.YtehgjkckhjggbaaVr8
import Derived.Test.YtehgjkckhjggbaaVr7
import Derived.Test.YtehgjkckhjggbaaVr35
import Derived.Test.YtehgjkckhjggbaaVr36
import Derived.Test.YtehgjkckhjggbaaVr24
import Derived.Test.YtehgjkckhjggbaaVr6
namespace Go.Proofs.Ytehgjkckhjggbaa
open Go.RowKit Go.Maps
theorem vput_as {w : World} {F : Nat → Prop} {v d b room : Nat} {s : ByteArray} {T : PlL} {L : DiskL} {R : (PlL × DiskL) × Nat} {c0 : Nat} (h : VolD w F v d b room s T L) (hs : s.size ≤ 1099511627776) (h8 : 8 ≤ szV s.data.toList L) (hl : T.length < 1099511627776)
    (k c : Nat) (dd : Bool) (A : Option Addr) (n cp : Nat) (data : List Nat) (hk : k < 18446744073709551616) (hc : c < 4294967296) (hA : IsB w (.slice A n cp) data) (hn : data.length = n) (hb : ∀ x ∈ data, x < 256) (hR : putV room s.data.toList k c dd data T L = R) (h0 : R.2 = c0) :
    Calls Try.prog 12 #[.pointer (some ⟨v, 0, none⟩), .agg #[.int .u64 (k : Int), .int .u32 (c : Int), .bool dd, .slice A n cp]] w fun e w' => e = .returned (.int .i64 (c0 : Int)) ∧ ∃ F', VolD w' F' v d b room s R.1.1 R.1.2 ∧ Turn (fun k => F k ∨ k = b) w w' ∧ ∀ k, F' k → F k ∨ w.heap.size ≤ k := by
  subst hR
  subst h0
  exact vput_any h hs h8 hl k c dd A n cp data hk hc hA hn hb
theorem vget_as {w : World} {F : Nat → Prop} {v d b room : Nat} {s : ByteArray} {T : PlL} {L : DiskL} {r : List Nat × Nat} (h : VolD w F v d b room s T L) (hs : s.size ≤ 1099511627776) (k c : Nat) (hk : k < 18446744073709551616) (hr : getV k c T (readL s.data.toList L).1 = r) :
    Calls Try.prog 15 #[.pointer (some ⟨v, 0, none⟩), .int .u64 (k : Int), .int .u32 (c : Int)] w fun e w' => GetAns w r e w' := by
  subst hr
  exact vget_any h hs k c hk
set_option maxRecDepth 100000 in
set_option maxHeartbeats 3200000 in
theorem known_any (w : World) : Calls Try.prog 17 #[] w fun e w' => e = .returned (.bool true) ∧ Below w.heap.size w w' := by
  have kc := fun (w : World) (C : Array Value) (n c : Nat) => const_bytes w C n c _ rfl
  have IC := hide (fun (w : World) (cs : Array Value) (fr : Nat × Nat) (hl : cs.toList = [97, 98].map fun x : Nat => Value.int .u8 (x : Int)) => isB_const w cs fr [97, 98] hl (by decide) _ 2 rfl rfl)
  have KC := hide (fun (w : World) (cs : Array Value) (fr : Nat × Nat) => below_alloc w (.cells cs 5 fr))
  go_enter Try.func17, Try.ntmps17
  go_wp2_with fail
  refine (new_any 1000 w (by decide)).mono ?_
  rintro e w1 ⟨d, F1, rfl, d1, f1, k1⟩
  have D1 := hide d1
  have FF1 := hide f1
  have K1 := hide k1
  clear d1 f1 k1
  go_wp2_with fail
  refine (create_ok F1 d 1000 [] 7 w1 D1.out (by decide) k_lay.1 k_lay.2.1).mono ?_
  rintro e w2 ⟨v, b, F2, rfl, v2, n2, hv, hb⟩
  have V2 := hide v2
  have FF2 := hide (n2.up K1.out.size FF1.out)
  have K2 := hide (K1.out.trans (n2.below K1.out.size FF1.out))
  have HB := hide (Nat.le_trans K1.out.size hb)
  clear v2 n2 hv hb D1 FF1 K1
  go_wp2_with fail
  refine (vput_as (R := kP1) (c0 := 0) (V2.out.below (KC.out w2 _ _)) (by rw [nameV_size]; decide) k_lay.2.2 (by decide) 1 5 false _ 2 2 [97, 98] (by decide) (by decide) (IC.out w2 _ _ rfl) rfl (by decide) rfl k_put1.1).mono ?_
  rintro e w3 ⟨rfl, F3, v3, t3, f3⟩
  have kk := KC.out w2 #[.int .u8 97, .int .u8 98] (2, 3)
  have ks := Nat.le_trans K2.out.size kk.size
  have V3 := hide v3
  have FF3 : Hid (∀ k, F3 k → w.heap.size ≤ k) := hide (fun k hk => (f3 k hk).elim (FF2.out k) (fun e => Nat.le_trans ks e))
  have K3 := hide ((K2.out.trans (kk.mono K2.out.size)).trans (t3.below ks (fun k e => e.elim (FF2.out k) (fun e => by rw [e]; exact HB.out))))
  clear v3 t3 f3 kk ks V2 FF2 K2 kc
  go_wp2_with fail
  refine (vget_as V3.out (by rw [nameV_size]; decide) 1 5 (by decide) k_put1.2.2.2).mono ?_
  rintro e w4 ⟨u4, rfl, o4, k4⟩
  have V4 := hide (V3.out.below k4)
  have K4 := hide (K3.out.trans (k4.mono K3.out.size))
  have O4 := hide o4
  have LW : Hid (∀ k, F3 k ∨ k = b → k < w3.heap.size) := hide (fun k e => e.elim (V3.out.disk.low k) (fun e => by rw [e]; exact V3.out.vol.low.2))
  clear V3 o4 k4 K3
  go_wp2_with fail
  refine (vput_as (R := kP2) (c0 := 0) V4.out (by rw [nameV_size]; decide) k_put1.2.2.1 (by rw [k_put1.2.1]; decide) 1 5 true _ 0 0 [] (by decide) (by decide) (isB_nilw _) rfl (by decide) rfl k_put2.1).mono ?_
  rintro e w5 ⟨rfl, F5, v5, t5, f5⟩
  have v5' : VolD w5 F5 v d b 1000 (nameV 7) [kQ] kP2.1.2 := k_put2.2.1 ▸ v5
  have V5 := hide v5'
  have FF5 : Hid (∀ k, F5 k → w.heap.size ≤ k) := hide (fun k hk => (f5 k hk).elim (FF3.out k) (fun e => Nat.le_trans K4.out.size e))
  have K5 := hide (K4.out.trans (t5.below K4.out.size (fun k e => e.elim (FF3.out k) (fun e => by rw [e]; exact HB.out))))
  have O5 := hide (O4.out.turn t5 (fun g hg e => by have h1 := (O4.out.lt g hg).1; have h2 := LW.out g e; omega))
  clear v5 v5' t5 f5 V4 FF3 K4 O4 LW
  go_wp2_with fail
  refine (vget_as V5.out (by rw [nameV_size]; decide) 1 5 (by decide) (k_put2.2.1 ▸ k_put2.2.2.1)).mono ?_
  rintro e w6 ⟨u6, rfl, o6, k6⟩
  have V6 := hide (V5.out.below k6)
  have K6 := hide (K5.out.trans (k6.mono K5.out.size))
  have O6 := hide (O5.out.turn (Turn.of_below (fun _ => False) k6) (fun _ _ => id))
  clear o6 k6 V5 K5 O5
  obtain ⟨A6, c6, rfl, i6, l6, m6⟩ := O6.out.isB.form (n := 2) rfl
  have kc := fun (w : World) (C : Array Value) (n c : Nat) => const_bytes w C n c _ rfl
  clear i6 l6 m6
  go_wp2_with fail
  refine (same_any A6 _ 2 2 c6 2 [97, 98] [97, 98] _ (O6.out.isB.keep (KC.out w6 _ _)).rd (IC.out w6 _ _ rfl).rd rfl rfl (by decide) (by decide)).mono ?_
  rintro e w7 ⟨rfl, d7, rfl⟩
  have V7 := hide ((V6.out.below (KC.out w6 #[.int .u8 97, .int .u8 98] (2, 3))).below (below_drewN (Below.refl _ _) d7))
  have K7 := hide (below_drewN (K6.out.trans ((KC.out w6 #[.int .u8 97, .int .u8 98] (2, 3)).mono K6.out.size)) d7)
  rw [decide_eq_true rfl]
  clear V6 K6 O6 kc
  go_wp2_with fail
  refine (dirt_one V7.out (by rw [nameV_size]; decide)).mono ?_
  rintro e w8 ⟨rfl, k8⟩
  have K8 := hide (K7.out.trans (k8.mono K7.out.size))
  have ed : dirt1 (szV (nameV 7).data.toList kP2.1.2) kQ = 32 := k_put2.2.2.2
  rw [ed]
  clear k8 V7 K7 ed
  go_wp2_with fail
  go_ret
  exact ⟨rfl, K8.out⟩
end Go.Proofs.Ytehgjkckhjggbaa
namespace Go.Proofs.Ytehgjkckhjggbaa
open Go.RowKit Go.Maps
/-- What the law counts of its rows. -/
def totK (xss : List (List Nat)) : Nat := (xss.map fun r => 40 + r.length).sum
theorem totK_step (xss : List (List Nat)) (j : Nat) (h : j < xss.length) : totK (xss.take (j + 1)) = totK (xss.take j) + 40 + (xss.getD j []).length := by
  rw [List.take_succ_eq_append_getElem h]
  have e : xss.getD j [] = xss[j] := by simp [h]
  rw [e]
  simp only [totK, List.map_append, List.sum_append, List.map_cons, List.map_nil, List.sum_cons, List.sum_nil]
  omega
theorem totK_len (xss : List (List Nat)) : 40 * xss.length ≤ totK xss := by
  induction xss with
  | nil => simp [totK]
  | cons r l ih => simp only [totK, List.map_cons, List.sum_cons, List.length_cons] at ih ⊢; omega
theorem totK_mem (xss : List (List Nat)) (r : List Nat) (h : r ∈ xss) : r.length + 40 ≤ totK xss := by
  induction xss with
  | nil => cases h
  | cons q l ih =>
    simp only [totK, List.map_cons, List.sum_cons] at ih ⊢
    rcases List.mem_cons.1 h with rfl | h
    · omega
    · have := ih h; omega
theorem totK_take (xss : List (List Nat)) (j : Nat) : totK (xss.take j) ≤ totK xss := by
  induction xss generalizing j with
  | nil => simp [totK]
  | cons q l ih =>
    rcases j with _ | j
    · simp [totK]
    · have := ih j
      simp only [totK, List.take_succ_cons, List.map_cons, List.sum_cons] at this ⊢
      omega
theorem rotR_size {rows : List (List Nat)} (hl : ∀ r ∈ rows, r.length ≤ 65536) : ∀ j, j ≤ rows.length → (bytesV (rotR rows j)).length ≤ totK (rows.take j)
  | 0, _ => by simp [rotR, bytesV]
  | j + 1, h => by
    have ih := rotR_size hl j (by omega)
    have hm : rows.getD j [] ∈ rows := by
      have e : rows.getD j [] = rows[j] := by simp [show j < rows.length by omega]
      rw [e]
      exact List.getElem_mem _
    have h1 : (recV (rotN rows j)).length = ndSize (rows.getD j []).length := needleL_len _ _ _ _ (hl _ hm)
    have h2 := (ndSize_ge _ (hl _ hm)).2
    rw [rotR_succ, bytesV_snoc, List.length_append, totK_step rows j (by omega)]
    omega
theorem rotL_one (s : Str) (id : Nat) (rs : List Rec) (k y : Nat) (hk : k < (fileV id rs).length) : (rotL s (k : Int) y (diskV s id rs)).1 = [(s, (rotB (fileV id rs) k y, (fileV id rs).length))] := by
  unfold rotL diskV
  rw [getK_one]
  dsimp only
  rw [if_neg (by omega), putK_one, Int.toNat_natCast]
  rfl
theorem k3r : getK (nameV 3).data.toList ([] : DiskL) = none ∧ layL 1048576 (nameV 3).data.toList (headV 3) [] = (diskV (nameV 3).data.toList 3 [], 0) ∧ 1 ≤ (nameV 3).data.toList.length ∧ (nameV 3).data.toList.length ≤ 64 := by decide +kernel
theorem vopen_some {F : Nat → Prop} {d room : Nat} {L : DiskL} {id : Nat} {w : World} {T : PlL} {L' : DiskL} {c : Nat} (hD : DiskAt w F d room L) (hid : id ≤ 99999999) (hR : openV (nameV id).data.toList id L = (some (T, L'), c)) :
    Calls Try.prog 14 #[.pointer (some ⟨d, 0, none⟩), .int .i64 (id : Int)] w fun e w' => ∃ v b F', e = .returned (.tuple #[.pointer (some ⟨v, 0, none⟩), .int .i64 0]) ∧ VolD w' F' v d b room (nameV id) T L' ∧ Next F w F' w' ∧ w.heap.size ≤ v ∧ w.heap.size ≤ b := by
  have h := vopen_any F d room L id w hD hid
  rw [hR] at h
  exact h
theorem vopen_none {F : Nat → Prop} {d room : Nat} {L : DiskL} {id : Nat} {w : World} {c : Nat} (hD : DiskAt w F d room L) (hid : id ≤ 99999999) (hR : openV (nameV id).data.toList id L = (none, c)) :
    Calls Try.prog 14 #[.pointer (some ⟨d, 0, none⟩), .int .i64 (id : Int)] w fun e w' => e = .returned (.tuple #[.pointer none, .int .i64 (c : Int)]) ∧ Below w.heap.size w w' := by
  have h := vopen_any F d room L id w hD hid
  rw [hR] at h
  exact h
set_option maxRecDepth 100000 in
set_option maxHeartbeats 6400000 in
theorem volumeRots_core (A : Option Addr) (n c : Nat) (x0 : List (List Nat)) (z : Int) (y : Nat) (ag : Bool) (w : World) (hW : IsM w A x0) (hn : x0.length = n) (hl47 : n ≤ 140737488351232) (hb : ∀ r ∈ x0, ∀ x ∈ r, x < 256) (hs : ∀ r ∈ x0, r.length ≤ 140737488351232) (hy : y < 256) :
    Calls Try.prog 4 #[.slice A n c, .int .i64 z, .int .u8 (y : Int), .bool ag] w fun e w' => e = .returned (.bool true) ∧ Below w.heap.size w w' := by
  have HW := hide hW
  have HN := hide hn
  have HB := hide hb
  have HS := hide hs
  have HY := hide hy
  clear hW hn hb hs hy
  go_enter Try.func4, Try.ntmps4
  go_wp2_with fail
  go_loopw [9, 10] (fun m i wr => ∃ j t : Nat, j ≤ n ∧ m = .int .i64 (t : Int) ∧ i = .int .i64 (j : Int) ∧ w = wr ∧ Hid (t = totK (x0.take j))) (fun _ i _ => n - (intOf i).toNat)
  case atStart => exact ⟨0, 0, Nat.zero_le _, rfl, rfl, rfl, rfl⟩
  case round =>
    obtain ⟨j, t, hj, rfl, rfl, rfl, HT⟩ := hrel
    by_cases hgo : j < n ∧ t ≤ 20000
    · obtain ⟨hlt, h8⟩ := hgo
      obtain ⟨b, off, A', c', rfl, q, _, _, _⟩ := HW.out.at_ j (by rw [HN.out]; exact hlt)
      have hl := HS.out (x0.getD j []) (by
        have e : x0.getD j [] = x0[j]'(by rw [HN.out]; exact hlt) := by simp [show j < x0.length by rw [HN.out]; exact hlt]
        rw [e]; exact List.getElem_mem _)
      have hst := totK_step x0 j (by rw [HN.out]; exact hlt)
      have hst : totK (x0.take (j + 1)) = t + 40 + (x0.getD j []).length := by have := HT.out; omega
      obtain ⟨m, hm⟩ : ∃ m, m = (x0.getD j []).length := ⟨_, rfl⟩
      rw [← hm] at q hl hst
      have HST := hide hst
      clear hst hm
      go_wp2_with fail
      go_roundw
      case rel => exact ⟨j + 1, t + 40 + m, by omega, by go_num, by go_num, trivial, HST.out.symm⟩
      case measure => simp [intOf]; omega
    · by_cases hbig : 20000 < t
      · have h8 : ¬ (t : Int) ≤ 20000 := by omega
        have h9 : (6000 : Int) < (t : Int) := by omega
        have hend : ¬ ((j : Int) < (n : Int)) ∨ ((j : Int) < (n : Int)) := by omega
        clear hgo
        rcases hend with hltz | hltz
        all_goals
          go_wp2_with fail
          go_ret
          exact ⟨rfl, Below.refl _ _⟩
      · have hjN : j = n := by omega
        subst hjN
        have TB : Hid (t = totK x0) := by
          have := HT.out
          rw [← HN.out, List.take_length] at this
          exact hide this
        have h8 : (t : Int) ≤ 20000 := by omega
        have hltz : ¬ ((j : Int) < (j : Int)) := by omega
        clear hgo HT
        by_cases hbig6 : 6000 < t
        · have h9 : (6000 : Int) < (t : Int) := by omega
          go_wp2_with fail
          go_ret
          exact ⟨rfl, Below.refl _ _⟩
        · have h9 : ¬ (6000 : Int) < (t : Int) := by omega
          by_cases hy0 : y = 0
          · have hyz : ((y : Int) == 0) = true := by simp [hy0]
            have HY0 := hide hy0
            clear hy0
            go_wp2_with fail
            go_ret
            exact ⟨rfl, Below.refl _ _⟩
          · have hyz : ((y : Int) == 0) = false := by simp; omega
            have HY0 := hide hy0
            have hj150 : j ≤ 150 := by have h1 := totK_len x0; have h2 := TB.out; rw [HN.out] at h1; omega
            have RL := hide (show ∀ r ∈ x0, r.length ≤ 65536 from fun r hr => by have h1 := totK_mem x0 r hr; have h2 := TB.out; omega)
            have FRE := hide (fun j (hj : j ≤ x0.length) => rotR_fresh HB.out RL.out (by rw [HN.out]; omega) j hj)
            have SZ := hide (show ∀ i, i ≤ x0.length → (fileV 3 (rotR x0 i)).length ≤ 6008 from fun i hi => by
              have h1 := rotR_size RL.out i hi
              have h2 := totK_take x0 i
              have h3 := TB.out
              simp only [fileV, List.length_append, headV_len]
              omega)
            clear hy0 hbig hbig6
            go_wp2_with fail
            refine (new_any 1048576 w (by decide)).mono ?_
            rintro e w1 ⟨d, F1, rfl, d1, g1, k1⟩
            have D1 := hide d1
            have FF1 := hide g1
            have K1 := hide k1
            clear d1 g1 k1
            go_wp2_with fail
            refine (create_ok F1 d 1048576 [] 3 w1 D1.out (by decide) k3r.1 (congrArg Prod.snd k3r.2.1)).mono ?_
            rintro e w2 ⟨v, b, F2, rfl, v2, n2, hv, hbb⟩
            rw [congrArg Prod.fst k3r.2.1] at v2
            have V2 := hide v2
            have FF2 := hide (n2.up K1.out.size FF1.out)
            have K2 := hide (K1.out.trans (n2.below K1.out.size FF1.out))
            have HBB := hide (Nat.le_trans K1.out.size hbb)
            clear v2 n2 hv hbb D1 FF1 K1
            go_wp2_with fail
            go_loopw [15] (fun i wr => ∃ (i' : Nat) (F' : Nat → Prop), i' ≤ j ∧ i = .int .i64 (i' : Int) ∧ Hid (VolD wr F' v d b 1048576 (nameV 3) (plsV 8 (rotR x0 i') []) (diskV (nameV 3).data.toList 3 (rotR x0 i'))) ∧ Hid (∀ k, F' k → w.heap.size ≤ k) ∧ Hid (Below w.heap.size w wr)) (fun i _ => j - (intOf i).toNat)
            case atStart => exact ⟨0, F2, Nat.zero_le _, rfl, V2, FF2, K2⟩
            case round =>
              obtain ⟨i, F', hi, rfl, V, FF, KW⟩ := hrel
              clear V2 FF2 K2
              rcases Nat.lt_or_ge i j with hij | hij
              · have fij : (i : Int) < (j : Int) := by omega
                obtain ⟨rb, ro, A', c', rfl, q0, i0, l0, m0⟩ := HW.out.at_ i (by rw [HN.out]; exact hij)
                have q := (KW.out.cell (cell_lt q0)).trans q0
                have hmem : x0.getD i [] ∈ x0 := by
                  have e : x0.getD i [] = x0[i]'(by rw [HN.out]; exact hij) := by simp [show i < x0.length by rw [HN.out]; exact hij]
                  rw [e]; exact List.getElem_mem _
                have I0 := hide (i0.keep KW.out)
                have DB := hide (HB.out _ hmem)
                have hP := putV_one 1048576 (nameV 3).data.toList 3 (rotR x0 i) (rotN x0 i) k3r.2.2 (FRE.out i (by rw [HN.out]; exact hi)).ok (rotN_ok HB.out RL.out (by rw [HN.out]; omega) i (by rw [HN.out]; exact hij)) (by have := SZ.out i (by rw [HN.out]; exact hi); omega) (by have := SZ.out i (by rw [HN.out]; exact hi); omega) ((plsV_none i (rotR x0 i) 8 [] List.Pairwise.nil (fun q hq e => by have := (rotR_mem hq).1; omega)).trans rfl)
                rw [← rotR_succ] at hP
                have HP : Hid (putV 1048576 (nameV 3).data.toList i 7 false (x0.getD i []) (plsV 8 (rotR x0 i) []) (diskV (nameV 3).data.toList 3 (rotR x0 i)) = ((plsV 8 (rotR x0 (i + 1)) [], diskV (nameV 3).data.toList 3 (rotR x0 (i + 1))), 0)) := hide hP
                obtain ⟨m, hm⟩ : ∃ m, m = (x0.getD i []).length := ⟨_, rfl⟩
                rw [← hm] at q l0
                have I0 : Hid (IsB wr (.slice A' m c') (x0.getD i [])) := hide (by have := I0.out; rw [← hm] at this; exact this)
                have HM := hide hm
                have e64 : IntKind.u64.wrap (i : Int) = (i : Int) := by rw [IntKind.wrap_u64]; omega
                have h8z : Hid (8 ≤ szV (nameV 3).data.toList (diskV (nameV 3).data.toList 3 (rotR x0 i))) := hide (by rw [szV_one]; simp [fileV, headV_len])
                have hTl : Hid ((plsV 8 (rotR x0 i) []).length < 1099511627776) := hide (by have h1 := plsV_len (rotR x0 i) 8 []; simp only [List.length_nil, rotR, List.length_map, List.length_range] at h1; show (plsV 8 (rotR x0 i) []).length < _; unfold rotR; omega)
                clear hm hP hmem i0 q0
                go_wp2_with fail
                refine (vput_as (c0 := 0) V.out (by rw [nameV_size]; decide) h8z.out hTl.out i 7 false A' m c' (x0.getD i []) (by omega) (by decide) I0.out HM.out.symm DB.out HP.out rfl).mono ?_
                rintro e w3 ⟨rfl, F3, v3, t3, f3⟩
                have V3 := hide v3
                have FF3 : Hid (∀ k, F3 k → w.heap.size ≤ k) := hide (fun k hk => (f3 k hk).elim (FF.out k) (fun e => Nat.le_trans KW.out.size e))
                have K3 := hide (KW.out.trans (t3.below KW.out.size (fun k e => e.elim (FF.out k) (fun e => by rw [e]; exact HBB.out))))
                clear v3 t3 f3 V FF KW I0 HM DB HP h8z hTl q
                go_wp2_with fail
                go_roundw
                case rel => exact ⟨i + 1, F3, by omega, by go_num, V3, FF3, K3⟩
                case measure => simp [intOf]; omega
              · obtain rfl : i = j := by omega
                have fij : ¬ ((i : Int) < (i : Int)) := by omega
                go_wp2_with fail
                refine (vsize_any V.out (by rw [nameV_size]; decide)).mono ?_
                rintro e w4 ⟨rfl, k4⟩
                have V4 := hide (V.out.below k4)
                have K4 := hide (KW.out.trans (k4.mono KW.out.size))
                have hsz := SZ.out i (by rw [HN.out]; exact Nat.le_refl _)
                have h8 : 8 ≤ (fileV 3 (rotR x0 i)).length := by simp [fileV, headV_len]
                obtain ⟨N, hN⟩ : ∃ N, N = (fileV 3 (rotR x0 i)).length := ⟨_, rfl⟩
                rw [szV_one, ← hN]
                rw [← hN] at hsz h8
                have HNF := hide hN
                clear hN k4 V KW
                have hlt : z.tmod (N : Int) < (N : Int) := Int.tmod_lt_of_pos z (by omega)
                have hgt : -(N : Int) < z.tmod (N : Int) := by
                  have := Int.tmod_lt_of_pos (-z) (show (0 : Int) < N by omega)
                  rw [Int.neg_tmod] at this
                  omega
                obtain ⟨k, hk, hkk⟩ : ∃ k : Nat, k < N ∧ (¬ z.tmod (N : Int) < 0 ∧ Hid (z.tmod (N : Int) = (k : Int)) ∨ z.tmod (N : Int) < 0 ∧ Hid (z.tmod (N : Int) + (N : Int) = (k : Int))) := by
                  by_cases h0 : z.tmod (N : Int) < 0
                  · exact ⟨(z.tmod (N : Int) + N).toNat, by omega, .inr ⟨h0, hide (by omega)⟩⟩
                  · exact ⟨(z.tmod (N : Int)).toNat, by omega, .inl ⟨h0, hide (by omega)⟩⟩
                have hF := FRE.out i (by rw [HN.out]; exact Nat.le_refl _)
                have RO := hide (rot_open (rows := x0) (by rw [HN.out]; exact hF) (nameV 3).data.toList k y (by rw [HN.out, ← HNF.out]; exact hk) HY.out (by have := HY0.out; omega))
                have RP : Hid (∃ j0, RotOk (plsV 8 (rotR x0 i) []) (rotB (fileV 3 (rotR x0 i)) k y) x0 false j0) := hide (by
                  have hF : Fresh (rotR x0 x0.length) := by rw [HN.out]; exact hF
                  by_cases hk8 : k < 8
                  · refine ⟨0, ?_⟩
                    have h9 := rot_head (rows := x0) hF (rotB (headV 3) k y) (by rw [rotB_len, headV_len])
                    rw [HN.out] at h9
                    rw [show rotB (fileV 3 (rotR x0 i)) k y = rotB (headV 3) k y ++ bytesV (rotR x0 i) from rotB_left _ _ _ _ (by rw [headV_len]; exact hk8)]
                    exact h9
                  · have hfl : (fileV 3 (rotR x0 i)).length = 8 + (bytesV (rotR x0 i)).length := by unfold fileV; rw [List.length_append, headV_len]
                    obtain ⟨ra, r, rb, i2, er, en, hi2⟩ := split_recs (rotR x0 i) (k - 8) (by rw [HNF.out] at hk; omega)
                    have h9 := rot_rec (rows := x0) hF (headV 3) (headV_len 3) ra rb r (by rw [HN.out]; exact er) i2 y hi2 HY.out HY0.out
                    rw [HN.out] at h9
                    refine ⟨r.1, ?_⟩
                    have eB : rotB (fileV 3 (rotR x0 i)) k y = headV 3 ++ bytesV ra ++ (rotB (recV r) i2 y ++ bytesV rb) := by
                      unfold fileV
                      rw [rotB_right _ _ k (k - 8) y (by rw [headV_len]; omega), er, bytesV_app, bytesV_cons, rotB_right _ _ (k - 8) i2 y en, rotB_left _ _ _ _ hi2]
                      simp
                    rw [eB]
                    exact h9)
                clear hF h8
                rcases hkk with ⟨hr0, HK⟩ | ⟨hr0, HK⟩
                all_goals
                  go_wp2_with fail
                  rw [HK.out]
                  clear hlt hgt hr0
                  refine (vname_any 3 w4 (by decide)).mono ?_
                  rintro e w5 ⟨rfl, k5⟩
                  have V5 := hide (V4.out.below k5)
                  have K5 := hide (K4.out.trans (k5.mono K4.out.size))
                  clear k5 V4 K4
                  go_wp2_with fail
                  refine (rot_any _ d 1048576 _ (nameV 3) w5 V5.out.disk (by rw [nameV_size]; decide) (k : Int) y HY.out).mono ?_
                  rintro e w6 ⟨rfl, F6, d6, n6⟩
                  rw [rotL_one _ _ _ _ _ (by rw [← HNF.out]; exact hk)] at d6
                  have V6 := hide (V5.out.disked d6 n6)
                  have FF6 := hide (n6.up K5.out.size FF.out)
                  have K6 := hide (K5.out.trans (n6.below K5.out.size FF.out))
                  clear d6 n6 V5 K5
                  cases ag with
                  | false =>
                    obtain ⟨j0, RK⟩ := RP.out
                    have RK := hide RK
                    clear RO RP
                    go_wp2_with fail
                    go_loopw [20, 21] (fun bad ii wr => ∃ (q c9 : Nat), q ≤ i ∧ bad = .int .i64 (c9 : Int) ∧ ii = .int .i64 (q : Int) ∧ Hid (VolD wr F6 v d b 1048576 (nameV 3) (plsV 8 (rotR x0 i) []) [((nameV 3).data.toList, ((rotB (fileV 3 (rotR x0 i)) k y), (fileV 3 (rotR x0 i)).length))]) ∧ c9 ≤ q ∧ Hid (false = false → c9 ≤ 1 ∧ (q ≤ j0 → c9 = 0)) ∧ Hid (Below w.heap.size w wr)) (fun _ ii _ => i - (intOf ii).toNat)
                    case atStart => exact ⟨0, 0, Nat.zero_le _, rfl, rfl, V6, Nat.le_refl _, hide (fun _ => ⟨by omega, fun _ => rfl⟩), K6⟩
                    case round =>
                      obtain ⟨q, c9, hq, rfl, rfl, V9, hcq, HC, K9⟩ := hrel
                      clear V6 K6
                      rcases Nat.lt_or_ge q i with hqi | hqi
                      · have fqi : (q : Int) < (i : Int) := by omega
                        have e64 : IntKind.u64.wrap (q : Int) = (q : Int) := by rw [IntKind.wrap_u64]; omega
                        obtain ⟨R, hR⟩ : ∃ R, R = getV q 7 ((plsV 8 (rotR x0 i) [])) ((rotB (fileV 3 (rotR x0 i)) k y)) := ⟨_, rfl⟩
                        have hr0 := RK.out q (by rw [HN.out]; exact hqi)
                        rw [← hR] at hr0
                        have HR0 := hide hr0
                        have HRD : Hid (getV q 7 ((plsV 8 (rotR x0 i) [])) (readL (nameV 3).data.toList [((nameV 3).data.toList, ((rotB (fileV 3 (rotR x0 i)) k y), (fileV 3 (rotR x0 i)).length))]).1 = R) := hide (by simp only [readL, getK_one]; exact hR.symm)
                        clear hr0 hR
                        go_wp2_with fail
                        refine (vget_as V9.out (by rw [nameV_size]; decide) q 7 (by omega) HRD.out).mono ?_
                        rintro e w10 ⟨u10, rfl, o10, k10⟩
                        have V10 := hide (V9.out.below k10)
                        have K10 := hide (K9.out.trans (k10.mono K9.out.size))
                        obtain ⟨rd, rc⟩ := R
                        dsimp only at o10 ⊢
                        rcases HR0.out with he | ⟨hne, hone⟩
                        · obtain ⟨rfl, rfl⟩ := Prod.mk.inj he
                          obtain ⟨rb, ro, A', c', rfl, q0, i0, l0, m0⟩ := HW.out.at_ q (by rw [HN.out]; exact hqi)
                          have qq := (K10.out.cell (cell_lt q0)).trans q0
                          have I0 := hide (i0.keep K10.out)
                          obtain ⟨m, hm⟩ : ∃ m, m = (x0.getD q []).length := ⟨_, rfl⟩
                          rw [← hm] at qq l0
                          have I0 : Hid (IsB w10 (.slice A' m c') (x0.getD q [])) := hide (by have := I0.out; rw [← hm] at this; exact this)
                          obtain ⟨A10, c10, rfl, i10, l10, m10⟩ := o10.isB.form hm.symm
                          have I10 := hide i10
                          have HM := hide hm
                          clear hm i10 i0 q0 o10 k10 V9 K9 HRD he l10 m10
                          go_wp2_with fail
                          refine (same_any A10 A' m m c10 c' (x0.getD q []) (x0.getD q []) _ I10.out.rd I0.out.rd HM.out HM.out (by omega) (by omega)).mono ?_
                          rintro e w11 ⟨rfl, d11, rfl⟩
                          rw [decide_eq_true rfl]
                          go_wp2_with fail
                          exact ⟨⟨q + 1, c9, by omega, rfl, rfl, hide (V10.out.below (below_drewN (Below.refl _ _) d11)), by omega, hide (fun e => ⟨(HC.out e).1, fun h => (HC.out e).2 (by omega)⟩), hide (below_drewN K10.out d11)⟩, by simp [intOf]; omega⟩
                        · have hcz : ((rc : Int) != 0) = true := by
                            have : rc ≠ 0 := hne
                            simp
                            omega
                          have HONE := hide hone
                          clear hne hone o10 k10 V9 K9 HRD
                          go_wp2_with fail
                          exact ⟨⟨q + 1, c9 + 1, by omega, by go_num, rfl, V10, by omega, hide (fun e => by have h1 := HONE.out e; have h2 := HC.out e; have h3 := h2.2 (by omega); exact ⟨by omega, fun h => by omega⟩), K10⟩, by simp [intOf]; omega⟩
                      · obtain rfl : q = i := by omega
                        have fqi : ¬ ((q : Int) < (q : Int)) := by omega
                        have hc1 : (c9 : Int) ≤ 1 := by have := (HC.out rfl).1; omega
                        go_wp2_with fail
                        refine (known_any _).mono ?_
                        rintro e w12 ⟨rfl, k12⟩
                        have K12 := hide (K9.out.trans (k12.mono K9.out.size))
                        clear k12
                        go_wp2_with fail
                        go_ret
                        exact ⟨rfl, K12.out⟩
                  | true =>
                    rcases RO.out with ⟨hk8, hop⟩ | ⟨hk8, T', B', l', hop, RK⟩
                    · have hk8z : (k : Int) < 8 := by omega
                      rw [HN.out] at hop
                      have HOP := hide hop
                      clear hop RO RP
                      go_wp2_with fail
                      refine (vopen_none V6.out.disk (by decide) HOP.out).mono ?_
                      rintro e w7 ⟨rfl, k7⟩
                      have K7 := hide (K6.out.trans (k7.mono K6.out.size))
                      clear k7 V6 K6 FF6
                      go_wp2_with fail
                      refine (known_any _).mono ?_
                      rintro e w8 ⟨rfl, k8⟩
                      have K8 := hide (K7.out.trans (k8.mono K7.out.size))
                      clear k8
                      go_wp2_with fail
                      go_ret
                      exact ⟨rfl, K8.out⟩
                    · rw [HN.out] at hop
                      have HOP := hide hop
                      have RK := hide RK
                      clear hop RO RP
                      go_wp2_with fail
                      refine (vopen_some V6.out.disk (by decide) HOP.out).mono ?_
                      rintro e w7 ⟨v7, b7, F7, rfl, vv7, n7, hv7, hb7⟩
                      have V6 := hide vv7
                      have K6 := hide (K6.out.trans (n7.below K6.out.size FF6.out))
                      clear vv7 n7 hv7 hb7 FF6
                      go_wp2_with fail
                      go_loopw [20, 21] (fun bad ii wr => ∃ (q c9 : Nat), q ≤ i ∧ bad = .int .i64 (c9 : Int) ∧ ii = .int .i64 (q : Int) ∧ Hid (VolD wr F7 v7 d b7 1048576 (nameV 3) T' [((nameV 3).data.toList, (B', l'))]) ∧ c9 ≤ q ∧ Hid (true = false → c9 ≤ 1 ∧ (q ≤ 0 → c9 = 0)) ∧ Hid (Below w.heap.size w wr)) (fun _ ii _ => i - (intOf ii).toNat)
                      case atStart => exact ⟨0, 0, Nat.zero_le _, rfl, rfl, V6, Nat.le_refl _, hide (fun _ => ⟨by omega, fun _ => rfl⟩), K6⟩
                      case round =>
                        obtain ⟨q, c9, hq, rfl, rfl, V9, hcq, HC, K9⟩ := hrel
                        clear V6 K6
                        rcases Nat.lt_or_ge q i with hqi | hqi
                        · have fqi : (q : Int) < (i : Int) := by omega
                          have e64 : IntKind.u64.wrap (q : Int) = (q : Int) := by rw [IntKind.wrap_u64]; omega
                          obtain ⟨R, hR⟩ : ∃ R, R = getV q 7 (T') (B') := ⟨_, rfl⟩
                          have hr0 := RK.out q (by rw [HN.out]; exact hqi)
                          rw [← hR] at hr0
                          have HR0 := hide hr0
                          have HRD : Hid (getV q 7 (T') (readL (nameV 3).data.toList [((nameV 3).data.toList, (B', l'))]).1 = R) := hide (by simp only [readL, getK_one]; exact hR.symm)
                          clear hr0 hR
                          go_wp2_with fail
                          refine (vget_as V9.out (by rw [nameV_size]; decide) q 7 (by omega) HRD.out).mono ?_
                          rintro e w10 ⟨u10, rfl, o10, k10⟩
                          have V10 := hide (V9.out.below k10)
                          have K10 := hide (K9.out.trans (k10.mono K9.out.size))
                          obtain ⟨rd, rc⟩ := R
                          dsimp only at o10 ⊢
                          rcases HR0.out with he | ⟨hne, hone⟩
                          · obtain ⟨rfl, rfl⟩ := Prod.mk.inj he
                            obtain ⟨rb, ro, A', c', rfl, q0, i0, l0, m0⟩ := HW.out.at_ q (by rw [HN.out]; exact hqi)
                            have qq := (K10.out.cell (cell_lt q0)).trans q0
                            have I0 := hide (i0.keep K10.out)
                            obtain ⟨m, hm⟩ : ∃ m, m = (x0.getD q []).length := ⟨_, rfl⟩
                            rw [← hm] at qq l0
                            have I0 : Hid (IsB w10 (.slice A' m c') (x0.getD q [])) := hide (by have := I0.out; rw [← hm] at this; exact this)
                            obtain ⟨A10, c10, rfl, i10, l10, m10⟩ := o10.isB.form hm.symm
                            have I10 := hide i10
                            have HM := hide hm
                            clear hm i10 i0 q0 o10 k10 V9 K9 HRD he l10 m10
                            go_wp2_with fail
                            refine (same_any A10 A' m m c10 c' (x0.getD q []) (x0.getD q []) _ I10.out.rd I0.out.rd HM.out HM.out (by omega) (by omega)).mono ?_
                            rintro e w11 ⟨rfl, d11, rfl⟩
                            rw [decide_eq_true rfl]
                            go_wp2_with fail
                            exact ⟨⟨q + 1, c9, by omega, rfl, rfl, hide (V10.out.below (below_drewN (Below.refl _ _) d11)), by omega, hide (fun e => ⟨(HC.out e).1, fun h => (HC.out e).2 (by omega)⟩), hide (below_drewN K10.out d11)⟩, by simp [intOf]; omega⟩
                          · have hcz : ((rc : Int) != 0) = true := by
                              have : rc ≠ 0 := hne
                              simp
                              omega
                            have HONE := hide hone
                            clear hne hone o10 k10 V9 K9 HRD
                            go_wp2_with fail
                            exact ⟨⟨q + 1, c9 + 1, by omega, by go_num, rfl, V10, by omega, hide (fun e => by have h1 := HONE.out e; have h2 := HC.out e; have h3 := h2.2 (by omega); exact ⟨by omega, fun h => by omega⟩), K10⟩, by simp [intOf]; omega⟩
                        · obtain rfl : q = i := by omega
                          have fqi : ¬ ((q : Int) < (q : Int)) := by omega
                          go_wp2_with fail
                          refine (known_any _).mono ?_
                          rintro e w12 ⟨rfl, k12⟩
                          have K12 := hide (K9.out.trans (k12.mono K9.out.size))
                          clear k12
                          go_wp2_with fail
                          go_ret
                          exact ⟨rfl, K12.out⟩
theorem volumeRots_walk (a0 : Option Addr) (len0 cap0 : Nat) (x0 : List (List Nat)) (a1 a2 : Int) (a3 : Bool) (W : World) (w0 : IsM W a0 x0) (n0 : x0.length = len0) (l0 : len0 ≤ 140737488351232) (y0 : ∀ r ∈ x0, ∀ x ∈ r, x < 256) (s0 : ∀ r ∈ x0, r.length ≤ 140737488351232) (_ : (Lit.int .i64 a1).wf = true) (w2 : (Lit.int .u8 a2).wf = true) :
    Calls Try.prog 4 #[.slice a0 len0 cap0, .int .i64 a1, .int .u8 a2, .bool a3] W fun e w' => e = .returned (.bool true) ∧ Below W.heap.size W w' := by
  have h9 := w2
  simp [Lit.wf, IntKind.min, IntKind.max, IntKind.signed, IntKind.bits] at h9
  obtain ⟨y, rfl⟩ : ∃ y : Nat, a2 = (y : Int) := ⟨a2.toNat, by omega⟩
  exact volumeRots_core a0 len0 cap0 x0 a1 y a3 W w0 n0 l0 y0 s0 (by omega)
end Go.Proofs.Ytehgjkckhjggbaa
