/- The walk of the law KeepLasts. No conditions but the widths. -/
import Derived.Test.YtmledochidefeaaKnown9
import Derived.Test.YtmledochidefeaaIsM
namespace Go.Proofs.Ytmledochidefeaa
open Go.RowKit Go.Maps
/-- What the law counts: ten for each row, and its bytes. -/
def tot (xss : List (List Nat)) : Nat := (xss.map fun r => 10 + r.length).sum
theorem tot_step (xss : List (List Nat)) (j : Nat) (hj : j < xss.length) : tot (xss.take (j + 1)) = tot (xss.take j) + 10 + (xss.getD j []).length := by
  unfold tot
  rw [List.take_succ_eq_append_getElem hj, List.map_append, List.sum_append]
  simp [hj]
  omega
theorem tot_le (xss : List (List Nat)) (r : List Nat) (h : r ∈ xss) : 10 + r.length ≤ tot xss := by
  unfold tot
  induction xss with
  | nil => cases h
  | cons x xs ih =>
    rw [List.map_cons, List.sum_cons]
    rcases List.mem_cons.1 h with rfl | h'
    · omega
    · have := ih h'; omega
/-- The disk ahead of a round: nothing, or a file of which all lasts. -/
def Stands (M : DiskL) : Prop := M = [] ∨ ∃ b, M = [([102], (b, b.length))] ∧ b.length ≤ 8008
theorem stands_save {M : DiskL} (h : Stands M) {p : List Nat} (hp : p.length ≤ 8000) : saveL 1048576 [102] p M = ([([102], (frameL p, (frameL p).length))], 0) := by
  rw [frame_len]
  rcases h with rfl | ⟨b, rfl, hb⟩
  · exact save_new (by decide) (by omega) (by omega)
  · exact save_over (by decide) (by omega) _ _ (by omega)
theorem mem_getD {xss : List (List Nat)} {j : Nat} (hj : j < xss.length) : xss.getD j [] ∈ xss := by
  have e : xss.getD j [] = xss[j] := by simp [hj]
  rw [e]
  exact List.getElem_mem hj
set_option maxRecDepth 100000 in
set_option maxHeartbeats 6400000 in
theorem keepLasts_walk (a0 : Option Addr) (len0 cap0 : Nat) (x0 : List (List Nat)) (a1 : Int) (w : World) (w0 : IsM w a0 x0) (n0 : x0.length = len0) (l0 : len0 ≤ 140737488351232) (y0 : ∀ r ∈ x0, ∀ x ∈ r, x < 256) (s0 : ∀ r ∈ x0, r.length ≤ 140737488351232) (_w1 : (Lit.int .i64 a1).wf = true) :
    Calls Try.prog 4 #[.slice a0 len0 cap0, .int .i64 a1] w fun e w' => e = .returned (.bool true) ∧ Below w.heap.size w w' := by
  have HW := hide w0
  have HN := hide n0
  have HY := hide y0
  have HS := hide s0
  clear w0 n0 y0 s0
  go_enter Try.func4, Try.ntmps4
  go_wp2_with fail
  go_loopw [5, 6] (fun n i wr => ∃ j t : Nat, j ≤ len0 ∧ n = .int .i64 (t : Int) ∧ i = .int .i64 (j : Int) ∧ w = wr ∧ Hid (t = tot (x0.take j)) ∧ t ≤ 140737488359362) (fun _ i _ => len0 - (intOf i).toNat)
  case atStart => exact ⟨0, 0, Nat.zero_le _, rfl, rfl, rfl, rfl, by omega⟩
  case round =>
    obtain ⟨j, t, hj, rfl, rfl, rfl, HT, htb⟩ := hrel
    by_cases hgo : j < len0 ∧ t ≤ 8000
    · obtain ⟨hlt, h8⟩ := hgo
      obtain ⟨b, off, A', c, rfl, q, _, _, _⟩ := HW.out.at_ j (by rw [HN.out]; exact hlt)
      have hl := HS.out _ (mem_getD (xss := x0) (j := j) (by rw [HN.out]; exact hlt))
      have hst := tot_step x0 j (by rw [HN.out]; exact hlt)
      rw [← HT.out] at hst
      obtain ⟨m, hm⟩ : ∃ m, m = (x0.getD j []).length := ⟨_, rfl⟩
      rw [← hm] at q hl hst
      have HST := hide hst
      clear hst hm
      go_wp2_with fail
      go_roundw
      case rel => exact ⟨j + 1, t + 10 + m, by omega, by go_num, by go_num, trivial, HST.out.symm, by omega⟩
      case measure => simp [intOf]; omega
    · by_cases hbig : 8000 < t
      · have h8 : ¬ (t : Int) ≤ 8000 := by omega
        have hend : ¬ ((j : Int) < (len0 : Int)) ∨ ((j : Int) < (len0 : Int)) := by omega
        clear hgo
        rcases hend with hltz | hltz
        all_goals
          go_wp2_with fail
          go_ret
          exact ⟨rfl, Below.refl _ _⟩
      · have hjN : j = len0 := by omega
        subst hjN
        have TA : Hid (tot x0 ≤ 8000) := by
          have := HT.out
          rw [← HN.out, List.take_length] at this
          unfold Hid
          omega
        have h8 : ¬ 8000 < t := hbig
        clear hgo HT htb
        go_wp2_with fail
        refine (new_any 1048576 w (by decide)).mono ?_
        rintro e w1 ⟨d, F1, rfl, d1, u1, k1⟩
        have D1 := hide d1
        have K1 := hide k1
        have U1 := hide u1
        clear d1 u1 k1
        go_wp2_with fail
        go_loopw [9] (fun i wr => ∃ (k : Nat) (F : Nat → Prop) (M : DiskL), k ≤ j ∧ i = .int .i64 (k : Int) ∧ Hid (Stands M) ∧ Hid (DiskAt wr F d 1048576 M) ∧ Hid (∀ q, F q → w.heap.size ≤ q) ∧ Hid (Below w.heap.size w wr)) (fun i _ => j - (intOf i).toNat)
        case atStart => exact ⟨0, F1, [], Nat.zero_le _, rfl, .inl rfl, D1.out, U1.out, K1.out⟩
        case round =>
          clear D1 U1 K1
          obtain ⟨k, F, M, hk, rfl, HM, D, U, K⟩ := hrel
          by_cases hlt : k < j
          · obtain ⟨b, off, A', c, rfl, q, i1, _, m1⟩ := HW.out.at_ k (by rw [HN.out]; exact hlt)
            have hmem := mem_getD (xss := x0) (j := k) (by rw [HN.out]; exact hlt)
            have hl : (x0.getD k []).length ≤ 8000 := by
              have := tot_le x0 _ hmem
              have := TA.out
              omega
            have hbyte := HY.out _ hmem
            obtain ⟨p, hp⟩ : ∃ p, p = x0.getD k [] := ⟨_, rfl⟩
            rw [← hp] at q i1 hl hbyte
            obtain ⟨m, hm⟩ : ∃ m, m = p.length := ⟨_, rfl⟩
            rw [← hm] at q i1 hl
            have I1 := hide i1
            have HB := hide hbyte
            have HP := hide hm
            have SV := hide (stands_save HM.out (p := p) (by rw [← hm]; exact hl))
            have hbw : b < w.heap.size := cell_lt q
            have q1 := (K.out.cell (p := ⟨b, off + k, none⟩) hbw).trans q
            clear i1 hbyte hm hp hmem
            go_wp2_with fail
            refine (save_any F d 1048576 M ⟨#[102]⟩ A' m c p _ D.out (by decide) (I1.out.keep K.out) HP.out.symm HB.out (by omega)).mono ?_
            rintro e w2 ⟨rfl, F2, d2, n2⟩
            rw [show saveL 1048576 (⟨#[102]⟩ : ByteArray).data.toList p M = ([([102], (frameL p, (frameL p).length))], 0) from SV.out] at d2 ⊢
            have K2 := hide (K.out.trans (n2.below K.out.size U.out))
            have U2 := hide (n2.up K.out.size U.out)
            have D2 := hide d2
            clear d2 n2 q1
            go_wp2_with fail
            refine (crash_any F2 d 1048576 _ a1 w2 D2.out).mono ?_
            rintro e w3 ⟨rfl, F3, d3, n3⟩
            rw [crash_whole] at d3
            have K3 := hide (K2.out.trans (n3.below K2.out.size U2.out))
            have U3 := hide (n3.up K2.out.size U2.out)
            have D3 := hide d3
            clear d3 n3
            go_wp2_with fail
            refine (load_any F3 d 1048576 _ ⟨#[102]⟩ w3 D3.out (by decide)).mono ?_
            rintro e w4 ⟨v, rfl, o4, k4⟩
            have lo := load_one (k := [102]) (p := p) (frameL p).length (by rw [← HP.out]; omega)
            rw [show loadL (⟨#[102]⟩ : ByteArray).data.toList [([102], (frameL p, (frameL p).length))] = (p, 0) from lo] at o4 ⊢
            obtain ⟨A5, c5, rfl, i5, l5, m5⟩ := o4.isB.form (n := m) HP.out.symm
            have I5 := hide i5
            have K4 := hide (K3.out.trans (k4.mono K3.out.size))
            have D4 := hide (D3.out.below k4)
            have q4 := (K4.out.cell (p := ⟨b, off + k, none⟩) hbw).trans q
            clear o4 i5 k4 lo
            go_wp2_with fail
            refine (same_any A5 A' m m c5 c p p w4 I5.out.rd (I1.out.keep K4.out).rd HP.out HP.out (by omega) (by omega)).mono ?_
            rintro e w5 ⟨rfl, d5, rfl⟩
            rw [decide_eq_true rfl]
            have K5 := hide (below_drewN K4.out d5)
            have D5 := hide (D4.out.below (below_drewN (Below.refl _ _) d5))
            have ST : Hid (Stands [([102], (frameL p, (frameL p).length))]) := hide (.inr ⟨frameL p, rfl, by rw [frame_len, ← HP.out]; omega⟩)
            clear q4
            go_wp2_with fail
            go_roundw
            case rel => exact ⟨k + 1, F3, _, by omega, by go_num, ST, D5, U3, K5⟩
            case measure => simp [intOf]; omega
          · obtain rfl : k = j := by omega
            go_wp2_with fail
            refine (known_any _).mono ?_
            rintro e w6 ⟨rfl, k6⟩
            go_wp2_with fail
            go_ret
            exact ⟨rfl, below_step K.out k6⟩
end Go.Proofs.Ytmledochidefeaa
