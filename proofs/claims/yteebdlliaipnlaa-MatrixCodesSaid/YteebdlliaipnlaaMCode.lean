/- The contracts of matrix.Code and of the document's Code; of the law's own 'known'. No condition but the widths. -/
import Derived.Test.YteebdlliaipnlaaMRMul
import Derived.Test.YteebdlliaipnlaaGInv
import Derived.Test.YteebdlliaipnlaaGRInv
namespace Go.Proofs.Yteebdlliaipnlaa
open Go.RowKit
theorem code_row {k m i : Nat} (hi : i < m) : (codeL k m).getD (k + i) [] = (List.range k).map fun j => (kx (k + i) j).n := by
  unfold codeL
  rw [laid_row _ (by omega)]
  refine List.map_congr_left (fun j _ => ?_)
  unfold codeRow
  rw [if_neg (by omega)]
theorem code_one {k m : Nat} : (codeL k m).take k = oneL k := by
  apply List.ext_getElem
  · unfold codeL oneL
    rw [List.length_take, laid_len, laid_len]
    omega
  · intro i h1 h2
    rw [List.getElem_take]
    have hi : i < k := by
      rw [List.length_take] at h1
      omega
    have e1 : (codeL k m).getD i [] = (oneL k).getD i [] := by
      unfold codeL oneL
      rw [laid_row _ (by omega), laid_row _ hi]
      refine List.map_congr_left (fun j _ => ?_)
      unfold codeRow
      rw [if_pos hi]
    have g1 : i < (codeL k m).length := by unfold codeL; rw [laid_len]; omega
    simpa [g1, h2] using e1
theorem kx_walk {x j : Nat} (hx : x ≤ 14) (hj : j < x) : bits .xor .i64 (x : Int) (j : Int) = ((x ^^^ j : Nat) : Int) ∧ IntKind.u8.wrap ((x ^^^ j : Nat) : Int) = ((x ^^^ j : Nat) : Int) ∧ x ^^^ j < 256 ∧ x ^^^ j ≠ 0 ∧ (kx x j).n = ginv (x ^^^ j) := by
  have h16 : x ^^^ j < 16 := Nat.xor_lt_two_pow (n := 4) (by omega) (by omega)
  refine ⟨xor_i64 x j (by omega) (by omega), by rw [IntKind.wrap_u8]; omega, by omega, ?_, kx_n (by omega) (by omega)⟩
  intro e
  have : (x ^^^ j) ^^^ j = 0 ^^^ j := by rw [e]
  rw [Nat.xor_assoc, Nat.xor_self, Nat.xor_zero, Nat.zero_xor] at this
  omega
set_option maxHeartbeats 800000 in
theorem sums_any (k x : Nat) (w : World) (h1 : k ≤ x) (h2 : x ≤ 14) :
    Calls Try.prog 36 #[.int .i64 (k : Int), .int .i64 (x : Int)] w fun e w' => ∃ g, e = .returned (.slice (some ⟨g, 0, none⟩) k k) ∧ Own w' w.heap.size (.slice (some ⟨g, 0, none⟩) k k) ((List.range k).map fun j => (kx x j).n) ∧ Below w.heap.size w w' := by
  obtain ⟨i0, hi, hz0, hz1, hz2⟩ := info_parts Try.info_u8'
  obtain ⟨f, hf⟩ : ∃ f : Nat → Nat, f = fun j => (kx x j).n := ⟨_, rfl⟩
  have HF : Hid (∀ j, j < x → f j = ginv (x ^^^ j)) := by
    intro j hj
    rw [hf]
    exact (kx_walk h2 hj).2.2.2.2
  rw [show ((List.range k).map fun j => (kx x j).n) = part f k k by
    unfold part
    refine List.map_congr_left (fun j hj => ?_)
    rw [if_pos (List.mem_range.1 hj), hf]]
  clear hf
  go_enter Try.func36, Try.ntmps36
  go_wp2_with (at_make; refine halt ?_)
  refine ⟨?_⟩
  refine wpList_make_full _ rfl (.tmp 7) (.tmp 7) 39 rfl w.heap.size 5 i0 (.int .u8 0) 1 Try.underlying39 hi hz0 hz1 .i64 .i64 k k k rfl rfl rfl rfl (by rw [hz2]; omega) (by unfold maxLen; omega) (Nat.le_refl _) ?_
  intro w2 h2' g2
  have o2 := made_bytes h2'
  have b2 : Below w.heap.size w w2 := (Below.refl _ _).grown g2 (Nat.le_refl _) (by simp)
  clear h2' g2 hi hz0 hz1 hz2 i0
  obtain ⟨g, hg⟩ : ∃ g, g = w.heap.size := ⟨_, rfl⟩
  rw [← hg] at o2 ⊢
  have HG := hide hg
  clear hg
  go_wp2_with fail
  go_loopw [11] (fun i wr => ∃ j : Nat, j ≤ k ∧ i = .int .i64 (j : Int) ∧ Hid (Own wr g (.slice (some ⟨g, 0, none⟩) k k) (part f k j)) ∧ Hid (Below g w wr)) (fun i _ => k - (intOf i).toNat)
  case atStart => exact ⟨0, Nat.zero_le _, rfl, hide (by rw [part_zero]; exact o2), hide (by rw [HG.out]; exact b2)⟩
  case round =>
    obtain ⟨j, hj, rfl, hown, hbel⟩ := hrel
    by_cases hlt : j < k
    · obtain ⟨e1, e2, e3, e4, _⟩ := kx_walk h2 (show j < x by omega)
      have hfj := HF.out j (by omega)
      obtain ⟨y, hy⟩ : ∃ y, y = x ^^^ j := ⟨_, rfl⟩
      rw [← hy] at e1 e2 e3 e4 hfj
      have cs := hown.out.cells_ (part_len f k j) j
      have c1 := cs.1 hlt
      have c2 := cs.2
      have st := hown.out.stored' (part_len f k j) j (f j)
      rw [part_set, hfj] at st
      have ST := hide st
      have BL := hide (show Below g w (wr.setCell ⟨g, j, none⟩ (.int .u8 ((ginv y : Nat) : Int))) from hbel.out.setCell (Nat.le_refl _) _)
      have HI := hide (inv_some y wr e3 e4)
      clear cs st hfj hy hown hbel e4
      go_wp2_with fail
      refine HI.out.mono ?_
      rintro e w1 ⟨rfl, rfl⟩
      go_wp2_with fail
      go_roundw
      case rel => exact ⟨j + 1, by omega, by go_num, ST, BL⟩
      case measure => simp [intOf]; omega
    · obtain rfl : j = k := by omega
      go_wp2_with fail
      go_ret
      exact ⟨_, rfl, hown.out.more (Nat.le_of_eq HG.out.symm), by rw [← HG.out]; exact hbel.out⟩
theorem code_bad (k m : Int) (w : World) (_k1 : -9223372036854775808 ≤ k) (_k2 : k ≤ 9223372036854775807) (_m1 : -9223372036854775808 ≤ m) (_m2 : m ≤ 9223372036854775807) (h : k < 1 ∨ m < 0 ∨ 14 < k + m) :
    Calls Try.prog 18 #[.int .i64 k, .int .i64 m] w fun e w' => e = .returned (.tuple #[.slice none 0 0, .int .i64 1]) ∧ w = w' := by
  by_cases h1 : k < 1
  · clear h
    go_enter Try.func18, Try.ntmps18
    go_wp2_with fail
    go_ret2
    exact ⟨rfl, rfl⟩
  · by_cases h2 : m < 0
    · clear h
      go_enter Try.func18, Try.ntmps18
      go_wp2_with fail
      go_ret2
      exact ⟨rfl, rfl⟩
    · have h3 : 14 - k < m := by omega
      clear h
      go_enter Try.func18, Try.ntmps18
      go_wp2_with fail
      go_ret2
      exact ⟨rfl, rfl⟩
theorem rcode_bad (k m : Int) (w : World) (_k1 : -9223372036854775808 ≤ k) (_k2 : k ≤ 9223372036854775807) (_m1 : -9223372036854775808 ≤ m) (_m2 : m ≤ 9223372036854775807) (h : k < 1 ∨ m < 0 ∨ 14 < k + m) :
    Calls Try.prog 19 #[.int .i64 k, .int .i64 m] w fun e w' => e = .returned (.tuple #[.slice none 0 0, .int .i64 1]) ∧ w = w' := by
  by_cases h1 : k < 1
  · clear h
    go_enter Try.func19, Try.ntmps19
    go_wp2_with fail
    go_ret2
    exact ⟨rfl, rfl⟩
  · by_cases h2 : m < 0
    · clear h
      go_enter Try.func19, Try.ntmps19
      go_wp2_with fail
      go_ret2
      exact ⟨rfl, rfl⟩
    · by_cases h4 : 14 < k
      · clear h
        go_enter Try.func19, Try.ntmps19
        go_wp2_with fail
        go_ret2
        exact ⟨rfl, rfl⟩
      · by_cases h5 : 14 < m
        · clear h
          go_enter Try.func19, Try.ntmps19
          go_wp2_with fail
          go_ret2
          exact ⟨rfl, rfl⟩
        · have h3 : 14 < k + m := by omega
          clear h
          go_enter Try.func19, Try.ntmps19
          go_wp2_with fail
          go_ret2
          exact ⟨rfl, rfl⟩
set_option maxHeartbeats 800000 in
theorem code_any (k m : Nat) (w : World) (h1 : 1 ≤ k) (h2 : k + m ≤ 14) :
    Calls Try.prog 18 #[.int .i64 (k : Int), .int .i64 (m : Int)] w fun e w' => ∃ v, e = .returned (.tuple #[v, .int .i64 0]) ∧ OwnMt w' w.heap.size v (codeL k m) ∧ Below w.heap.size w w' := by
  have HO := hide (one_any k w h1 (by omega))
  obtain ⟨B, hB⟩ : ∃ B, B = w.heap.size := ⟨_, rfl⟩
  rw [← hB] at HO ⊢
  have HB := hide hB
  have HL : Hid ((codeL k m).length = k + m) := by unfold Hid codeL; rw [laid_len]
  have HR : Hid (∀ i, i < m → (codeL k m).getD (k + i) [] = (List.range k).map fun j => (kx (k + i) j).n) := fun i hi => code_row hi
  have H0 : Hid ((codeL k m).take (k + 0) = oneL k) := code_one
  obtain ⟨L, hL⟩ : ∃ L, L = codeL k m := ⟨_, rfl⟩
  rw [← hL] at HL HR H0 ⊢
  have g1 : ¬ (k : Int) < 1 := by omega
  have g2 : ¬ (m : Int) < 0 := by omega
  have g3 : ¬ (14 - (k : Int) < (m : Int)) := by omega
  clear hB hL
  go_enter Try.func18, Try.ntmps18
  go_wp2_with fail
  refine HO.out.mono ?_
  rintro e w1 ⟨g, rfl, o1, k1⟩
  have O1 := hide o1
  have K1 := hide k1
  clear o1 k1 HO
  go_wp2_with fail
  go_loopw [6, 27] (fun s i wr => ∃ j : Nat, j ≤ m ∧ i = .int .i64 (j : Int) ∧ Hid (OwnMt wr B s (L.take (k + j))) ∧ Hid (Below B w wr)) (fun _ i _ => m - (intOf i).toNat)
  case atStart => exact ⟨0, Nat.zero_le _, rfl, hide (by rw [H0.out]; exact O1.out), K1⟩
  case round =>
    obtain ⟨j, hj, rfl, hown, hbel⟩ := hrel
    by_cases hlt : j < m
    · have HS := hide (sums_any k (k + j) wr (by omega) (by omega))
      rw [← HR.out j hlt] at HS
      have hc : ((k + j : Nat) : Int) = (k : Int) + (j : Int) := by omega
      rw [hc] at HS
      have HGS : Hid (B ≤ wr.heap.size) := by rw [HB.out]; exact hbel.out.size
      clear hc
      go_wp2_with fail
      refine HS.out.mono ?_
      rintro e w2 ⟨b, rfl, o2, k2⟩
      have OM := hide (hown.out.keep k2)
      have OR := hide (o2.more HGS.out)
      have K2 := hide (hbel.out.trans (k2.mono HGS.out))
      have HG2 := hide (Nat.le_trans HGS.out k2.size)
      clear o2 k2 HS hown hbel HGS
      go_wp2_with (at_builtin; refine halt ?_)
      refine ⟨?_⟩
      have ka := below_alloc w2 (.cells #[.slice (some ⟨b, 0, none⟩) k k] 39)
      refine wpList_append_mrow rfl (.tmp 30) (.tmp 36) rfl B _ _ rfl (OM.out.keep ka) _ _ _ rfl (cell_newAt _ _ _ rfl) (OR.out.keep ka) (by rw [List.length_take]; omega) (Nat.le_trans HG2.out ka.size) ?_
      intro v' w7 o7 k7
      rw [← take_snoc _ _ (by rw [HL.out]; omega)] at o7
      have O7 := hide o7
      have K7 := hide ((K2.out.trans (ka.mono HG2.out)).trans k7)
      clear o7 k7 ka HG2 OM OR K2
      go_wp2_with fail
      go_roundw
      case rel => exact ⟨j + 1, by omega, by go_num, O7, K7⟩
      case measure => simp [intOf]; omega
    · obtain rfl : j = m := by omega
      go_wp2_with fail
      go_ret2
      refine ⟨_, rfl, ?_, hbel.out⟩
      have := hown.out
      rwa [List.take_of_length_le (by rw [HL.out]; exact Nat.le_refl _)] at this
set_option maxHeartbeats 1600000 in
theorem rcode_any (k m : Nat) (w : World) (h1 : 1 ≤ k) (h2 : k + m ≤ 14) :
    Calls Try.prog 19 #[.int .i64 (k : Int), .int .i64 (m : Int)] w fun e w' => ∃ v, e = .returned (.tuple #[v, .int .i64 0]) ∧ OwnMt w' w.heap.size v (codeL k m) ∧ Below w.heap.size w w' := by
  have HO := hide (rone_any k w h1 (by omega))
  obtain ⟨B, hB⟩ : ∃ B, B = w.heap.size := ⟨_, rfl⟩
  rw [← hB] at HO ⊢
  have HB := hide hB
  have HL : Hid ((codeL k m).length = k + m) := by unfold Hid codeL; rw [laid_len]
  have HR : Hid (∀ i, i < m → (codeL k m).getD (k + i) [] = (List.range k).map fun j => (kx (k + i) j).n) := fun i hi => code_row hi
  have H0 : Hid ((codeL k m).take (k + 0) = oneL k) := code_one
  obtain ⟨L, hL⟩ : ∃ L, L = codeL k m := ⟨_, rfl⟩
  rw [← hL] at HL HR H0 ⊢
  have g1 : ¬ (k : Int) < 1 := by omega
  have g2 : ¬ (m : Int) < 0 := by omega
  have g3 : ¬ (14 < (k : Int)) := by omega
  have g4 : ¬ (14 < (m : Int)) := by omega
  have g5 : ¬ (14 < (k : Int) + (m : Int)) := by omega
  clear hB hL
  go_enter Try.func19, Try.ntmps19
  go_wp2_with fail
  refine HO.out.mono ?_
  rintro e w1 ⟨v1, rfl, o1, k1⟩
  have O1 := hide o1
  have K1 := hide k1
  clear o1 k1 HO
  go_wp2_with fail
  go_loopw [6, 8] (fun s i wr => ∃ j : Nat, j ≤ m ∧ i = .int .i64 (j : Int) ∧ Hid (OwnMt wr B s (L.take (k + j))) ∧ Hid (Below B w wr)) (fun _ i _ => m - (intOf i).toNat)
  case atStart => exact ⟨0, Nat.zero_le _, rfl, hide (by rw [H0.out]; exact O1.out), K1⟩
  case round =>
    obtain ⟨j, hj, rfl, hown, hbel⟩ := hrel
    by_cases hlt : j < m
    · have HSZ : Hid (B ≤ wr.heap.size) := by rw [HB.out]; exact hbel.out.size
      have HOW := hide hown.out
      have HBL := hide hbel.out
      clear hown hbel
      rename World => W1
      obtain ⟨T, hT⟩ : ∃ T, T = L.getD (k + j) [] := ⟨_, rfl⟩
      have HT : Hid (T.length = k ∧ ∀ y, y < k → T.getD y 0 = ginv ((k + j) ^^^ y)) := by
        rw [hT, HR.out j hlt]
        refine ⟨by simp, fun y hy => ?_⟩
        simp only [List.getD_eq_getElem?_getD, List.getElem?_map, List.getElem?_range hy, Option.map_some, Option.getD_some]
        exact (kx_walk (by omega) (by omega)).2.2.2.2
      have HTE := hide hT
      clear hT
      go_wp2_with fail
      go_loopw [9, 10] (fun s i w2 => ∃ y : Nat, y ≤ k ∧ i = .int .i64 (y : Int) ∧ Hid (Own w2 W1.heap.size s (T.take y)) ∧ Hid (Below W1.heap.size W1 w2)) (fun _ i _ => k - (intOf i).toNat)
      case atStart => exact ⟨0, Nat.zero_le _, rfl, hide (World.ownsRow_nil _ _ _ _), hide (Below.refl _ _)⟩
      case round =>
        obtain ⟨y, hy, rfl, hown2, hbel2⟩ := hrel
        by_cases hlt2 : y < k
        · obtain ⟨e1, e2, e3, e4, _⟩ := kx_walk (show k + j ≤ 14 by omega) (show y < k + j by omega)
          have hst := take_snocN T y (by rw [HT.out.1]; exact hlt2)
          rw [HT.out.2 y hlt2] at hst
          have hc : ((k + j : Nat) : Int) = (k : Int) + (j : Int) := by omega
          rw [hc] at e1
          obtain ⟨x, hx⟩ : ∃ x, x = (k + j) ^^^ y := ⟨_, rfl⟩
          rw [← hx] at e1 e2 e3 e4 hst
          have HI := hide (rinv_some x wr e3 e4)
          obtain ⟨z, hz⟩ : ∃ z, z = ginv x := ⟨_, rfl⟩
          rw [← hz] at HI hst
          have HST := hide hst
          clear hc hst hx hz e4
          go_wp2_with fail
          refine HI.out.mono ?_
          rintro e w3 ⟨rfl, rfl⟩
          have HGW := hide hbel2.out.size
          go_wp2_with (at_builtin; refine halt ?_)
          refine ⟨?_⟩
          have ka := below_alloc wr (.cells #[.int .u8 (z : Int)] 5)
          refine wpList_append_bytes rfl (.tmp 46) (.tmp 54) rfl W1.heap.size _ _ rfl (hown2.out.keep ka) _ [z] rfl (isB_one wr z rfl) (by rw [List.length_take]; simp; omega) (Nat.le_trans HGW.out ka.size) ?_
          intro v' w7 o7 k7
          rw [← HST.out] at o7
          have O7 := hide o7
          have K7 := hide ((hbel2.out.trans (ka.mono HGW.out)).trans k7)
          clear o7 k7 ka HGW hown2 hbel2
          go_wp2_with fail
          go_roundw
          case rel => exact ⟨y + 1, by omega, by go_num, O7, K7⟩
          case measure => simp [intOf]; omega
        · obtain rfl : y = k := by omega
          rw [List.take_of_length_le (by rw [HT.out.1]; exact Nat.le_refl _)] at hown2
          have KW := hide (HBL.out.trans (hbel2.out.mono HSZ.out))
          have OM := hide (HOW.out.keep hbel2.out)
          have hf := hown2.out.form
          rw [HT.out.1] at hf
          obtain ⟨Ar, cr, rfl, _⟩ := hf
          have OR := hide (hown2.out.more HSZ.out)
          rw [HTE.out] at OR
          clear hown2 hbel2 HOW HBL
          go_wp2_with (at_builtin; refine halt ?_)
          refine ⟨?_⟩
          have HGS : Hid (B ≤ wr.heap.size) := by rw [HB.out]; exact KW.out.size
          have ka := below_alloc wr (.cells #[.slice Ar y cr] 39)
          refine wpList_append_mrow rfl (.tmp 56) (.tmp 58) rfl B _ _ rfl (OM.out.keep ka) _ _ _ rfl (cell_newAt _ _ _ rfl) (OR.out.keep ka) (by rw [List.length_take]; omega) (Nat.le_trans HGS.out ka.size) ?_
          intro v' w7 o7 k7
          rw [← take_snoc _ _ (by rw [HL.out]; omega)] at o7
          have O7 := hide o7
          have K7 := hide ((KW.out.trans (ka.mono HGS.out)).trans k7)
          clear o7 k7 ka HGS OM OR KW
          go_wp2_with fail
          go_roundw
          case rel => exact ⟨j + 1, by omega, by go_num, O7, K7⟩
          case measure => simp [intOf]; omega
    · obtain rfl : j = m := by omega
      go_wp2_with fail
      go_ret2
      refine ⟨_, rfl, ?_, hbel.out⟩
      have := hown.out
      rwa [List.take_of_length_le (by rw [HL.out]; exact Nat.le_refl _)] at this
end Go.Proofs.Yteebdlliaipnlaa
