/- The contracts of matrix's sums and of matrix.Code. No condition but the widths. matrix.One and matrix.Code, also where they refuse. No condition but the widths. Slices of bytes: what is left of them, three of them. No condition. A part of a slice of bytes that is read. No condition. The contract of the law's own comparison: whether two rows of bytes are the same. Condition: no row is longer than a slice may be. The contracts of bits.ReadUvarint and of the document's own: the number at the beginning of bytes, or why there is none. Conditions: the widths, and that the row is no longer than a slice may be. The contract of bytes.Clone. Condition: the row is below 2 to the 40. The contract of bits.Sum: of any bytes it is the CRC, reckoned digit by digit. Condition: no row is longer than a slice may be. The contracts of strip.isBound and strip.isIndex. No conditions but the widths. An append of bytes to a slice of the call's own, with where the new slice lies. Condition: the lengths together are below 2 to the 47. -/
import Derived.Test.YtdbngchbhoanpaaSx8
import Derived.Test.YtdbngchbhoanpaaSx9
import Derived.Test.YtdbngchbhoanpaaSx5
import Derived.Test.YtdbngchbhoanpaaSx6
import Derived.Test.YtdbngchbhoanpaaSx7
import Derived.Test.YtdbngchbhoanpaaSx1
import Derived.Lib.SliceRun
import Derived.BigQuiet
import Derived.Maps.AppendAt
namespace Go.Proofs.Ytdbngchbhoanpaa
open Go.RowKit
set_option maxHeartbeats 800000 in
theorem sums_any (k x : Nat) (w : World) (h1 : k ≤ x) (h2 : x ≤ 14) :
    Calls Try.prog 48 #[.int .i64 (k : Int), .int .i64 (x : Int)] w fun e w' => ∃ g, e = .returned (.slice (some ⟨g, 0, none⟩) k k) ∧ Own w' w.heap.size (.slice (some ⟨g, 0, none⟩) k k) ((List.range k).map fun j => (kx x j).n) ∧ Below w.heap.size w w' := by
  obtain ⟨i0, hi, hz0, hz1, hz2⟩ := info_parts Try.info_u8'
  obtain ⟨f, hf⟩ : ∃ f : Nat → Nat, f = fun j => (kx x j).n := ⟨_, rfl⟩
  have HF : Hid (∀ j, j < x → f j = ginv (x ^^^ j)) := by
    intro j hj
    rw [hf]
    exact (kx_walk h2 hj).2.2.2.2
  rw [show ((List.range k).map fun j => (kx x j).n) = part f k k by
    unfold part
    refine List.map_congr_left (fun j hj => ?_)
    rw [if_pos (List.mem_range.1 hj), hf]]
  clear hf
  go_enter Try.func48, Try.ntmps48
  go_wp2_with (at_make; refine halt ?_)
  refine ⟨?_⟩
  refine wpList_make_full _ rfl (.tmp 7) (.tmp 7) 24 rfl w.heap.size 5 i0 (.int .u8 0) 1 Try.underlying24 hi hz0 hz1 .i64 .i64 k k k rfl rfl rfl rfl (by rw [hz2]; omega) (by unfold maxLen; omega) (Nat.le_refl _) ?_
  intro w2 h2' g2
  have o2 := made_bytes h2'
  have b2 : Below w.heap.size w w2 := (Below.refl _ _).grown g2 (Nat.le_refl _) (by simp)
  clear h2' g2 hi hz0 hz1 hz2 i0
  obtain ⟨g, hg⟩ : ∃ g, g = w.heap.size := ⟨_, rfl⟩
  rw [← hg] at o2 ⊢
  have HG := hide hg
  clear hg
  go_wp2_with fail
  go_loopw [11] (fun i wr => ∃ j : Nat, j ≤ k ∧ i = .int .i64 (j : Int) ∧ Hid (Own wr g (.slice (some ⟨g, 0, none⟩) k k) (part f k j)) ∧ Hid (Below g w wr)) (fun i _ => k - (intOf i).toNat)
  case atStart => exact ⟨0, Nat.zero_le _, rfl, hide (by rw [part_zero]; exact o2), hide (by rw [HG.out]; exact b2)⟩
  case round =>
    obtain ⟨j, hj, rfl, hown, hbel⟩ := hrel
    by_cases hlt : j < k
    · obtain ⟨e1, e2, e3, e4, _⟩ := kx_walk h2 (show j < x by omega)
      have hfj := HF.out j (by omega)
      obtain ⟨y, hy⟩ : ∃ y, y = x ^^^ j := ⟨_, rfl⟩
      rw [← hy] at e1 e2 e3 e4 hfj
      have cs := hown.out.cells_ (part_len f k j) j
      have c1 := cs.1 hlt
      have c2 := cs.2
      have st := hown.out.stored' (part_len f k j) j (f j)
      rw [part_set, hfj] at st
      have ST := hide st
      have BL := hide (show Below g w (wr.setCell ⟨g, j, none⟩ (.int .u8 ((ginv y : Nat) : Int))) from hbel.out.setCell (Nat.le_refl _) _)
      have HI := hide (inv_some y wr e3 e4)
      clear cs st hfj hy hown hbel e4
      go_wp2_with fail
      refine HI.out.mono ?_
      rintro e w1 ⟨rfl, rfl⟩
      go_wp2_with fail
      go_roundw
      case rel => exact ⟨j + 1, by omega, by go_num, ST, BL⟩
      case measure => simp [intOf]; omega
    · obtain rfl : j = k := by omega
      go_wp2_with fail
      go_ret
      exact ⟨_, rfl, hown.out.more (Nat.le_of_eq HG.out.symm), by rw [← HG.out]; exact hbel.out⟩
theorem code_bad (k m : Int) (w : World) (_k1 : -9223372036854775808 ≤ k) (_k2 : k ≤ 9223372036854775807) (_m1 : -9223372036854775808 ≤ m) (_m2 : m ≤ 9223372036854775807) (h : k < 1 ∨ m < 0 ∨ 14 < k + m) :
    Calls Try.prog 33 #[.int .i64 k, .int .i64 m] w fun e w' => e = .returned (.tuple #[.slice none 0 0, .int .i64 1]) ∧ w = w' := by
  by_cases h1 : k < 1
  · clear h
    go_enter Try.func33, Try.ntmps33
    go_wp2_with fail
    go_ret2
    exact ⟨rfl, rfl⟩
  · by_cases h2 : m < 0
    · clear h
      go_enter Try.func33, Try.ntmps33
      go_wp2_with fail
      go_ret2
      exact ⟨rfl, rfl⟩
    · have h3 : 14 - k < m := by omega
      clear h
      go_enter Try.func33, Try.ntmps33
      go_wp2_with fail
      go_ret2
      exact ⟨rfl, rfl⟩
set_option maxHeartbeats 800000 in
theorem code_any (k m : Nat) (w : World) (h1 : 1 ≤ k) (h2 : k + m ≤ 14) :
    Calls Try.prog 33 #[.int .i64 (k : Int), .int .i64 (m : Int)] w fun e w' => ∃ v, e = .returned (.tuple #[v, .int .i64 0]) ∧ OwnMt w' w.heap.size v (codeL k m) ∧ Below w.heap.size w w' := by
  have HO := hide (one_any k w h1 (by omega))
  obtain ⟨B, hB⟩ : ∃ B, B = w.heap.size := ⟨_, rfl⟩
  rw [← hB] at HO ⊢
  have HB := hide hB
  have HL : Hid ((codeL k m).length = k + m) := by unfold Hid codeL; rw [laid_len]
  have HR : Hid (∀ i, i < m → (codeL k m).getD (k + i) [] = (List.range k).map fun j => (kx (k + i) j).n) := fun i hi => code_row hi
  have H0 : Hid ((codeL k m).take (k + 0) = oneL k) := code_one
  obtain ⟨L, hL⟩ : ∃ L, L = codeL k m := ⟨_, rfl⟩
  rw [← hL] at HL HR H0 ⊢
  have g1 : ¬ (k : Int) < 1 := by omega
  have g2 : ¬ (m : Int) < 0 := by omega
  have g3 : ¬ (14 - (k : Int) < (m : Int)) := by omega
  clear hB hL
  go_enter Try.func33, Try.ntmps33
  go_wp2_with fail
  refine HO.out.mono ?_
  rintro e w1 ⟨g, rfl, o1, k1⟩
  have O1 := hide o1
  have K1 := hide k1
  clear o1 k1 HO
  go_wp2_with fail
  go_loopw [6, 27] (fun s i wr => ∃ j : Nat, j ≤ m ∧ i = .int .i64 (j : Int) ∧ Hid (OwnMt wr B s (L.take (k + j))) ∧ Hid (Below B w wr)) (fun _ i _ => m - (intOf i).toNat)
  case atStart => exact ⟨0, Nat.zero_le _, rfl, hide (by rw [H0.out]; exact O1.out), K1⟩
  case round =>
    obtain ⟨j, hj, rfl, hown, hbel⟩ := hrel
    by_cases hlt : j < m
    · have HS := hide (sums_any k (k + j) wr (by omega) (by omega))
      rw [← HR.out j hlt] at HS
      have hc : ((k + j : Nat) : Int) = (k : Int) + (j : Int) := by omega
      rw [hc] at HS
      have HGS : Hid (B ≤ wr.heap.size) := by rw [HB.out]; exact hbel.out.size
      clear hc
      go_wp2_with fail
      refine HS.out.mono ?_
      rintro e w2 ⟨b, rfl, o2, k2⟩
      have OM := hide (hown.out.keep k2)
      have OR := hide (o2.more HGS.out)
      have K2 := hide (hbel.out.trans (k2.mono HGS.out))
      have HG2 := hide (Nat.le_trans HGS.out k2.size)
      clear o2 k2 HS hown hbel HGS
      go_wp2_with (at_builtin; refine halt ?_)
      refine ⟨?_⟩
      have ka := below_alloc w2 (.cells #[.slice (some ⟨b, 0, none⟩) k k] 24)
      refine wpList_append_mrow rfl (.tmp 30) (.tmp 36) rfl B _ _ rfl (OM.out.keep ka) _ _ _ rfl (cell_newAt _ _ _ rfl) (OR.out.keep ka) (by rw [List.length_take]; omega) (Nat.le_trans HG2.out ka.size) ?_
      intro v' w7 o7 k7
      rw [← take_snoc _ _ (by rw [HL.out]; omega)] at o7
      have O7 := hide o7
      have K7 := hide ((K2.out.trans (ka.mono HG2.out)).trans k7)
      clear o7 k7 ka HG2 OM OR K2
      go_wp2_with fail
      go_roundw
      case rel => exact ⟨j + 1, by omega, by go_num, O7, K7⟩
      case measure => simp [intOf]; omega
    · obtain rfl : j = m := by omega
      go_wp2_with fail
      go_ret2
      refine ⟨_, rfl, ?_, hbel.out⟩
      have := hown.out
      rwa [List.take_of_length_le (by rw [HL.out]; exact Nat.le_refl _)] at this
end Go.Proofs.Ytdbngchbhoanpaa
namespace Go.Proofs.Ytdbngchbhoanpaa
open Go.RowKit
theorem one_all (n : Int) (w : World) : Calls Try.prog 47 #[.int .i64 n] w fun e w' => ∃ v, e = .returned (.tuple #[v, .int .i64 (oneE n)]) ∧ OwnMt w' w.heap.size v (oneR n) ∧ Below w.heap.size w w' := by
  unfold oneE oneR
  by_cases h : 1 ≤ n ∧ n ≤ 64
  · rw [if_pos h, if_pos h]
    obtain ⟨k, rfl⟩ : ∃ k : Nat, n = (k : Int) := ⟨n.toNat, by omega⟩
    rw [Int.toNat_natCast]
    exact (one_any k w (by omega) (by omega)).mono fun e w' ⟨g, h1, h2, h3⟩ => ⟨_, h1, h2, h3⟩
  · rw [if_neg h, if_neg h]
    refine (one_bad n w (by omega)).mono ?_
    rintro e w' ⟨rfl, rfl⟩
    exact ⟨_, rfl, OwnMt.nil _ _, Below.refl _ _⟩
theorem code_all (k m : Int) (w : World) (k1 : -9223372036854775808 ≤ k) (k2 : k ≤ 9223372036854775807) (m1 : -9223372036854775808 ≤ m) (m2 : m ≤ 9223372036854775807) :
    Calls Try.prog 33 #[.int .i64 k, .int .i64 m] w fun e w' => ∃ v, e = .returned (.tuple #[v, .int .i64 (codeE k m)]) ∧ OwnMt w' w.heap.size v (codeR k m) ∧ Below w.heap.size w w' := by
  unfold codeE codeR
  by_cases h : k < 1 ∨ m < 0 ∨ 14 < k + m
  · rw [if_pos h, if_pos h]
    refine (code_bad k m w k1 k2 m1 m2 h).mono ?_
    rintro e w' ⟨rfl, rfl⟩
    exact ⟨_, rfl, OwnMt.nil _ _, Below.refl _ _⟩
  · rw [if_neg h, if_neg h]
    obtain ⟨a, rfl⟩ : ∃ a : Nat, k = (a : Int) := ⟨k.toNat, by omega⟩
    obtain ⟨b, rfl⟩ : ∃ b : Nat, m = (b : Int) := ⟨m.toNat, by omega⟩
    rw [Int.toNat_natCast, Int.toNat_natCast]
    exact code_any a b w (by omega) (by omega)
end Go.Proofs.Ytdbngchbhoanpaa
namespace Go.Proofs.Ytdbngchbhoanpaa
open Go.RowKit
theorem isB_drop {w : World} {b off n c : Nat} {xs : List Nat} (h : IsB w (.slice (some ⟨b, off, none⟩) n c) xs) (k m d : Nat) (hm : m = n - k) (hd : d = c - k) (hk : k ≤ n) : IsB w (.slice (some ⟨b, off + k, none⟩) m d) (xs.drop k) := by
  subst hm; subst hd
  obtain ⟨A', c', e, r, h1, h2, h3⟩ := h
  cases e
  refine ⟨_, _, by rw [List.length_drop], ?_, (fun h => by cases h), by rw [List.length_drop]; omega, by omega⟩
  intro hne
  have hl : 0 < (xs.drop k).length := by
    rcases e : xs.drop k with _ | ⟨y, ys⟩
    · exact absurd e hne
    · simp
  obtain ⟨b', off', e, hc⟩ := r (by intro e; rw [e] at hl; simp at hl)
  cases e
  refine ⟨b, off + k, rfl, fun i hi => ?_⟩
  rw [List.length_drop] at hi
  have := hc (k + i) (by omega)
  rw [Nat.add_assoc, this]
  congr 2
  simp
/-- What is left of a slice behind k bytes, wherever the walk lays it. -/
theorem isB_tail {w : World} {b off n c : Nat} {xs : List Nat} (h : IsB w (.slice (some ⟨b, off, none⟩) n c) xs) (k : Nat) (hk : k ≤ n) : IsB w (.slice (some ⟨b, if c = k then off else off + k, none⟩) (n - k) (c - k)) (xs.drop k) := by
  by_cases hc : c = k
  · obtain ⟨A', c', e, r, h1, h2, h3⟩ := h
    cases e
    have h0 : xs.drop k = [] := List.eq_nil_of_length_eq_zero (by rw [List.length_drop]; omega)
    rw [if_pos hc, h0]
    have hn : xs.length - k = 0 := by omega
    rw [hn]
    exact ⟨_, _, rfl, fun h => absurd rfl h, (fun h => by cases h), Nat.zero_le _, by omega⟩
  · rw [if_neg hc]
    exact isB_drop h k _ _ rfl rfl hk
theorem isBs3 {w : World} {u v z : Value} {xs ys zs : List Nat} (h1 : IsB w u xs) (h2 : IsB w v ys) (h3 : IsB w z zs) : IsBs w [u, v, z] [xs, ys, zs] := by
  refine ⟨rfl, fun i hi => ?_⟩
  match i, hi with
  | 0, _ => exact h1
  | 1, _ => exact h2
  | 2, _ => exact h3
theorem isB_len {w : World} {A : Option Addr} {n c : Nat} {xs : List Nat} (h : IsB w (.slice A n c) xs) : xs.length = n ∧ n ≤ c ∧ c ≤ 9223372036854775807 := by
  obtain ⟨_, _, e, _, _, h2, h3⟩ := h
  cases e
  exact ⟨rfl, h2, h3⟩
theorem isB_at {w : World} {A : Option Addr} {n c : Nat} {xs : List Nat} (h : IsB w (.slice A n c) xs) (h1 : 1 ≤ n) : ∃ b off, A = some ⟨b, off, none⟩ := by
  have hl := (isB_len h).1
  obtain ⟨b, off, e, _⟩ := h.rd (by intro e; rw [e] at hl; simp at hl; omega)
  exact ⟨b, off, e⟩
theorem isB_nilw (w : World) : IsB w (.slice none 0 0) [] := ⟨none, 0, rfl, fun h => absurd rfl h, fun _ => rfl, Nat.zero_le _, by decide⟩
end Go.Proofs.Ytdbngchbhoanpaa
namespace Go.Proofs.Ytdbngchbhoanpaa
open Go.RowKit
theorem isB_sub {w : World} {b off n c : Nat} {xs : List Nat} (h : IsB w (.slice (some ⟨b, off, none⟩) n c) xs) (k m d : Nat) (hkm : k + m ≤ n) (hd : d = c - k) : IsB w (.slice (some ⟨b, off + k, none⟩) m d) ((xs.drop k).take m) := by
  obtain ⟨h1, h2, h3⟩ := isB_len h
  obtain ⟨A, c', e, hr, hn, hl, hm⟩ := h
  simp only [Value.slice.injEq] at e
  obtain ⟨rfl, rfl, rfl⟩ := e
  have hlen : ((xs.drop k).take m).length = m := by rw [List.length_take, List.length_drop]; omega
  refine ⟨_, _, by rw [hlen], ?_, fun q => (by cases q), by rw [hlen]; omega, by omega⟩
  intro hne
  have hm0 : 0 < m := by rw [← hlen]; exact List.length_pos_iff.2 hne
  obtain ⟨b', off', e, hc⟩ := hr (by intro q; rw [q] at hkm; simp at hkm; omega)
  cases e
  refine ⟨_, _, rfl, fun i hi => ?_⟩
  rw [hlen] at hi
  have h9 := hc (k + i) (by omega)
  rw [Nat.add_assoc, h9]
  congr 3
  simp [hi]
/-- The same with whatever room behind it. -/
theorem isB_subc {w : World} {b off n c : Nat} {xs : List Nat} (h : IsB w (.slice (some ⟨b, off, none⟩) n c) xs) (k m d : Nat) (hkm : k + m ≤ n) (hd : m ≤ d) (hd2 : d ≤ 9223372036854775807) : IsB w (.slice (some ⟨b, off + k, none⟩) m d) ((xs.drop k).take m) := by
  have h9 := isB_sub h k m (c - k) hkm rfl
  have hlen : ((xs.drop k).take m).length = m := by rw [List.length_take, List.length_drop, (isB_len h).1]; omega
  obtain ⟨A, c', e, hr, hn, hl, hm⟩ := h9
  simp only [Value.slice.injEq] at e
  obtain ⟨rfl, -, rfl⟩ := e
  exact ⟨_, _, by rw [hlen], hr, fun q => (by cases q), by rw [hlen]; exact hd, hd2⟩
theorem getD_sub {xs : List Nat} {k m i : Nat} (hi : i < m) : ((xs.drop k).take m).getD i 0 = xs.getD (k + i) 0 := by
  simp [hi]
end Go.Proofs.Ytdbngchbhoanpaa
namespace Go.Proofs.Ytdbngchbhoanpaa
open Go.RowKit
theorem take_ext {xs ys : List Nat} {k : Nat} (hx : k < xs.length) (hy : k < ys.length) (h : xs.take k = ys.take k) (e : xs.getD k 0 = ys.getD k 0) : xs.take (k + 1) = ys.take (k + 1) := by
  rw [List.take_succ_eq_append_getElem hx, List.take_succ_eq_append_getElem hy, h]
  have e1 : xs.getD k 0 = xs[k] := by simp [hx]
  have e2 : ys.getD k 0 = ys[k] := by simp [hy]
  rw [← e1, ← e2, e]
set_option maxHeartbeats 400000 in
theorem same_any (A B : Option Addr) (n m ca cb : Nat) (xs ys : List Nat) (w : World) (hA : Rd w A xs) (hB : Rd w B ys) (hn : n = xs.length) (hm : m = ys.length)
    (ln : n ≤ 9223372036854775807) (lm : m ≤ 9223372036854775807) :
    Calls Try.prog 7 #[.slice A n ca, .slice B m cb] w fun e w' => e = .returned (.bool (decide (xs = ys))) ∧ ∃ d, w' = w.drewN d := by
  by_cases hl : n = m
  · subst hl
    have hne0 : ((n : Int) != (n : Int)) = false := by simp
    have HN := hide hn
    have HM := hide hm
    clear hn hm
    go_enter Try.func7, Try.ntmps7
    go_wp2
    go_loopw [5] (fun i wr => ∃ k d : Nat, k ≤ n ∧ i = .int .i64 (k : Int) ∧ Hid (xs.take k = ys.take k) ∧ wr = w.drewN d) (fun i _ => n - (intOf i).toNat)
    case atStart => exact ⟨0, 0, Nat.zero_le _, rfl, rfl, rfl⟩
    case round =>
      obtain ⟨k, d, hk, rfl, hs, rfl⟩ := hrel
      by_cases hlt : k < n
      · obtain ⟨b1, o1, rfl, c1⟩ := hA (by intro e; rw [HN.out, e] at hlt; simp at hlt)
        obtain ⟨b2, o2, rfl, c2⟩ := hB (by intro e; rw [HM.out, e] at hlt; simp at hlt)
        have k1 := c1 k (by rw [← HN.out]; exact hlt)
        have k2 := c2 k (by rw [← HM.out]; exact hlt)
        obtain ⟨x, hx⟩ : ∃ x, x = xs.getD k 0 := ⟨_, rfl⟩
        obtain ⟨y, hy⟩ : ∃ y, y = ys.getD k 0 := ⟨_, rfl⟩
        rw [← hx] at k1
        rw [← hy] at k2
        have HX := hide hx
        have HY := hide hy
        clear hx hy c1 c2 hA hB
        by_cases hxy : x = y
        · subst hxy
          have hne1 : ((x : Int) != (x : Int)) = false := by simp
          go_wp2
          go_quiet (fail)
          go_wp2
          go_roundw
          case rel => exact ⟨k + 1, _, by omega, by go_num, take_ext (by rw [← HN.out]; exact hlt) (by rw [← HM.out]; exact hlt) hs.out (by rw [← HX.out, ← HY.out]), rfl⟩
          case measure => simp [intOf]; omega
        · have hne1 : ((x : Int) != (y : Int)) = true := by simp; omega
          go_wp2
          go_quiet (fail)
          go_wp2
          go_ret
          refine ⟨ret_bool ?_, _, World.drewN_drewN _ _ _⟩
          symm
          rw [decide_eq_false_iff_not]
          intro e
          exact hxy (by rw [HX.out, HY.out, e])
      · go_wp2
        go_ret
        refine ⟨ret_bool ?_, _, rfl⟩
        symm
        rw [decide_eq_true_eq]
        have e := hs.out
        rw [List.take_of_length_le (by rw [← HN.out]; omega), List.take_of_length_le (by rw [← HM.out]; omega)] at e
        exact e
  · have hne0 : ((n : Int) != (m : Int)) = true := by simp; omega
    have hd : decide (xs = ys) = false := by
      rw [decide_eq_false_iff_not]
      intro e
      exact hl (by rw [hn, hm, e])
    rw [hd]
    clear hd
    have HN := hide hn
    have HM := hide hm
    clear hn hm
    go_enter Try.func7, Try.ntmps7
    go_wp2
    go_ret
    exact ⟨rfl, 0, rfl⟩
end Go.Proofs.Ytdbngchbhoanpaa
namespace Go.Proofs.Ytdbngchbhoanpaa
open Go.RowKit
theorem drop_get {xs : List Nat} {k : Nat} (h : k < xs.length) : xs.drop k = xs.getD k 0 :: xs.drop (k + 1) := by
  rw [List.drop_eq_getElem_cons h]
  simp [h]
theorem andNot128 (c : Nat) (h : c < 256) : bits .andNot .u8 (c : Int) 128 = ((c % 128 : Nat) : Int) := by
  rw [u8_andNot _ _ (by omega) (by omega) (by decide) (by decide)]
  have h2 : (128 : Int).toNat = 128 := rfl
  rw [h2, Int.toNat_natCast]
  have : ∀ z, z < 256 → z &&& (255 - 128) = z % 128 := by decide +kernel
  rw [this c h]
theorem or_read {v c k : Nat} (hk : k ≤ 9) (h9 : k = 9 → c ≤ 1) (hv : v < 2 ^ (7 * k)) :
    bits .or .u64 (v : Int) ((c % 128 * 2 ^ (7 * k) : Nat) : Int) = ((v + c % 128 * 2 ^ (7 * k) : Nat) : Int) := by
  rw [u64_or_nat _ _ (by have := v_lt hk hv; omega) (sh_lt hk h9), Nat.or_comm, nat_join (7 * k) _ _ (Nat.mul_mod_left _ _) hv, Nat.add_comm]
theorem or_walk {v c k : Nat} (hk : k ≤ 9) (h9 : k = 9 → c ≤ 1) (hv : v < 2 ^ (7 * k)) :
    bits .or .u64 (v : Int) (IntKind.u64.wrap ((c : Int) % 128 * 2 ^ (7 * k))) = ((v + c % 128 * 2 ^ (7 * k) : Nat) : Int) := by
  rw [← or_read hk h9 hv]
  have e : ((c : Int) % 128 * 2 ^ (7 * k)) = ((c % 128 * 2 ^ (7 * k) : Nat) : Int) := by simp
  rw [e, IntKind.wrap_u64]
  have := sh_lt (c := c) hk h9
  congr 1
  omega
theorem or_zero (v : Nat) (hv : v < 9223372036854775808) : bits .or .u64 (v : Int) (IntKind.u64.wrap 0) = (v : Int) := by
  have e : IntKind.u64.wrap 0 = ((0 : Nat) : Int) := by decide
  rw [e, u64_or_nat _ _ (by omega) (by omega), Nat.or_zero]
theorem ret3 {a b c a' b' c' : Int} (h1 : a = a') (h2 : b = b') (h3 : c = c') : Ending.returned (.tuple #[.int .u64 a, .int .i64 b, .int .i64 c]) = .returned (.tuple #[.int .u64 a', .int .i64 b', .int .i64 c']) := by rw [h1, h2, h3]
set_option maxHeartbeats 1600000 in
set_option maxRecDepth 100000 in
theorem uread_any (A : Option Addr) (n c : Nat) (xs : List Nat) (w : World) (hA : Rd w A xs) (hn : n = xs.length) (hb : ∀ x ∈ xs, x < 256) (ln : n ≤ 9223372036854775807) :
    Calls Try.prog 52 #[.slice A n c] w fun e w' => e = .returned (.tuple #[.int .u64 ((rvl 0 0 xs).1 : Nat), .int .i64 ((rvl 0 0 xs).2.1 : Nat), .int .i64 ((rvl 0 0 xs).2.2 : Nat)]) ∧ w = w' := by
  have HA := hide hA
  have HN := hide hn
  have HB := hide hb
  clear hA hn hb
  obtain ⟨r, hr⟩ : ∃ r, r = rvl 0 0 xs := ⟨_, rfl⟩
  rw [← hr]
  have HR := hide hr
  clear hr
  go_enter Try.func52, Try.ntmps52
  go_wp2
  go_loop [5, 11] (fun s i => ∃ k v : Nat, k ≤ n ∧ k ≤ 9 ∧ i = .int .i64 (k : Int) ∧ s = .int .u64 (v : Int) ∧ Hid (v < 2 ^ (7 * k)) ∧ Hid (r = rvl k v (xs.drop k))) (fun _ i => n - (intOf i).toNat)
  case atStart => exact ⟨0, 0, by omega, by omega, rfl, rfl, by unfold Hid; decide, HR.out⟩
  case round =>
    obtain ⟨k, v, hk, hk9, rfl, rfl, hv, hrv⟩ := hrel
    by_cases hlt : k < n
    · obtain ⟨b, off, rfl, hcell⟩ := HA.out (by intro e; rw [HN.out, e] at hlt; simp at hlt)
      obtain ⟨x, cx, lx, ex⟩ := rd_at hcell HB.out k (by rw [← HN.out]; exact hlt)
      have hd := drop_get (xs := xs) (k := k) (by rw [← HN.out]; exact hlt)
      rw [← ex] at hd
      have hrv := hrv.out
      rw [hd] at hrv
      clear hcell hd ex
      have han := andNot128 x lx
      have hv63 := v_lt hk9 hv.out
      by_cases h1 : k = 9 ∧ 1 < x
      · obtain ⟨h9, h1⟩ := h1
        rw [rvl_last h9 h1] at hrv
        subst hrv
        subst h9
        by_cases h2 : 128 ≤ x
        · go_wp2
          go_ret3
          exact ⟨rfl, rfl⟩
        · go_wp2
          go_ret3
          exact ⟨rfl, rfl⟩
      · have HOR := hide (or_walk (c := x) hk9 (by omega) hv.out)
        by_cases h2 : 128 ≤ x
        · have h8 : k < 9 := by omega
          rw [rvl_more h8 h2] at hrv
          have HV := hide (step_lt (c := x) hv.out)
          have HRV := hide hrv
          clear hrv h1
          go_wp2
          go_round
          case rel => exact ⟨k + 1, _, by omega, by omega, by go_num, by rw [HOR.out], HV, HRV⟩
          case measure => simp [intOf]; omega
        · by_cases h0 : x = 0 ∧ 0 < k
          · obtain ⟨h0, h00⟩ := h0
            rw [rvl_zero h0 h00] at hrv
            subst hrv
            subst h0
            clear h1
            by_cases h9 : k = 9
            · subst h9
              go_wp2
              go_ret3
              exact ⟨rfl, rfl⟩
            · go_wp2
              go_ret3
              exact ⟨rfl, rfl⟩
          · rw [rvl_end h1 (by omega) h0] at hrv
            subst hrv
            by_cases h9 : k = 9
            · have hx : x = 1 := by omega
              subst hx
              subst h9
              clear h0 h1
              go_wp2
              go_ret3
              exact ⟨ret3 HOR.out (by omega) rfl, rfl⟩
            · by_cases hk0 : k = 0
              · have hk1 : k ≤ 0 := by omega
                clear h0 h1 hk0
                by_cases hx : x = 0
                · have hx1 : x ≤ 0 := by omega
                  clear hx
                  go_wp2
                  go_ret3
                  exact ⟨ret3 (or_zero v hv63) (by omega) rfl, rfl⟩
                · go_wp2
                  go_ret3
                  exact ⟨ret3 HOR.out (by omega) rfl, rfl⟩
              · have hx : ¬ x = 0 := by omega
                clear h0 h1
                go_wp2
                go_ret3
                exact ⟨ret3 HOR.out (by omega) rfl, rfl⟩
    · have hd : xs.drop k = [] := List.drop_of_length_le (by rw [← HN.out]; omega)
      have hrv := hrv.out
      rw [hd, rvl_nil] at hrv
      subst hrv
      clear hd
      go_wp2
      go_ret3
      exact ⟨rfl, rfl⟩
end Go.Proofs.Ytdbngchbhoanpaa
namespace Go.Proofs.Ytdbngchbhoanpaa
open Go.RowKit
set_option maxHeartbeats 400000 in
theorem clone_any (A : Option Addr) (n c : Nat) (xs : List Nat) (w : World) (hA : IsB w (.slice A n c) xs) (hn : xs.length = n) (h3 : n ≤ 1099511627776) :
    Calls Try.prog 41 #[.slice A n c] w fun e w' => ∃ s, e = .returned s ∧ Own w' w.heap.size s xs ∧ Below w.heap.size w w' := by
  have HA := hide hA
  have HN := hide hn
  have q22 : ∀ (w : World) (a : Option Addr) (n c n' c' : Nat), (binOp .eql 24 (.slice a n c) (.slice none n' c')).run Try.prog w = .ok (.bool a.isNone) w := fun w a n c n' c' => Lib.run_eql_slice_nil w _ _ a n c n' c' Try.underlying24
  rcases A with _ | a
  · have e0 : xs = [] := by
      rcases xs with _ | ⟨y, ys⟩
      · rfl
      · obtain ⟨_, _, e, _⟩ := hA.rd (by simp)
        cases e
    subst e0
    have h0 : n = 0 := by simpa using hn.symm
    subst h0
    clear hA hn
    go_enter Try.func41, Try.ntmps41
    go_wp2_with fail
    go_ret
    exact ⟨_, rfl, World.ownsRow_nil _ _ _ _, Below.refl _ _⟩
  · clear hA hn
    have nb : Below w.heap.size w (w.alloc (.cells #[] 5)) := (Below.refl _ _).alloc (Nat.le_refl _) _
    go_enter Try.func41, Try.ntmps41
    go_wp2_with (at_builtin; refine halt ?_)
    refine ⟨?_⟩
    refine wpList_append_bytes rfl (.tmp 5) (.tmp 6) rfl w.heap.size _ [] rfl (own_lit w #[] [] rfl (by decide)) _ xs rfl (HA.out.keep nb) (by rw [HN.out, List.length_nil]; omega) nb.size ?_
    intro s1 w1 o1 k1
    rw [List.nil_append] at o1
    have O1 := hide o1
    have K1 := hide (nb.trans k1)
    clear nb o1 k1
    go_wp2_with fail
    go_ret
    exact ⟨_, rfl, O1.out, K1.out⟩
end Go.Proofs.Ytdbngchbhoanpaa
namespace Go.Proofs.Ytdbngchbhoanpaa
open Go.RowKit
def crcStep (s : Nat) : Nat := if s % 2 = 1 then s / 2 ^^^ 3988292384 else s / 2
def crcB (s : Nat) : Nat → Nat
  | 0 => s
  | k + 1 => crcStep (crcB s k)
def crcF (s : Nat) (xs : List Nat) : Nat := xs.foldl (fun s c => crcB (s ^^^ c) 8) s
def sumS (xs : List Nat) : Nat := 4294967295 - crcF 4294967295 xs
theorem xor_lt32 {a b : Nat} (ha : a < 4294967296) (hb : b < 4294967296) : a ^^^ b < 4294967296 := Nat.xor_lt_two_pow (n := 32) ha hb
theorem crcStep_lt {s : Nat} (h : s < 4294967296) : crcStep s < 4294967296 := by
  unfold crcStep
  split
  · exact xor_lt32 (by omega) (by decide)
  · omega
theorem crcB_lt {s : Nat} (h : s < 4294967296) : ∀ k, crcB s k < 4294967296
  | 0 => h
  | k + 1 => crcStep_lt (crcB_lt h k)
theorem crcF_lt {s : Nat} (h : s < 4294967296) {xs : List Nat} (hx : ∀ x ∈ xs, x < 256) : crcF s xs < 4294967296 := by
  unfold crcF
  induction xs generalizing s with
  | nil => exact h
  | cons x xs ih =>
    rw [List.foldl_cons]
    exact ih (crcB_lt (xor_lt32 h (by have := hx x (by simp); omega)) 8) (fun y hy => hx y (by simp [hy]))
theorem crcF_snoc (s : Nat) (xs : List Nat) (k : Nat) (h : k < xs.length) : crcF s (xs.take (k + 1)) = crcB (crcF s (xs.take k) ^^^ xs.getD k 0) 8 := by
  unfold crcF
  rw [List.take_succ_eq_append_getElem h, List.foldl_append]
  simp [h]
theorem sumS_known : sumS [49, 50, 51, 52, 53, 54, 55, 56, 57] = 3421780262 := by decide +kernel
theorem and_one32 (x : Nat) (hx : x < 4294967296) : bits .and .u32 (x : Int) 1 = ((x % 2 : Nat) : Int) := by
  rw [u32_and _ _ (by omega) (by omega) (by decide) (by decide)]
  have : (1 : Int).toNat = 1 := rfl
  rw [this, nat_mask1, Int.toNat_natCast]
theorem xor32 (a b : Nat) (ha : a < 4294967296) (hb : b < 4294967296) : bits .xor .u32 (a : Int) (b : Int) = ((a ^^^ b : Nat) : Int) := u32_xor_nat a b ha hb
theorem half_poly (t : Nat) (ht : t < 4294967296) (h : t % 2 = 1) : bits .xor .u32 ((t : Int) / 2) 3988292384 = (crcStep t : Nat) := by
  unfold crcStep
  rw [if_pos h, ← xor32 (t / 2) 3988292384 (by omega) (by decide)]
  simp
theorem half_none (t : Nat) (ht : t < 4294967296) (h : t % 2 = 0) : bits .xor .u32 ((t : Int) / 2) 0 = (crcStep t : Nat) := by
  unfold crcStep
  rw [if_neg (by omega)]
  have := xor32 (t / 2) 0 (by omega) (by decide)
  simpa using this
theorem not32 (a : Nat) (ha : a < 4294967296) : bits .xor .u32 IntKind.u32.max (a : Int) = ((4294967295 - a : Nat) : Int) := by
  show IntKind.u32.wrap ((BitVec.ofInt 32 IntKind.u32.max ^^^ BitVec.ofInt 32 (a : Int)).toNat : Int) = _
  have h1 : BitVec.ofInt 32 IntKind.u32.max = BitVec.allOnes 32 := by decide
  rw [h1, BitVec.allOnes_xor, BitVec.toNat_not, ofInt_u32 a (by omega), IntKind.wrap_u32]
  omega
theorem poly_none : bits .and .u32 3988292384 0 = 0 := by decide +kernel
theorem poly_all : bits .and .u32 3988292384 4294967295 = 3988292384 := by decide +kernel
set_option maxHeartbeats 400000 in
theorem sum_any (A : Option Addr) (n ca : Nat) (xs : List Nat) (w : World) (hA : Rd w A xs) (hn : n = xs.length) (hb : ∀ x ∈ xs, x < 256) (ln : n ≤ 9223372036854775807) :
    Calls Try.prog 44 #[.slice A n ca] w fun e w' => e = .returned (.int .u32 (sumS xs : Nat)) ∧ w = w' := by
  have HN := hide hn
  clear hn
  have pn := poly_none
  have pa := poly_all
  go_enter Try.func44, Try.ntmps44
  go_wp2
  go_loop [3, 8] (fun s i => ∃ k : Nat, k ≤ n ∧ i = .int .i64 (k : Int) ∧ s = .int .u32 (crcF 4294967295 (xs.take k) : Nat)) (fun _ i => n - (intOf i).toNat)
  case atStart => exact ⟨0, Nat.zero_le _, rfl, rfl⟩
  case round =>
    obtain ⟨k, hk, rfl, rfl⟩ := hrel
    have hs := crcF_lt (s := 4294967295) (by decide) (xs := xs.take k) (fun x hx => hb x (List.mem_of_mem_take hx))
    by_cases hlt : k < n
    · obtain ⟨b1, o1, rfl, c1⟩ := hA (by intro e; rw [HN.out, e] at hlt; simp at hlt)
      have k1 := c1 k (by rw [← HN.out]; exact hlt)
      have hsn := crcF_snoc 4294967295 xs k (by rw [← HN.out]; exact hlt)
      have hx : xs.getD k 0 < 256 := by
        have hl : k < xs.length := by rw [← HN.out]; exact hlt
        have : xs.getD k 0 = xs[k] := by simp [hl]
        rw [this]; exact hb _ (List.getElem_mem hl)
      obtain ⟨x, hxe⟩ : ∃ x, x = xs.getD k 0 := ⟨_, rfl⟩
      obtain ⟨s, hse⟩ : ∃ s, s = crcF 4294967295 (xs.take k) := ⟨_, rfl⟩
      rw [← hxe] at k1 hx hsn
      rw [← hse] at hs hsn ⊢
      have HSN := hide hsn
      clear hsn hxe hse c1 hA
      have hxor := xor32 s x hs (by omega)
      have hs2 := xor_lt32 hs (show x < 4294967296 by omega)
      go_wp2
      go_loop [3, 16] (fun t i => ∃ j : Nat, j ≤ 8 ∧ i = .int .i64 (j : Int) ∧ t = .int .u32 (crcB (s ^^^ x) j : Nat)) (fun _ i => 8 - (intOf i).toNat)
      case atStart => exact ⟨0, Nat.zero_le _, rfl, rfl⟩
      case round =>
        obtain ⟨j, hj, rfl, rfl⟩ := hrel
        have ht := crcB_lt hs2 j
        by_cases hj8 : j < 8
        · have hst : crcB (s ^^^ x) (j + 1) = crcStep (crcB (s ^^^ x) j) := rfl
          obtain ⟨t, hte⟩ : ∃ t, t = crcB (s ^^^ x) j := ⟨_, rfl⟩
          rw [← hte] at ht hst ⊢
          have HST := hide hst
          clear hst hte
          have h1 := and_one32 t ht
          by_cases hodd : t % 2 = 1
          · rw [hodd] at h1
            have h2 := half_poly t ht hodd
            go_wp2
            go_round
            case rel => exact ⟨j + 1, by omega, by go_num, by rw [HST.out]⟩
            case measure => simp [intOf]; omega
          · have h0 : t % 2 = 0 := by omega
            rw [h0] at h1
            have h2 := half_none t ht h0
            go_wp2
            go_round
            case rel => exact ⟨j + 1, by omega, by go_num, by rw [HST.out]⟩
            case measure => simp [intOf]; omega
        · obtain rfl : j = 8 := by omega
          go_wp2
          go_round
          case rel => exact ⟨k + 1, by omega, by go_num, by rw [HSN.out]⟩
          case measure => simp [intOf]; omega
    · go_wp2
      go_ret
      have he : xs.take k = xs := List.take_of_length_le (by rw [← HN.out]; omega)
      rw [he] at hs
      rw [he]
      exact ⟨ret_int (by unfold sumS; exact not32 _ hs), rfl⟩
end Go.Proofs.Ytdbngchbhoanpaa
namespace Go.Proofs.Ytdbngchbhoanpaa
open Go.RowKit
attribute [local go_sem] Oper.semAt_some
theorem bound_any (z : Int) (w : World) : Calls Try.prog 28 #[.int .i64 z] w fun e w' => e = .returned (.bool (bndB z)) ∧ w' = w := by
  by_cases h1 : 0 ≤ z
  · by_cases h2 : z ≤ 4194304
    · have e : bndB z = true := by simp [bndB, h1, h2]
      rw [e]
      go_enter Try.func28, Try.ntmps28
      go_wp2_with fail
      go_ret
      exact ⟨rfl, rfl⟩
    · have e : bndB z = false := by simp [bndB, h2]
      rw [e]
      go_enter Try.func28, Try.ntmps28
      go_wp2_with fail
      go_ret
      exact ⟨rfl, rfl⟩
  · have e : bndB z = false := by simp [bndB, h1]
    rw [e]
    go_enter Try.func28, Try.ntmps28
    go_wp2_with fail
    go_ret
    exact ⟨rfl, rfl⟩
set_option maxRecDepth 100000 in
set_option maxHeartbeats 3200000 in
theorem isindex_any (A : Option Addr) (n c : Nat) (ps : List Plc) (w : World) (hA : IsP w A ps) (hn : ps.length = n) (hm : n ≤ 1000000000000) :
    Calls Try.prog 14 #[.slice A n c] w fun e w' => e = .returned (.bool (decide (IsIx ps))) ∧ Below w.heap.size w w' := by
  have HA := hide hA
  have HN := hide hn
  have HB := hide (fun z W => bound_any z W)
  obtain ⟨R, hR⟩ : ∃ R, R = decide (IsIx ps) := ⟨_, rfl⟩
  rw [← hR]
  have HR := hide hR
  clear hA hn hR
  go_enter Try.func14, Try.ntmps14
  go_wp2_with fail
  go_loopw [3, 4, 7] (fun _ _ i wr => ∃ j : Nat, j ≤ n ∧ i = .int .i64 (j : Int) ∧ Hid (∀ k, k < j → okAt ps k) ∧ Hid (Below w.heap.size w wr)) (fun _ _ i _ => n - (intOf i).toNat)
  case atStart => exact ⟨0, Nat.zero_le _, rfl, hide (fun k hk => by omega), hide (Below.refl _ _)⟩
  case round =>
    obtain ⟨j, hj, rfl, HO, HK⟩ := hrel
    by_cases hlt : j < n
    · have hz : (j : Int) < (n : Int) := by omega
      obtain ⟨b, o, rfl, f0, f1, f2, f3, f4⟩ := (HA.out.keep HK.out) j (by rw [HN.out]; exact hlt)
      obtain ⟨P, hP⟩ : ∃ P, ps.getD j noPlc = P := ⟨_, rfl⟩
      rw [hP] at f0 f1 f2 f3 f4
      have hprev : 0 < j → wr.cell? ⟨b, o + (j - 1) * 5, none⟩ = some (.int .u64 ((ps.getD (j - 1) noPlc).key : Int)) := fun h0 => by
        obtain ⟨b', o', e, g0, _⟩ := (HA.out.keep HK.out) (j - 1) (by rw [HN.out]; omega)
        cases e
        exact g0
      obtain ⟨key, a, m, ck, dd⟩ := P
      dsimp only at f0 f1 f2 f3 f4
      have b5 := Blk.new wr (B := 0) 36 #[.int .u64 (key : Int), .int .i64 a, .int .i64 m, .int .u32 (ck : Int), .bool dd] (Nat.zero_le _)
      have k5 := below_alloc wr (.cells #[.int .u64 (key : Int), .int .i64 a, .int .i64 m, .int .u32 (ck : Int), .bool dd] 36)
      have K5 := hide (HK.out.trans (k5.mono HK.out.size))
      have KK := hide k5
      have q0 := b5.cell 0
      have q1 := b5.cell 1
      have q2 := b5.cell 2
      dsimp only [Array.toList, List.getElem?_cons_zero, List.getElem?_cons_succ] at q0 q1 q2
      have HPV := hide hprev
      clear b5 k5 hprev
      by_cases hj0 : j = 0
      · have hd0 : decide (0 < j) = false := decide_eq_false (by omega)
        have HJ0 := hide hj0
        clear hj0
        go_wp2_with fail
        clear f0 f1 f2 f3 f4
        generalize wr.alloc (.cells #[.int .u64 (key : Int), .int .i64 a, .int .i64 m, .int .u32 (ck : Int), .bool dd] 36) = W5 at *
        by_cases ha : bndB a = true
        · by_cases hc : bndB m = true
          · have HOK : okAt ps j := by unfold okAt; rw [hP]; exact ⟨fun h => by have := HJ0.out; omega, ha, hc⟩
            go_quiet ((go_at_call 28; exact Calls.quiet_of_same (HB.out _ _)))
            go_wp2_with fail
            go_roundw
            case rel => exact ⟨j + 1, by omega, by go_num, hide (fun k hk => by
              by_cases e : k = j
              · subst e; exact HOK
              · exact HO.out k (by omega)), hide (below_drewN K5.out _)⟩
            case measure => simp [intOf]; omega
          · have hc : bndB m = false := by simpa using hc
            go_quiet ((go_at_call 28; exact Calls.quiet_of_same (HB.out _ _)))
            go_wp2_with fail
            go_ret
            exact ⟨by rw [HR.out, decide_eq_false (fun h => absurd (h j (by rw [HN.out]; exact hlt)) (by unfold okAt; rw [hP]; rintro ⟨_, _, e⟩; rw [show bndB m = false from hc] at e; cases e))]; rfl, below_drewN K5.out _⟩
        · have ha : bndB a = false := by simpa using ha
          go_quiet ((go_at_call 28; exact Calls.quiet_of_same (HB.out _ _)))
          go_wp2_with fail
          go_ret
          exact ⟨by rw [HR.out, decide_eq_false (fun h => absurd (h j (by rw [HN.out]; exact hlt)) (by unfold okAt; rw [hP]; rintro ⟨_, e, _⟩; rw [show bndB a = false from ha] at e; cases e))]; rfl, below_drewN K5.out _⟩
      · have hd0 : decide (0 < j) = true := decide_eq_true (by omega)
        have p0 := (KK.out.cell (cell_lt (HPV.out (by omega)))).trans (HPV.out (by omega))
        obtain ⟨j1, hj1⟩ : ∃ j1, j1 = j - 1 := ⟨_, rfl⟩
        rw [← hj1] at p0
        have hw1 : IntKind.i64.wrap ((j : Int) - 1) = (j1 : Int) := by rw [IntWalk.i64_in _ (by omega)]; omega
        have hj2 : (j1 : Int) < (n : Int) := by omega
        have hj3 : (0 : Int) ≤ (j1 : Int) := by omega
        have HJ1 := hide hj1
        clear hj1
        obtain ⟨pk, hpk⟩ : ∃ pk, (ps.getD j1 noPlc).key = pk := ⟨_, rfl⟩
        rw [hpk] at p0
        go_wp2_with fail
        clear f0 f1 f2 f3 f4
        generalize wr.alloc (.cells #[.int .u64 (key : Int), .int .i64 a, .int .i64 m, .int .u32 (ck : Int), .bool dd] 36) = W5 at *
        by_cases hkey : (key : Int) ≤ (pk : Int)
        · have hd1 : decide (key ≤ pk) = true := decide_eq_true (by omega)
          go_quiet ((go_at_call 28; exact Calls.quiet_of_same (HB.out _ _)))
          go_wp2_with fail
          go_ret
          exact ⟨by rw [HR.out, decide_eq_false (fun h => absurd (h j (by rw [HN.out]; exact hlt)) (by unfold okAt; rw [hP]; rintro ⟨e, _, _⟩; have e := e (by omega); rw [← HJ1.out, hpk] at e; dsimp only at e; omega))]; rfl, below_drewN K5.out _⟩
        · have hd1 : decide (key ≤ pk) = false := decide_eq_false (by omega)
          by_cases ha : bndB a = true
          · by_cases hc : bndB m = true
            · have HOK : okAt ps j := by unfold okAt; rw [hP]; exact ⟨fun _ => by rw [← HJ1.out, hpk]; dsimp only; omega, ha, hc⟩
              go_quiet ((go_at_call 28; exact Calls.quiet_of_same (HB.out _ _)))
              go_wp2_with fail
              go_roundw
              case rel => exact ⟨j + 1, by omega, by go_num, hide (fun k hk => by
                by_cases e : k = j
                · subst e; exact HOK
                · exact HO.out k (by omega)), hide (below_drewN K5.out _)⟩
              case measure => simp [intOf]; omega
            · have hc : bndB m = false := by simpa using hc
              go_quiet ((go_at_call 28; exact Calls.quiet_of_same (HB.out _ _)))
              go_wp2_with fail
              go_ret
              exact ⟨by rw [HR.out, decide_eq_false (fun h => absurd (h j (by rw [HN.out]; exact hlt)) (by unfold okAt; rw [hP]; rintro ⟨_, _, e⟩; rw [show bndB m = false from hc] at e; cases e))]; rfl, below_drewN K5.out _⟩
          · have ha : bndB a = false := by simpa using ha
            go_quiet ((go_at_call 28; exact Calls.quiet_of_same (HB.out _ _)))
            go_wp2_with fail
            go_ret
            exact ⟨by rw [HR.out, decide_eq_false (fun h => absurd (h j (by rw [HN.out]; exact hlt)) (by unfold okAt; rw [hP]; rintro ⟨_, e, _⟩; rw [show bndB a = false from ha] at e; cases e))]; rfl, below_drewN K5.out _⟩
    · obtain rfl : j = n := by omega
      have hz : ¬ (j : Int) < (j : Int) := by omega
      have e : decide (IsIx ps) = true := decide_eq_true (fun i hi => HO.out i (by rw [← HN.out]; exact hi))
      have HE := hide e
      clear e
      go_wp2_with fail
      go_ret
      exact ⟨by rw [HR.out, HE.out]; rfl, HK.out⟩
end Go.Proofs.Ytdbngchbhoanpaa
namespace Go.Proofs.Ytdbngchbhoanpaa
open Go.RowKit
theorem wpList_append_at {w : World} {ops : Array Oper} {rest : List Oper} {o : Oper} {a : Act} {Q : Exit → Act → World → Prop} (hgd : o.guard = none) (s x : Operand)
    (ho : o.op = .call { callee := .builtin .append, args := #[s, x], argTypes := #[24, 24] })
    (B : Nat) (v : Value) (xs : List Nat) (hs : a.eval s = v) (hown : Own w B v xs)
    (u : Value) (ys : List Nat) (hx : a.eval x = u) (hr : IsB w u ys)
    (hlen : xs.length + ys.length ≤ 140737488355328) (hbase : B ≤ w.heap.size)
    (h : ∀ v' w', Own w' B v' (xs ++ ys) → w.grownBy w' v.ownBlock → (v'.ownBlock = v.ownBlock ∨ v'.ownBlock = some w.heap.size) → wpList Try.prog ops Q rest (a.put o.dst v') w') : wpList Try.prog ops Q (o :: rest) a w := by
  obtain ⟨i0, hi, hz0, hz1, hz2⟩ := info_parts Try.info_u8'
  obtain ⟨A, c, rfl, hr, hn, _⟩ := hr
  have fin : ∀ v' w', w'.ownsRow B 5 1 v' (xs.length + ys.length) ((xs.map fun x : Nat => Value.int .u8 (x : Int)) ++ (ys.map fun x : Nat => Value.int .u8 (x : Int))) → w.grownBy w' v.ownBlock → (v'.ownBlock = v.ownBlock ∨ v'.ownBlock = some w.heap.size) → wpList Try.prog ops Q rest (a.put o.dst v') w' := by
    intro v' w' hown' hg hl
    exact h v' w' (by unfold Own; simpa using hown') hg hl
  rcases A with _ | ad
  · have h0 := hn rfl
    subst h0
    have hys : ys = [] := by
      rcases ys with _ | ⟨y, ys⟩
      · rfl
      · obtain ⟨_, _, e, _⟩ := hr (by simp)
        cases e
    subst hys
    exact wpList_append_own_none hgd s x _ ho B 5 i0 1 Try.underlying24 hi v _ _ hs hown hx (fin v w (by simpa [Own] using hown) (World.grownBy.refl w _) (.inl rfl))
  · refine wpList_append_own_at w hgd s x _ ho B 5 i0 (.int .u8 0) 1 1 Try.underlying24 hi hz0 hz1 hz2 rfl (by decide) v _ _ hs hown ad ys.length c (ys.map fun x : Nat => Value.int .u8 (x : Int)) hx (by simp) ?_ ?_ (by unfold maxLen; omega) (by omega) hbase (fun v' w' h1 h2 _ h4 => fin v' w' h1 h2 h4)
    · intro j u hu
      have hj : j < ys.length := by
        rcases Nat.lt_or_ge j ys.length with h | h
        · exact h
        · simp [h] at hu
      obtain ⟨b, off, e, hc⟩ := hr (by intro e; rw [e] at hj; simp at hj)
      cases e
      have := hc j hj
      simp [hj] at hu
      subst hu
      simpa [add_off, hj] using this
    · intro u hu
      simp at hu
      obtain ⟨y, _, rfl⟩ := hu
      rfl
end Go.Proofs.Ytdbngchbhoanpaa
