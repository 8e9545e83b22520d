/- The contract of matrix.One. No condition but the widths. The contracts of matrix's sums and of matrix.Code. No condition but the widths. matrix.One and matrix.Code, also where they refuse. No condition but the widths. Slices of bytes: what is left of them, three of them. No condition. A part of a slice of bytes that is read. No condition. Rows of bytes of the call's own in a slice of its own, that grow one by one by append: their blocks are unlike. Condition: fewer than 2 to the 40 rows. The contract of the document's One. No condition but the widths. The contract of the document's Code. No condition but the widths. The document's One and Code, also where they refuse. No condition but the widths. -/
import Derived.Test.YtehgjkckhjggbaaSp6
import Derived.Test.YtehgjkckhjggbaaSp7
import Derived.Test.YtehgjkckhjggbaaSp4
import Derived.Test.YtehgjkckhjggbaaSp5
import Derived.Maps.AppendAt
namespace Go.Proofs.Ytehgjkckhjggbaa
open Go.RowKit
theorem one_bad (n : Int) (w : World) (h : n < 1 ∨ 64 < n) : Calls Try.prog 97 #[.int .i64 n] w fun e w' => e = .returned (.tuple #[.slice none 0 0, .int .i64 1]) ∧ w = w' := by
  by_cases h1 : n < 1
  · clear h
    go_enter Try.func97, Try.ntmps97
    go_wp2_with fail
    go_ret2
    exact ⟨rfl, rfl⟩
  · have h2 : 64 < n := by omega
    clear h
    go_enter Try.func97, Try.ntmps97
    go_wp2_with fail
    go_ret2
    exact ⟨rfl, rfl⟩
set_option maxHeartbeats 800000 in
theorem one_any (n : Nat) (w : World) (h1 : 1 ≤ n) (h2 : n ≤ 64) :
    Calls Try.prog 97 #[.int .i64 (n : Int)] w fun e w' => ∃ g, e = .returned (.tuple #[.slice (some ⟨g, 0, none⟩) n n, .int .i64 0]) ∧ OwnMt w' w.heap.size (.slice (some ⟨g, 0, none⟩) n n) (oneL n) ∧ Below w.heap.size w w' := by
  have g1 : ¬ (n : Int) < 1 := by omega
  have g2 : ¬ 64 < (n : Int) := by omega
  have HNO := hide (noughts_any n n w (by omega) (by omega))
  obtain ⟨B, hB⟩ : ∃ B, B = w.heap.size := ⟨_, rfl⟩
  rw [← hB] at HNO ⊢
  clear hB
  go_enter Try.func97, Try.ntmps97
  go_wp2_with fail
  refine HNO.out.mono ?_
  rintro e w1 ⟨g, R, rfl, gr, kb⟩
  have GR := hide gr
  have KB := hide kb
  clear gr kb HNO
  go_wp2_with fail
  go_loopw [17] (fun i wr => ∃ k : Nat, k ≤ n ∧ i = .int .i64 (k : Int) ∧ Hid (∃ f, Grid wr B g n n R f ∧ ∀ a b, f a b = if a < k then dl a b else G.zero) ∧ Hid (Below B w wr)) (fun i _ => n - (intOf i).toNat)
  case atStart => exact ⟨0, Nat.zero_le _, rfl, hide ⟨_, GR.out, fun a b => (if_neg (Nat.not_lt_zero a)).symm⟩, KB⟩
  case round =>
    obtain ⟨k, hk, rfl, hf, hbel⟩ := hrel
    by_cases hlt : k < n
    · obtain ⟨f, gf, ef⟩ := hf.out
      have c1 := gf.cell k hlt
      have c2 := gf.num k k hlt hlt
      have c3 := gf.frozen k k hlt
      have st := gf.set k k hlt G.one
      have BL := hide (gf.below k k hlt (.int .u8 (G.one.n : Int)) hbel.out)
      have NX : Hid (∃ f, Grid (wr.setCell ⟨R k, k, none⟩ (.int .u8 (G.one.n : Int))) B g n n R f ∧ ∀ a b, f a b = if a < k + 1 then dl a b else G.zero) := by
        refine ⟨_, st, fun a b => ?_⟩
        by_cases e1 : a = k
        · subst e1
          rw [if_pos (by omega)]
          by_cases e2 : b = a
          · subst e2; rw [upd_at, dl_eq]
          · rw [upd_col e2, ef, if_neg (by omega), dl_ne (fun q => e2 q.symm)]
        · rw [upd_row e1, ef]
          by_cases e2 : a < k
          · rw [if_pos e2, if_pos (by omega)]
          · rw [if_neg e2, if_neg (by omega)]
      have e1 : ((G.one.n : Nat) : Int) = 1 := rfl
      rw [e1] at NX BL
      clear st gf ef hf hbel e1
      go_wp2_with fail
      go_roundw
      case rel => exact ⟨k + 1, by omega, by go_num, NX, BL⟩
      case measure => simp [intOf]; omega
    · obtain rfl : k = n := by omega
      go_wp2_with fail
      go_ret2
      obtain ⟨f, gf, ef⟩ := hf.out
      refine ⟨g, rfl, ?_, hbel.out⟩
      have := gf.own (by omega) (by omega)
      rwa [show laid k k f = oneL k from laid_congr (fun i hi j _ => by rw [ef, if_pos hi])] at this
end Go.Proofs.Ytehgjkckhjggbaa
namespace Go.Proofs.Ytehgjkckhjggbaa
open Go.RowKit
set_option maxHeartbeats 800000 in
theorem sums_any (k x : Nat) (w : World) (h1 : k ≤ x) (h2 : x ≤ 14) :
    Calls Try.prog 98 #[.int .i64 (k : Int), .int .i64 (x : Int)] w fun e w' => ∃ g, e = .returned (.slice (some ⟨g, 0, none⟩) k k) ∧ Own w' w.heap.size (.slice (some ⟨g, 0, none⟩) k k) ((List.range k).map fun j => (kx x j).n) ∧ Below w.heap.size w w' := by
  obtain ⟨i0, hi, hz0, hz1, hz2⟩ := info_parts Try.info_u8'
  obtain ⟨f, hf⟩ : ∃ f : Nat → Nat, f = fun j => (kx x j).n := ⟨_, rfl⟩
  have HF : Hid (∀ j, j < x → f j = ginv (x ^^^ j)) := by
    intro j hj
    rw [hf]
    exact (kx_walk h2 hj).2.2.2.2
  rw [show ((List.range k).map fun j => (kx x j).n) = part f k k by
    unfold part
    refine List.map_congr_left (fun j hj => ?_)
    rw [if_pos (List.mem_range.1 hj), hf]]
  clear hf
  go_enter Try.func98, Try.ntmps98
  go_wp2_with (at_make; refine halt ?_)
  refine ⟨?_⟩
  refine wpList_make_full _ rfl (.tmp 7) (.tmp 7) 23 rfl w.heap.size 5 i0 (.int .u8 0) 1 Try.underlying23 hi hz0 hz1 .i64 .i64 k k k rfl rfl rfl rfl (by rw [hz2]; omega) (by unfold maxLen; omega) (Nat.le_refl _) ?_
  intro w2 h2' g2
  have o2 := made_bytes h2'
  have b2 : Below w.heap.size w w2 := (Below.refl _ _).grown g2 (Nat.le_refl _) (by simp)
  clear h2' g2 hi hz0 hz1 hz2 i0
  obtain ⟨g, hg⟩ : ∃ g, g = w.heap.size := ⟨_, rfl⟩
  rw [← hg] at o2 ⊢
  have HG := hide hg
  clear hg
  go_wp2_with fail
  go_loopw [11] (fun i wr => ∃ j : Nat, j ≤ k ∧ i = .int .i64 (j : Int) ∧ Hid (Own wr g (.slice (some ⟨g, 0, none⟩) k k) (part f k j)) ∧ Hid (Below g w wr)) (fun i _ => k - (intOf i).toNat)
  case atStart => exact ⟨0, Nat.zero_le _, rfl, hide (by rw [part_zero]; exact o2), hide (by rw [HG.out]; exact b2)⟩
  case round =>
    obtain ⟨j, hj, rfl, hown, hbel⟩ := hrel
    by_cases hlt : j < k
    · obtain ⟨e1, e2, e3, e4, _⟩ := kx_walk h2 (show j < x by omega)
      have hfj := HF.out j (by omega)
      obtain ⟨y, hy⟩ : ∃ y, y = x ^^^ j := ⟨_, rfl⟩
      rw [← hy] at e1 e2 e3 e4 hfj
      have cs := hown.out.cells_ (part_len f k j) j
      have c1 := cs.1 hlt
      have c2 := cs.2
      have st := hown.out.stored' (part_len f k j) j (f j)
      rw [part_set, hfj] at st
      have ST := hide st
      have BL := hide (show Below g w (wr.setCell ⟨g, j, none⟩ (.int .u8 ((ginv y : Nat) : Int))) from hbel.out.setCell (Nat.le_refl _) _)
      have HI := hide (inv_some y wr e3 e4)
      clear cs st hfj hy hown hbel e4
      go_wp2_with fail
      refine HI.out.mono ?_
      rintro e w1 ⟨rfl, rfl⟩
      go_wp2_with fail
      go_roundw
      case rel => exact ⟨j + 1, by omega, by go_num, ST, BL⟩
      case measure => simp [intOf]; omega
    · obtain rfl : j = k := by omega
      go_wp2_with fail
      go_ret
      exact ⟨_, rfl, hown.out.more (Nat.le_of_eq HG.out.symm), by rw [← HG.out]; exact hbel.out⟩
theorem code_bad (k m : Int) (w : World) (_k1 : -9223372036854775808 ≤ k) (_k2 : k ≤ 9223372036854775807) (_m1 : -9223372036854775808 ≤ m) (_m2 : m ≤ 9223372036854775807) (h : k < 1 ∨ m < 0 ∨ 14 < k + m) :
    Calls Try.prog 59 #[.int .i64 k, .int .i64 m] w fun e w' => e = .returned (.tuple #[.slice none 0 0, .int .i64 1]) ∧ w = w' := by
  by_cases h1 : k < 1
  · clear h
    go_enter Try.func59, Try.ntmps59
    go_wp2_with fail
    go_ret2
    exact ⟨rfl, rfl⟩
  · by_cases h2 : m < 0
    · clear h
      go_enter Try.func59, Try.ntmps59
      go_wp2_with fail
      go_ret2
      exact ⟨rfl, rfl⟩
    · have h3 : 14 - k < m := by omega
      clear h
      go_enter Try.func59, Try.ntmps59
      go_wp2_with fail
      go_ret2
      exact ⟨rfl, rfl⟩
set_option maxHeartbeats 800000 in
theorem code_any (k m : Nat) (w : World) (h1 : 1 ≤ k) (h2 : k + m ≤ 14) :
    Calls Try.prog 59 #[.int .i64 (k : Int), .int .i64 (m : Int)] w fun e w' => ∃ v, e = .returned (.tuple #[v, .int .i64 0]) ∧ OwnMt w' w.heap.size v (codeL k m) ∧ Below w.heap.size w w' := by
  have HO := hide (one_any k w h1 (by omega))
  obtain ⟨B, hB⟩ : ∃ B, B = w.heap.size := ⟨_, rfl⟩
  rw [← hB] at HO ⊢
  have HB := hide hB
  have HL : Hid ((codeL k m).length = k + m) := by unfold Hid codeL; rw [laid_len]
  have HR : Hid (∀ i, i < m → (codeL k m).getD (k + i) [] = (List.range k).map fun j => (kx (k + i) j).n) := fun i hi => code_row hi
  have H0 : Hid ((codeL k m).take (k + 0) = oneL k) := code_one
  obtain ⟨L, hL⟩ : ∃ L, L = codeL k m := ⟨_, rfl⟩
  rw [← hL] at HL HR H0 ⊢
  have g1 : ¬ (k : Int) < 1 := by omega
  have g2 : ¬ (m : Int) < 0 := by omega
  have g3 : ¬ (14 - (k : Int) < (m : Int)) := by omega
  clear hB hL
  go_enter Try.func59, Try.ntmps59
  go_wp2_with fail
  refine HO.out.mono ?_
  rintro e w1 ⟨g, rfl, o1, k1⟩
  have O1 := hide o1
  have K1 := hide k1
  clear o1 k1 HO
  go_wp2_with fail
  go_loopw [6, 27] (fun s i wr => ∃ j : Nat, j ≤ m ∧ i = .int .i64 (j : Int) ∧ Hid (OwnMt wr B s (L.take (k + j))) ∧ Hid (Below B w wr)) (fun _ i _ => m - (intOf i).toNat)
  case atStart => exact ⟨0, Nat.zero_le _, rfl, hide (by rw [H0.out]; exact O1.out), K1⟩
  case round =>
    obtain ⟨j, hj, rfl, hown, hbel⟩ := hrel
    by_cases hlt : j < m
    · have HS := hide (sums_any k (k + j) wr (by omega) (by omega))
      rw [← HR.out j hlt] at HS
      have hc : ((k + j : Nat) : Int) = (k : Int) + (j : Int) := by omega
      rw [hc] at HS
      have HGS : Hid (B ≤ wr.heap.size) := by rw [HB.out]; exact hbel.out.size
      clear hc
      go_wp2_with fail
      refine HS.out.mono ?_
      rintro e w2 ⟨b, rfl, o2, k2⟩
      have OM := hide (hown.out.keep k2)
      have OR := hide (o2.more HGS.out)
      have K2 := hide (hbel.out.trans (k2.mono HGS.out))
      have HG2 := hide (Nat.le_trans HGS.out k2.size)
      clear o2 k2 HS hown hbel HGS
      go_wp2_with (at_builtin; refine halt ?_)
      refine ⟨?_⟩
      have ka := below_alloc w2 (.cells #[.slice (some ⟨b, 0, none⟩) k k] 23)
      refine wpList_append_mrow rfl (.tmp 30) (.tmp 36) rfl B _ _ rfl (OM.out.keep ka) _ _ _ rfl (cell_newAt _ _ _ rfl) (OR.out.keep ka) (by rw [List.length_take]; omega) (Nat.le_trans HG2.out ka.size) ?_
      intro v' w7 o7 k7
      rw [← take_snoc _ _ (by rw [HL.out]; omega)] at o7
      have O7 := hide o7
      have K7 := hide ((K2.out.trans (ka.mono HG2.out)).trans k7)
      clear o7 k7 ka HG2 OM OR K2
      go_wp2_with fail
      go_roundw
      case rel => exact ⟨j + 1, by omega, by go_num, O7, K7⟩
      case measure => simp [intOf]; omega
    · obtain rfl : j = m := by omega
      go_wp2_with fail
      go_ret2
      refine ⟨_, rfl, ?_, hbel.out⟩
      have := hown.out
      rwa [List.take_of_length_le (by rw [HL.out]; exact Nat.le_refl _)] at this
end Go.Proofs.Ytehgjkckhjggbaa
namespace Go.Proofs.Ytehgjkckhjggbaa
open Go.RowKit
theorem one_all (n : Int) (w : World) : Calls Try.prog 97 #[.int .i64 n] w fun e w' => ∃ v, e = .returned (.tuple #[v, .int .i64 (oneE n)]) ∧ OwnMt w' w.heap.size v (oneR n) ∧ Below w.heap.size w w' := by
  unfold oneE oneR
  by_cases h : 1 ≤ n ∧ n ≤ 64
  · rw [if_pos h, if_pos h]
    obtain ⟨k, rfl⟩ : ∃ k : Nat, n = (k : Int) := ⟨n.toNat, by omega⟩
    rw [Int.toNat_natCast]
    exact (one_any k w (by omega) (by omega)).mono fun e w' ⟨g, h1, h2, h3⟩ => ⟨_, h1, h2, h3⟩
  · rw [if_neg h, if_neg h]
    refine (one_bad n w (by omega)).mono ?_
    rintro e w' ⟨rfl, rfl⟩
    exact ⟨_, rfl, OwnMt.nil _ _, Below.refl _ _⟩
theorem code_all (k m : Int) (w : World) (k1 : -9223372036854775808 ≤ k) (k2 : k ≤ 9223372036854775807) (m1 : -9223372036854775808 ≤ m) (m2 : m ≤ 9223372036854775807) :
    Calls Try.prog 59 #[.int .i64 k, .int .i64 m] w fun e w' => ∃ v, e = .returned (.tuple #[v, .int .i64 (codeE k m)]) ∧ OwnMt w' w.heap.size v (codeR k m) ∧ Below w.heap.size w w' := by
  unfold codeE codeR
  by_cases h : k < 1 ∨ m < 0 ∨ 14 < k + m
  · rw [if_pos h, if_pos h]
    refine (code_bad k m w k1 k2 m1 m2 h).mono ?_
    rintro e w' ⟨rfl, rfl⟩
    exact ⟨_, rfl, OwnMt.nil _ _, Below.refl _ _⟩
  · rw [if_neg h, if_neg h]
    obtain ⟨a, rfl⟩ : ∃ a : Nat, k = (a : Int) := ⟨k.toNat, by omega⟩
    obtain ⟨b, rfl⟩ : ∃ b : Nat, m = (b : Int) := ⟨m.toNat, by omega⟩
    rw [Int.toNat_natCast, Int.toNat_natCast]
    exact code_any a b w (by omega) (by omega)
end Go.Proofs.Ytehgjkckhjggbaa
namespace Go.Proofs.Ytehgjkckhjggbaa
open Go.RowKit
theorem isB_drop {w : World} {b off n c : Nat} {xs : List Nat} (h : IsB w (.slice (some ⟨b, off, none⟩) n c) xs) (k m d : Nat) (hm : m = n - k) (hd : d = c - k) (hk : k ≤ n) : IsB w (.slice (some ⟨b, off + k, none⟩) m d) (xs.drop k) := by
  subst hm; subst hd
  obtain ⟨A', c', e, r, h1, h2, h3⟩ := h
  cases e
  refine ⟨_, _, by rw [List.length_drop], ?_, (fun h => by cases h), by rw [List.length_drop]; omega, by omega⟩
  intro hne
  have hl : 0 < (xs.drop k).length := by
    rcases e : xs.drop k with _ | ⟨y, ys⟩
    · exact absurd e hne
    · simp
  obtain ⟨b', off', e, hc⟩ := r (by intro e; rw [e] at hl; simp at hl)
  cases e
  refine ⟨b, off + k, rfl, fun i hi => ?_⟩
  rw [List.length_drop] at hi
  have := hc (k + i) (by omega)
  rw [Nat.add_assoc, this]
  congr 2
  simp
/-- What is left of a slice behind k bytes, wherever the walk lays it. -/
theorem isB_tail {w : World} {b off n c : Nat} {xs : List Nat} (h : IsB w (.slice (some ⟨b, off, none⟩) n c) xs) (k : Nat) (hk : k ≤ n) : IsB w (.slice (some ⟨b, if c = k then off else off + k, none⟩) (n - k) (c - k)) (xs.drop k) := by
  by_cases hc : c = k
  · obtain ⟨A', c', e, r, h1, h2, h3⟩ := h
    cases e
    have h0 : xs.drop k = [] := List.eq_nil_of_length_eq_zero (by rw [List.length_drop]; omega)
    rw [if_pos hc, h0]
    have hn : xs.length - k = 0 := by omega
    rw [hn]
    exact ⟨_, _, rfl, fun h => absurd rfl h, (fun h => by cases h), Nat.zero_le _, by omega⟩
  · rw [if_neg hc]
    exact isB_drop h k _ _ rfl rfl hk
theorem isBs3 {w : World} {u v z : Value} {xs ys zs : List Nat} (h1 : IsB w u xs) (h2 : IsB w v ys) (h3 : IsB w z zs) : IsBs w [u, v, z] [xs, ys, zs] := by
  refine ⟨rfl, fun i hi => ?_⟩
  match i, hi with
  | 0, _ => exact h1
  | 1, _ => exact h2
  | 2, _ => exact h3
theorem isB_len {w : World} {A : Option Addr} {n c : Nat} {xs : List Nat} (h : IsB w (.slice A n c) xs) : xs.length = n ∧ n ≤ c ∧ c ≤ 9223372036854775807 := by
  obtain ⟨_, _, e, _, _, h2, h3⟩ := h
  cases e
  exact ⟨rfl, h2, h3⟩
theorem isB_at {w : World} {A : Option Addr} {n c : Nat} {xs : List Nat} (h : IsB w (.slice A n c) xs) (h1 : 1 ≤ n) : ∃ b off, A = some ⟨b, off, none⟩ := by
  have hl := (isB_len h).1
  obtain ⟨b, off, e, _⟩ := h.rd (by intro e; rw [e] at hl; simp at hl; omega)
  exact ⟨b, off, e⟩
theorem isB_nilw (w : World) : IsB w (.slice none 0 0) [] := ⟨none, 0, rfl, fun h => absurd rfl h, fun _ => rfl, Nat.zero_le _, by decide⟩
end Go.Proofs.Ytehgjkckhjggbaa
namespace Go.Proofs.Ytehgjkckhjggbaa
open Go.RowKit
theorem isB_sub {w : World} {b off n c : Nat} {xs : List Nat} (h : IsB w (.slice (some ⟨b, off, none⟩) n c) xs) (k m d : Nat) (hkm : k + m ≤ n) (hd : d = c - k) : IsB w (.slice (some ⟨b, off + k, none⟩) m d) ((xs.drop k).take m) := by
  obtain ⟨h1, h2, h3⟩ := isB_len h
  obtain ⟨A, c', e, hr, hn, hl, hm⟩ := h
  simp only [Value.slice.injEq] at e
  obtain ⟨rfl, rfl, rfl⟩ := e
  have hlen : ((xs.drop k).take m).length = m := by rw [List.length_take, List.length_drop]; omega
  refine ⟨_, _, by rw [hlen], ?_, fun q => (by cases q), by rw [hlen]; omega, by omega⟩
  intro hne
  have hm0 : 0 < m := by rw [← hlen]; exact List.length_pos_iff.2 hne
  obtain ⟨b', off', e, hc⟩ := hr (by intro q; rw [q] at hkm; simp at hkm; omega)
  cases e
  refine ⟨_, _, rfl, fun i hi => ?_⟩
  rw [hlen] at hi
  have h9 := hc (k + i) (by omega)
  rw [Nat.add_assoc, h9]
  congr 3
  simp [hi]
theorem getD_sub {xs : List Nat} {k m i : Nat} (hi : i < m) : ((xs.drop k).take m).getD i 0 = xs.getD (k + i) 0 := by
  simp [hi]
end Go.Proofs.Ytehgjkckhjggbaa
namespace Go.Proofs.Ytehgjkckhjggbaa
open Go.RowKit
theorem wp_append_lies {P : Program} {w : World} {o : Oper} {a : Act} {K : Act → World → Prop} {Q : Exit → Act → World → Prop} (s x : Operand) (t : TypeId)
    (ho : o.op = .call { callee := .builtin .append, args := #[s, x], argTypes := #[t, t] })
    (base : Nat) (e : TypeId) (i : TypeInfo) (z : Value) (size bytes : Nat) (ht : P.underlying t = some (.slice e)) (hi : P.info? e = some i) (hz : i.zero = some z)
    (hsize : i.size = size) (hby : i.bytes = bytes) (hzs : z.cells.size = size) (hsz : 0 < size)
    (v : Value) (n : Nat) (xs : List Value) (hs : a.eval s = v) (hown : w.ownsRow base e size v n xs)
    (ad : Addr) (m c : Nat) (news : List Value) (hx : a.eval x = .slice (some ad) m c) (hl : news.length = m * size) (hnews : ∀ j u, news[j]? = some u → w.cell? (ad.add j) = some u) (h1 : ∀ u ∈ news, u.oneCell' = true)
    (h63 : n + m ≤ maxLen) (hbytes : (n + m) * bytes ≤ 140737488355328) (hbase : base ≤ w.heap.size)
    (h : ∀ v' w', w'.ownsRow base e size v' (n + m) (xs ++ news) → w.grownBy w' v.ownBlock → (v'.ownBlock = v.ownBlock ∨ v'.ownBlock = some w.heap.size) → K (a.put o.dst v') w') : o.wp P a w K Q := by
  obtain ⟨v', w', hr, h2, h3, _, h4⟩ := run_append_own_at (P := P) w base t o.type e i z size bytes ht hi hz hsize hby hzs hsz v n xs hown ad m c news hl hnews h1 h63 hbytes hbase
  unfold Oper.wp execOp
  simp only [ho, resolve, invoke, builtin, Sem.run_bind, Sem.run_pure, Result.andThen_ok, List.map_toArray, List.map_cons, List.map_nil, hs, hx, hr]
  exact h v' w' h2 h3 h4
structure RowsA (w : World) (B g n : Nat) (xss : ML) : Prop where
  ex : ∃ vs : List Value, vs.length = n ∧ xss.length = n ∧ Blk w B 23 g vs ∧ (∀ i, i < n → Own w B (vs.getD i (.slice none 0 0)) (xss.getD i [])) ∧
    ∀ i j, i < n → j < n → ∀ b, (vs.getD i (.slice none 0 0)).ownBlock = some b → (vs.getD j (.slice none 0 0)).ownBlock = some b → i = j
theorem RowsA.nils {w : World} {B g n : Nat} (h : Blk w B 23 g (List.replicate n (.slice none 0 0))) : RowsA w B g n (List.replicate n []) := by
  refine ⟨⟨List.replicate n (.slice none 0 0), by simp, by simp, h, fun i hi => ?_, fun i j hi hj b e => ?_⟩⟩
  · have e1 : (List.replicate n (Value.slice none 0 0)).getD i (.slice none 0 0) = .slice none 0 0 := by simp [hi]
    have e2 : (List.replicate n ([] : List Nat)).getD i [] = [] := by simp [hi]
    rw [e1, e2]
    exact World.ownsRow_nil _ _ _ _
  · have e1 : (List.replicate n (Value.slice none 0 0)).getD i (.slice none 0 0) = .slice none 0 0 := by simp [hi]
    rw [e1] at e
    cases e
theorem RowsA.row {w : World} {B g n : Nat} {xss : ML} (h : RowsA w B g n xss) (i : Nat) (hi : i < n) :
    ∃ A c, w.cell? ⟨g, i, none⟩ = some (.slice A (xss.getD i []).length c) ∧ Own w B (.slice A (xss.getD i []).length c) (xss.getD i []) ∧ w.frozen? ⟨g, i, none⟩ = false := by
  obtain ⟨vs, h1, h2, h3, h4, h5⟩ := h.ex
  have ho := h4 i hi
  obtain ⟨A, c, e, _⟩ := ho.form
  rw [e] at ho
  refine ⟨A, c, ?_, ho, h3.frozen i⟩
  rw [h3.cell, ← e]
  simp [show i < vs.length by omega]
theorem RowsA.keep {w w' : World} {B g n : Nat} {xss : ML} (h : RowsA w B g n xss) (k : Below w.heap.size w w') : RowsA w' B g n xss := by
  obtain ⟨vs, h1, h2, h3, h4, h5⟩ := h.ex
  exact ⟨⟨vs, h1, h2, h3.keep k, fun i hi => (h4 i hi).keep k, h5⟩⟩
theorem RowsA.base {w : World} {B g n : Nat} {xss : ML} (h : RowsA w B g n xss) : B ≤ g ∧ g < w.heap.size := by
  obtain ⟨vs, h1, h2, h3, h4, h5⟩ := h.ex
  exact ⟨h3.1, h3.lt⟩
/-- A row has grown and is laid at its place. -/
theorem RowsA.grow {w w' : World} {B g n i : Nat} {xss : ML} {A : Option Addr} {l c : Nat} {v' : Value} {ys : List Nat} (h : RowsA w B g n xss) (hi : i < n) (hc : w.cell? ⟨g, i, none⟩ = some (.slice A l c))
    (ho : Own w' B v' ys) (hg : w.grownBy w' (Value.slice A l c).ownBlock) (hl : v'.ownBlock = (Value.slice A l c).ownBlock ∨ v'.ownBlock = some w.heap.size) :
    RowsA (w'.setCell ⟨g, i, none⟩ v') B g n (xss.set i ys) := by
  obtain ⟨vs, h1, h2, h3, h4, h5⟩ := h.ex
  have hvi : vs.getD i (.slice none 0 0) = .slice A l c := by
    rw [h3.cell] at hc
    simp [hc]
  have hgi : ∀ j, j < n → ∀ b, (vs.getD j (.slice none 0 0)).ownBlock = some b → b ≠ g := by
    intro j hj b e q
    subst q
    rcases (h4 j hj).2 with ⟨e1, _⟩ | ⟨g', cap, cur, e1, hB, hh, _⟩
    · rw [e1] at e; cases e
    · rw [e1] at e
      obtain rfl : g' = b := by simpa [Value.ownBlock] using e
      obtain ⟨_, cur', hh', _⟩ := h3
      rw [hh] at hh'
      simp only [Option.some.injEq, Obj.cells.injEq] at hh'
      exact absurd hh'.2.1 (by decide)
  have hne : (Value.slice A l c).ownBlock ≠ some g := fun q => hgi i hi g (by rw [hvi]; exact q) rfl
  have b3 : Blk w' B 23 g vs := h3.kept hg hne
  have hset : w'.grownBy (w'.setCell ⟨g, i, none⟩ v') (some g) := grown_set w' g i v'
  have hvg : v'.ownBlock ≠ some g := by
    intro q
    rcases hl with e | e
    · exact hne (by rw [← e]; exact q)
    · rw [e] at q
      have := h3.lt
      have : w.heap.size = g := Option.some.inj q
      omega
  refine ⟨⟨vs.set i v', by simp [h1], by simp [h2], b3.stored i v', fun j hj => ?_, fun j k hj hk b e1 e2 => ?_⟩⟩
  · by_cases e : i = j
    · subst e
      have e1 : (vs.set i v').getD i (.slice none 0 0) = v' := by simp [show i < vs.length by omega]
      have e2 : (xss.set i ys).getD i [] = ys := by simp [show i < xss.length by omega]
      rw [e1, e2]
      exact World.ownsRow.kept ho hset (.inr hvg)
    · have e1 : (vs.set i v').getD j (.slice none 0 0) = vs.getD j (.slice none 0 0) := by simp [e]
      have e2 : (xss.set i ys).getD j [] = xss.getD j [] := by simp [e]
      rw [e1, e2]
      have hj4 := h4 j hj
      have k1 : Own w' B (vs.getD j (.slice none 0 0)) (xss.getD j []) := by
        refine World.ownsRow.kept hj4 hg ?_
        rcases hb : (vs.getD j (.slice none 0 0)).ownBlock with _ | b
        · exact .inl rfl
        · right
          intro q
          exact e (h5 i j hi hj b (by rw [hvi]; exact q.symm) hb)
      refine World.ownsRow.kept k1 hset ?_
      rcases hb : (vs.getD j (.slice none 0 0)).ownBlock with _ | b
      · exact .inl rfl
      · right
        intro q
        exact hgi j hj b hb (Option.some.inj q)
  · have hold : ∀ j, j < n → i ≠ j → ∀ b, (vs.getD j (.slice none 0 0)).ownBlock = some b → v'.ownBlock ≠ some b := by
      intro j hj e b hb q
      rcases hl with el | el
      · exact e (h5 i j hi hj b (by rw [hvi, ← el]; exact q) hb)
      · have h9 := ((h4 j hj).lt b hb).2
        rw [el] at q
        have := Option.some.inj q
        omega
    by_cases ej : i = j
    · by_cases ek : i = k
      · omega
      · subst ej
        have q1 : (vs.set i v').getD i (.slice none 0 0) = v' := by simp [show i < vs.length by omega]
        have q2 : (vs.set i v').getD k (.slice none 0 0) = vs.getD k (.slice none 0 0) := by simp [ek]
        rw [q1] at e1
        rw [q2] at e2
        exact absurd e1 (hold k hk ek b e2)
    · have q1 : (vs.set i v').getD j (.slice none 0 0) = vs.getD j (.slice none 0 0) := by simp [ej]
      rw [q1] at e1
      by_cases ek : i = k
      · subst ek
        have q2 : (vs.set i v').getD i (.slice none 0 0) = v' := by simp [show i < vs.length by omega]
        rw [q2] at e2
        exact absurd e2 (hold j hj ej b e1)
      · have q2 : (vs.set i v').getD k (.slice none 0 0) = vs.getD k (.slice none 0 0) := by simp [ek]
        rw [q2] at e2
        exact h5 j k hj hk b e1 e2
/-- .. and the list's cell stands meanwhile. -/
theorem RowsA.stay {w w' : World} {B g n i : Nat} {xss : ML} {A : Option Addr} {l c : Nat} (h : RowsA w B g n xss) (hi : i < n) (hc : w.cell? ⟨g, i, none⟩ = some (.slice A l c)) (hg : w.grownBy w' (Value.slice A l c).ownBlock) :
    w'.cell? ⟨g, i, none⟩ = some (.slice A l c) ∧ w'.frozen? ⟨g, i, none⟩ = false := by
  obtain ⟨vs, h1, h2, h3, h4, h5⟩ := h.ex
  have hvi : vs.getD i (.slice none 0 0) = .slice A l c := by
    have hc := hc
    rw [h3.cell] at hc
    simp [hc]
  have hne : (Value.slice A l c).ownBlock ≠ some g := by
    intro q
    rcases (h4 i hi).2 with ⟨e1, _⟩ | ⟨g', cap, cur, e1, hB, hh, _⟩
    · rw [hvi] at e1
      rw [e1] at q
      cases q
    · rw [hvi] at e1
      rw [e1] at q
      obtain rfl : g' = g := by simpa [Value.ownBlock] using q
      obtain ⟨_, cur', hh', _⟩ := h3
      rw [hh] at hh'
      simp only [Option.some.injEq, Obj.cells.injEq] at hh'
      exact absurd hh'.2.1 (by decide)
  have b3 : Blk w' B 23 g vs := h3.kept hg hne
  exact ⟨by rw [b3.cell, ← h3.cell]; exact hc, b3.frozen i⟩
theorem RowsA.own {w : World} {B g n : Nat} {xss : ML} (h : RowsA w B g n xss) (hn : n ≤ 1099511627776) : OwnMt w B (.slice (some ⟨g, 0, none⟩) n n) xss := by
  obtain ⟨vs, h1, h2, h3, h4, h5⟩ := h.ex
  refine ⟨vs, ?_, by omega, fun i hi => h4 i (by omega)⟩
  obtain ⟨hb, cur, hg, hc⟩ := h3
  have hs : cur.size = n := by rw [← Array.length_toList, hc, h1]
  unfold OwnV
  rw [h1]
  refine ⟨by rw [h1, Nat.mul_one], .inr ⟨g, n, cur, rfl, hb, hg, by omega, by unfold maxLen; omega, by omega, ?_⟩⟩
  rw [hc, Nat.mul_one]
  exact List.take_of_length_le (by rw [h1]; exact Nat.le_refl _)
/-- An append of bytes in a region that draws, with where the new row lies. -/
theorem step_append_at {w : World} {ops : Array Oper} {o : Oper} {a : Act} {K : Act → World → Prop} {Q : Exit → Act → World → Prop} {E : Prop} (hgd : o.guard = none) (s x : Operand)
    (ho : o.op = .call { callee := .builtin .append, args := #[s, x], argTypes := #[23, 23] })
    (B : Nat) (v : Value) (xs : List Nat) (hs : a.eval s = v) (hown : Own w B v xs)
    (u : Value) (ys : List Nat) (hx : a.eval x = u) (hr : IsB w u ys)
    (hlen : xs.length + ys.length ≤ 140737488355328) (hbase : B ≤ w.heap.size)
    (h : ∀ v' w', Own w' B v' (xs ++ ys) → w.grownBy w' v.ownBlock → (v'.ownBlock = v.ownBlock ∨ v'.ownBlock = some w.heap.size) → K (a.put o.dst v') w') : if Region.wanted o (yielded ops a.tmps) = true then Oper.wp Try.prog o a w K Q else E := by
  have hw : Region.wanted o (yielded ops a.tmps) = true := by simp [Region.wanted, hgd]
  rw [if_pos hw]
  obtain ⟨i0, hi, hz0, hz1, hz2⟩ := info_parts Try.info_u8'
  obtain ⟨A, c, rfl, hr, hn, _⟩ := hr
  have fin : ∀ v' w', w'.ownsRow B 5 1 v' (xs.length + ys.length) ((xs.map fun x : Nat => Value.int .u8 (x : Int)) ++ (ys.map fun x : Nat => Value.int .u8 (x : Int))) → w.grownBy w' v.ownBlock → (v'.ownBlock = v.ownBlock ∨ v'.ownBlock = some w.heap.size) → K (a.put o.dst v') w' := by
    intro v' w' hown' hg hl
    exact h v' w' (by unfold Own; simpa using hown') hg hl
  rcases A with _ | ad
  · have h0 := hn rfl
    subst h0
    have hys : ys = [] := by
      rcases ys with _ | ⟨y, ys⟩
      · rfl
      · obtain ⟨_, _, e, _⟩ := hr (by simp)
        cases e
    subst hys
    have hrun := run_append_owned_none (P := Try.prog) (w := w) B 23 o.type 5 i0 1 Try.underlying23 hi v _ _ hown
    unfold Oper.wp
    simp [execOp, ho, resolve, invoke, builtin, hs, hx, hrun, Result.andThen]
    exact fin v w (by simpa [Own] using hown) (World.grownBy.refl w _) (.inl rfl)
  · refine wp_append_lies s x _ ho B 5 i0 (.int .u8 0) 1 1 Try.underlying23 hi hz0 hz1 hz2 rfl (by decide) v _ _ hs hown ad ys.length c (ys.map fun x : Nat => Value.int .u8 (x : Int)) hx (by simp) ?_ ?_ (by unfold maxLen; omega) (by omega) hbase (fun v' w' h1 h2 h4 => fin v' w' h1 h2 h4)
    · intro j u hu
      have hj : j < ys.length := by
        rcases Nat.lt_or_ge j ys.length with h | h
        · exact h
        · simp [h] at hu
      obtain ⟨b, off, e, hc⟩ := hr (by intro e; rw [e] at hj; simp at hj)
      cases e
      have := hc j hj
      simp [hj] at hu
      subst hu
      simpa [add_off, hj] using this
    · intro u hu
      simp at hu
      obtain ⟨y, _, rfl⟩ := hu
      rfl
end Go.Proofs.Ytehgjkckhjggbaa
namespace Go.Proofs.Ytehgjkckhjggbaa
open Go.RowKit
theorem rone_bad (n : Int) (w : World) (h : n < 1 ∨ 64 < n) : Calls Try.prog 102 #[.int .i64 n] w fun e w' => e = .returned (.tuple #[.slice none 0 0, .int .i64 1]) ∧ w = w' := by
  by_cases h1 : n < 1
  · clear h
    go_enter Try.func102, Try.ntmps102
    go_wp2_with fail
    go_ret2
    exact ⟨rfl, rfl⟩
  · have h2 : 64 < n := by omega
    clear h
    go_enter Try.func102, Try.ntmps102
    go_wp2_with fail
    go_ret2
    exact ⟨rfl, rfl⟩
set_option maxHeartbeats 800000 in
theorem rone_any (n : Nat) (w : World) (h1 : 1 ≤ n) (h2 : n ≤ 64) :
    Calls Try.prog 102 #[.int .i64 (n : Int)] w fun e w' => ∃ v, e = .returned (.tuple #[v, .int .i64 0]) ∧ OwnMt w' w.heap.size v (oneL n) ∧ Below w.heap.size w w' := by
  obtain ⟨i1, hj, hy0, hy1, hy2⟩ := info_parts Try.info_u8'
  have HJ := hide (And.intro hj (And.intro hy0 (And.intro hy1 hy2)))
  clear hj hy0 hy1 hy2
  have g1 : ¬ (n : Int) < 1 := by omega
  have g2 : ¬ 64 < (n : Int) := by omega
  obtain ⟨B, hB⟩ : ∃ B, B = w.heap.size := ⟨_, rfl⟩
  rw [← hB]
  have HB := hide hB
  clear hB
  go_enter Try.func102, Try.ntmps102
  go_wp2_with fail
  go_loopw [4, 5] (fun s i wr => ∃ k : Nat, k ≤ n ∧ i = .int .i64 (k : Int) ∧ Hid (OwnMt wr B s ((oneL n).take k)) ∧ Hid (Below B w wr)) (fun _ i _ => n - (intOf i).toNat)
  case atStart => exact ⟨0, Nat.zero_le _, rfl, hide (OwnMt.nil _ _), hide (by rw [HB.out]; exact Below.refl _ _)⟩
  case round =>
    obtain ⟨k, hk, rfl, hown, hbel⟩ := hrel
    by_cases hlt : k < n
    · obtain ⟨hj, hy0, hy1, hy2⟩ := HJ.out
      go_wp2_with (at_make; refine halt ?_)
      refine ⟨?_⟩
      refine wpList_make_full _ rfl (.tmp 18) (.tmp 18) 23 rfl wr.heap.size 5 i1 (.int .u8 0) 1 Try.underlying23 hj hy0 hy1 .i64 .i64 n n n rfl rfl rfl rfl (by rw [hy2]; omega) (by unfold maxLen; omega) (Nat.le_refl _) ?_
      intro w3 h3 g3
      clear hj hy0 hy1 hy2
      have hgs : B ≤ wr.heap.size := by rw [HB.out]; exact hbel.out.size
      have o3 := (made_bytes h3).more hgs
      have k3 : Below wr.heap.size wr w3 := (Below.refl _ _).grown g3 (Nat.le_refl _) (by simp)
      have ow3 := hown.out.keep k3
      have kb3 := hbel.out.trans (k3.mono hgs)
      obtain ⟨b, hb⟩ : ∃ b, b = wr.heap.size := ⟨_, rfl⟩
      rw [← hb] at o3 ⊢
      have cs := o3.cells_ (by simp) k
      have c1 := cs.1 hlt
      have c2 := cs.2
      have st := o3.stored' (by simp) k 1
      rw [one_row hlt] at st
      have ST := hide (st.more (B' := B) (Nat.le_refl _))
      have kset := k3.setCell (p := ⟨b, k, none⟩) (Nat.le_of_eq hb.symm) (.int .u8 ((1 : Nat) : Int))
      have OW := hide (hown.out.keep kset)
      have KS := hide (hbel.out.trans (kset.mono hgs))
      clear h3 g3 o3 k3 ow3 kb3 cs st kset hown hbel hgs hb
      rw [show ((1 : Nat) : Int) = 1 from rfl] at ST OW KS
      have HSZ : Hid (w3.heap.size = (w3.setCell ⟨b, k, none⟩ (.int .u8 1)).heap.size) := by unfold Hid; simp
      go_wp2_with (at_builtin; refine halt ?_)
      refine ⟨?_⟩
      have ka := below_alloc (w3.setCell ⟨b, k, none⟩ (.int .u8 1)) (.cells #[.slice (some ⟨b, 0, none⟩) n n] 23)
      have kt := KS.out.trans (ka.mono (by rw [HB.out]; exact KS.out.size))
      refine wpList_append_mrow rfl (.tmp 23) (.tmp 25) rfl B _ _ rfl (OW.out.keep ka) _ _ _ rfl (cell_newAt _ _ _ HSZ.out) (ST.out.keep ka) (by rw [List.length_take]; omega) (by rw [HB.out]; exact kt.size) ?_
      intro v' w4 o4 k4
      rw [← take_snoc _ _ (by unfold oneL; rw [laid_len]; exact hlt)] at o4
      have O4 := hide o4
      have K4 := hide (kt.trans k4)
      clear o4 k4 kt ka OW ST KS HSZ
      go_wp2_with fail
      go_roundw
      case rel => exact ⟨k + 1, by omega, by go_num, O4, K4⟩
      case measure => simp [intOf]; omega
    · obtain rfl : k = n := by omega
      go_wp2_with fail
      go_ret2
      refine ⟨_, rfl, ?_, hbel.out⟩
      have := hown.out
      rwa [List.take_of_length_le (by unfold oneL; rw [laid_len]; exact Nat.le_refl _)] at this
end Go.Proofs.Ytehgjkckhjggbaa
namespace Go.Proofs.Ytehgjkckhjggbaa
open Go.RowKit
theorem rcode_bad (k m : Int) (w : World) (_k1 : -9223372036854775808 ≤ k) (_k2 : k ≤ 9223372036854775807) (_m1 : -9223372036854775808 ≤ m) (_m2 : m ≤ 9223372036854775807) (h : k < 1 ∨ m < 0 ∨ 14 < k + m) :
    Calls Try.prog 66 #[.int .i64 k, .int .i64 m] w fun e w' => e = .returned (.tuple #[.slice none 0 0, .int .i64 1]) ∧ w = w' := by
  by_cases h1 : k < 1
  · clear h
    go_enter Try.func66, Try.ntmps66
    go_wp2_with fail
    go_ret2
    exact ⟨rfl, rfl⟩
  · by_cases h2 : m < 0
    · clear h
      go_enter Try.func66, Try.ntmps66
      go_wp2_with fail
      go_ret2
      exact ⟨rfl, rfl⟩
    · by_cases h4 : 14 < k
      · clear h
        go_enter Try.func66, Try.ntmps66
        go_wp2_with fail
        go_ret2
        exact ⟨rfl, rfl⟩
      · by_cases h5 : 14 < m
        · clear h
          go_enter Try.func66, Try.ntmps66
          go_wp2_with fail
          go_ret2
          exact ⟨rfl, rfl⟩
        · have h3 : 14 < k + m := by omega
          clear h
          go_enter Try.func66, Try.ntmps66
          go_wp2_with fail
          go_ret2
          exact ⟨rfl, rfl⟩
set_option maxHeartbeats 1600000 in
theorem rcode_any (k m : Nat) (w : World) (h1 : 1 ≤ k) (h2 : k + m ≤ 14) :
    Calls Try.prog 66 #[.int .i64 (k : Int), .int .i64 (m : Int)] w fun e w' => ∃ v, e = .returned (.tuple #[v, .int .i64 0]) ∧ OwnMt w' w.heap.size v (codeL k m) ∧ Below w.heap.size w w' := by
  have HO := hide (rone_any k w h1 (by omega))
  obtain ⟨B, hB⟩ : ∃ B, B = w.heap.size := ⟨_, rfl⟩
  rw [← hB] at HO ⊢
  have HB := hide hB
  have HL : Hid ((codeL k m).length = k + m) := by unfold Hid codeL; rw [laid_len]
  have HR : Hid (∀ i, i < m → (codeL k m).getD (k + i) [] = (List.range k).map fun j => (kx (k + i) j).n) := fun i hi => code_row hi
  have H0 : Hid ((codeL k m).take (k + 0) = oneL k) := code_one
  obtain ⟨L, hL⟩ : ∃ L, L = codeL k m := ⟨_, rfl⟩
  rw [← hL] at HL HR H0 ⊢
  have g1 : ¬ (k : Int) < 1 := by omega
  have g2 : ¬ (m : Int) < 0 := by omega
  have g3 : ¬ (14 < (k : Int)) := by omega
  have g4 : ¬ (14 < (m : Int)) := by omega
  have g5 : ¬ (14 < (k : Int) + (m : Int)) := by omega
  clear hB hL
  go_enter Try.func66, Try.ntmps66
  go_wp2_with fail
  refine HO.out.mono ?_
  rintro e w1 ⟨v1, rfl, o1, k1⟩
  have O1 := hide o1
  have K1 := hide k1
  clear o1 k1 HO
  go_wp2_with fail
  go_loopw [6, 8] (fun s i wr => ∃ j : Nat, j ≤ m ∧ i = .int .i64 (j : Int) ∧ Hid (OwnMt wr B s (L.take (k + j))) ∧ Hid (Below B w wr)) (fun _ i _ => m - (intOf i).toNat)
  case atStart => exact ⟨0, Nat.zero_le _, rfl, hide (by rw [H0.out]; exact O1.out), K1⟩
  case round =>
    obtain ⟨j, hj, rfl, hown, hbel⟩ := hrel
    by_cases hlt : j < m
    · have HSZ : Hid (B ≤ wr.heap.size) := by rw [HB.out]; exact hbel.out.size
      have HOW := hide hown.out
      have HBL := hide hbel.out
      clear hown hbel
      rename World => W1
      obtain ⟨T, hT⟩ : ∃ T, T = L.getD (k + j) [] := ⟨_, rfl⟩
      have HT : Hid (T.length = k ∧ ∀ y, y < k → T.getD y 0 = ginv ((k + j) ^^^ y)) := by
        rw [hT, HR.out j hlt]
        refine ⟨by simp, fun y hy => ?_⟩
        simp only [List.getD_eq_getElem?_getD, List.getElem?_map, List.getElem?_range hy, Option.map_some, Option.getD_some]
        exact (kx_walk (by omega) (by omega)).2.2.2.2
      have HTE := hide hT
      clear hT
      go_wp2_with fail
      go_loopw [9, 10] (fun s i w2 => ∃ y : Nat, y ≤ k ∧ i = .int .i64 (y : Int) ∧ Hid (Own w2 W1.heap.size s (T.take y)) ∧ Hid (Below W1.heap.size W1 w2)) (fun _ i _ => k - (intOf i).toNat)
      case atStart => exact ⟨0, Nat.zero_le _, rfl, hide (World.ownsRow_nil _ _ _ _), hide (Below.refl _ _)⟩
      case round =>
        obtain ⟨y, hy, rfl, hown2, hbel2⟩ := hrel
        by_cases hlt2 : y < k
        · obtain ⟨e1, e2, e3, e4, _⟩ := kx_walk (show k + j ≤ 14 by omega) (show y < k + j by omega)
          have hst := take_snocN T y (by rw [HT.out.1]; exact hlt2)
          rw [HT.out.2 y hlt2] at hst
          have hc : ((k + j : Nat) : Int) = (k : Int) + (j : Int) := by omega
          rw [hc] at e1
          obtain ⟨x, hx⟩ : ∃ x, x = (k + j) ^^^ y := ⟨_, rfl⟩
          rw [← hx] at e1 e2 e3 e4 hst
          have HI := hide (rinv_some x wr e3 e4)
          obtain ⟨z, hz⟩ : ∃ z, z = ginv x := ⟨_, rfl⟩
          rw [← hz] at HI hst
          have HST := hide hst
          clear hc hst hx hz e4
          go_wp2_with fail
          refine HI.out.mono ?_
          rintro e w3 ⟨rfl, rfl⟩
          have HGW := hide hbel2.out.size
          go_wp2_with (at_builtin; refine halt ?_)
          refine ⟨?_⟩
          have ka := below_alloc wr (.cells #[.int .u8 (z : Int)] 5)
          refine wpList_append_bytes rfl (.tmp 46) (.tmp 54) rfl W1.heap.size _ _ rfl (hown2.out.keep ka) _ [z] rfl (isB_one wr z rfl) (by rw [List.length_take]; simp; omega) (Nat.le_trans HGW.out ka.size) ?_
          intro v' w7 o7 k7
          rw [← HST.out] at o7
          have O7 := hide o7
          have K7 := hide ((hbel2.out.trans (ka.mono HGW.out)).trans k7)
          clear o7 k7 ka HGW hown2 hbel2
          go_wp2_with fail
          go_roundw
          case rel => exact ⟨y + 1, by omega, by go_num, O7, K7⟩
          case measure => simp [intOf]; omega
        · obtain rfl : y = k := by omega
          rw [List.take_of_length_le (by rw [HT.out.1]; exact Nat.le_refl _)] at hown2
          have KW := hide (HBL.out.trans (hbel2.out.mono HSZ.out))
          have OM := hide (HOW.out.keep hbel2.out)
          have hf := hown2.out.form
          rw [HT.out.1] at hf
          obtain ⟨Ar, cr, rfl, _⟩ := hf
          have OR := hide (hown2.out.more HSZ.out)
          rw [HTE.out] at OR
          clear hown2 hbel2 HOW HBL
          go_wp2_with (at_builtin; refine halt ?_)
          refine ⟨?_⟩
          have HGS : Hid (B ≤ wr.heap.size) := by rw [HB.out]; exact KW.out.size
          have ka := below_alloc wr (.cells #[.slice Ar y cr] 23)
          refine wpList_append_mrow rfl (.tmp 56) (.tmp 58) rfl B _ _ rfl (OM.out.keep ka) _ _ _ rfl (cell_newAt _ _ _ rfl) (OR.out.keep ka) (by rw [List.length_take]; omega) (Nat.le_trans HGS.out ka.size) ?_
          intro v' w7 o7 k7
          rw [← take_snoc _ _ (by rw [HL.out]; omega)] at o7
          have O7 := hide o7
          have K7 := hide ((KW.out.trans (ka.mono HGS.out)).trans k7)
          clear o7 k7 ka HGS OM OR KW
          go_wp2_with fail
          go_roundw
          case rel => exact ⟨j + 1, by omega, by go_num, O7, K7⟩
          case measure => simp [intOf]; omega
    · obtain rfl : j = m := by omega
      go_wp2_with fail
      go_ret2
      refine ⟨_, rfl, ?_, hbel.out⟩
      have := hown.out
      rwa [List.take_of_length_le (by rw [HL.out]; exact Nat.le_refl _)] at this
end Go.Proofs.Ytehgjkckhjggbaa
namespace Go.Proofs.Ytehgjkckhjggbaa
open Go.RowKit
theorem rone_all (n : Int) (w : World) : Calls Try.prog 102 #[.int .i64 n] w fun e w' => ∃ v, e = .returned (.tuple #[v, .int .i64 (oneE n)]) ∧ OwnMt w' w.heap.size v (oneR n) ∧ Below w.heap.size w w' := by
  unfold oneE oneR
  by_cases h : 1 ≤ n ∧ n ≤ 64
  · rw [if_pos h, if_pos h]
    obtain ⟨k, rfl⟩ : ∃ k : Nat, n = (k : Int) := ⟨n.toNat, by omega⟩
    rw [Int.toNat_natCast]
    exact rone_any k w (by omega) (by omega)
  · rw [if_neg h, if_neg h]
    refine (rone_bad n w (by omega)).mono ?_
    rintro e w' ⟨rfl, rfl⟩
    exact ⟨_, rfl, OwnMt.nil _ _, Below.refl _ _⟩
theorem rcode_all (k m : Int) (w : World) (k1 : -9223372036854775808 ≤ k) (k2 : k ≤ 9223372036854775807) (m1 : -9223372036854775808 ≤ m) (m2 : m ≤ 9223372036854775807) :
    Calls Try.prog 66 #[.int .i64 k, .int .i64 m] w fun e w' => ∃ v, e = .returned (.tuple #[v, .int .i64 (codeE k m)]) ∧ OwnMt w' w.heap.size v (codeR k m) ∧ Below w.heap.size w w' := by
  unfold codeE codeR
  by_cases h : k < 1 ∨ m < 0 ∨ 14 < k + m
  · rw [if_pos h, if_pos h]
    refine (rcode_bad k m w k1 k2 m1 m2 h).mono ?_
    rintro e w' ⟨rfl, rfl⟩
    exact ⟨_, rfl, OwnMt.nil _ _, Below.refl _ _⟩
  · rw [if_neg h, if_neg h]
    obtain ⟨a, rfl⟩ : ∃ a : Nat, k = (a : Int) := ⟨k.toNat, by omega⟩
    obtain ⟨b, rfl⟩ : ∃ b : Nat, m = (b : Int) := ⟨m.toNat, by omega⟩
    rw [Int.toNat_natCast, Int.toNat_natCast]
    exact rcode_any a b w (by omega) (by omega)
end Go.Proofs.Ytehgjkckhjggbaa
