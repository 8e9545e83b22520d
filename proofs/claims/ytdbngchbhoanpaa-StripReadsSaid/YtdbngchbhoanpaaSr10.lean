/- The contract of shard.present: which rows are there, as a set; whether these are of one length. Condition: at most 14 rows. The contract of gf.Dot. Condition: there are at most 1000000 bytes. The contract of matrix's noughts. Condition: at most 128 rows of at most 128 numbers. The contract of matrix.One. No condition but the widths. The contracts of matrix's sums and of matrix.Code. No condition but the widths. matrix.One and matrix.Code, also where they refuse. No condition but the widths. Slices of bytes: what is left of them, three of them. No condition. A part of a slice of bytes that is read. No condition. Four bytes, the highest first: the contracts of bits.Put32 and bits.Get32. Conditions: the widths. Places as data, rows of them, and an index's bytes, without a program. No condition. The contracts of bits.ReadUvarint and of the document's own: the number at the beginning of bytes, or why there is none. Conditions: the widths, and that the row is no longer than a slice may be. -/
import Derived.Test.YtdbngchbhoanpaaSr5
import Derived.Test.YtdbngchbhoanpaaSr7
import Derived.Test.YtdbngchbhoanpaaSr8
import Derived.Test.YtdbngchbhoanpaaSr1
namespace Go.Proofs.Ytdbngchbhoanpaa
open Go.RowKit
/-- Row i is there. -/
def isThere (W : ML) (i : Nat) : Bool := !(W.getD i []).isEmpty
theorem isThere_yes {W : ML} {i : Nat} (h : (W.getD i []).length ≠ 0) : isThere W i = true := by
  unfold isThere
  cases q : W.getD i [] with
  | nil => rw [q] at h; exact absurd rfl h
  | cons a b => rfl
theorem isThere_no {W : ML} {i : Nat} (h : (W.getD i []).length = 0) : isThere W i = false := by
  unfold isThere
  rw [List.eq_nil_of_length_eq_zero h]
  rfl
/-- The rows that are there are of one length. -/
def even (W : ML) : Prop := ∃ n, ∀ r ∈ W, r ≠ [] → r.length = n
/-- What present tells. -/
def presAns (W : ML) (v : Value) : Prop := (∃ x : Nat, v = .tuple #[.int .u64 (x : Int), .bool true] ∧ isSet (isThere W) W.length x ∧ even W) ∨ (v = .tuple #[.int .u64 0, .bool false] ∧ ¬ even W)
theorem present_digs {W : ML} {x : Nat} (h : isSet (isThere W) W.length x) (h14 : W.length ≤ 14) : digs x = present W := by
  rw [isSet_digs h h14]
  rfl
theorem isSet_none {p : Nat → Bool} {i x : Nat} (h : isSet p i x) (h0 : x = 0) : ∀ j, j < i → p j = false := by
  subst h0
  intro j hj
  have := h.2 j
  simp [hj] at this
  exact this
theorem isSet_some {p : Nat → Bool} {i x : Nat} (h : isSet p i x) (h0 : x ≠ 0) : ∃ j, j < i ∧ p j = true := by
  apply Decidable.byContradiction
  intro q
  apply h0
  apply Nat.eq_of_testBit_eq
  intro j
  rw [h.2, Nat.zero_testBit]
  by_cases hj : j < i
  · have : p j = false := by
      cases hp : p j with
      | false => rfl
      | true => exact absurd ⟨j, hj, hp⟩ q
    rw [this, Bool.and_false]
  · rw [decide_eq_false hj, Bool.false_and]
theorem two_pow_lt (j : Nat) (h : j < 64) : 2 ^ j < 18446744073709551616 := Nat.pow_lt_pow_right (m := j) (n := 64) (by decide) h
set_option maxHeartbeats 1600000 in
theorem present_any (A : Option Addr) (n c : Nat) (W : ML) (w : World) (hA : IsM w A W) (hn : W.length = n) (h14 : n ≤ 14) :
    Calls Try.prog 49 #[.slice A n c] w fun e w' => ∃ v, e = .returned v ∧ presAns W v ∧ w = w' := by
  have HA := hide hA
  have HN := hide hn
  clear hA hn
  go_enter Try.func49, Try.ntmps49
  go_wp2_with fail
  go_loop [4, 5, 10] (fun s l i => ∃ k x z : Nat, k ≤ n ∧ i = .int .i64 (k : Int) ∧ s = .int .u64 (x : Int) ∧ l = .int .i64 (z : Int) ∧ z ≤ 9223372036854775807 ∧ isSet (isThere W) k x ∧ (∀ j, j < k → (W.getD j []).length ≠ 0 → (W.getD j []).length = z)) (fun _ _ i => n - (intOf i).toNat)
  case atStart => exact ⟨0, 0, 0, Nat.zero_le _, rfl, rfl, rfl, by decide, isSet_zero _, fun j h => absurd h (Nat.not_lt_zero j)⟩
  case round =>
    obtain ⟨k, x, z, hk, rfl, rfl, rfl, hz, hset, hall⟩ := hrel
    by_cases hlt : k < n
    · obtain ⟨b, off, A', c', rfl, ck, ib, l1, m1⟩ := HA.out.at_ k (by rw [HN.out]; exact hlt)
      obtain ⟨q, hq⟩ : ∃ q, q = (W.getD k []).length := ⟨_, rfl⟩
      rw [← hq] at ck ib l1
      have hx := hset.1
      by_cases e0 : q = 0
      · subst e0
        have HS := hide (isSet_no hset (isThere_no hq.symm))
        have HL := hide (show ∀ j, j < k + 1 → (W.getD j []).length ≠ 0 → (W.getD j []).length = z from fun j hj hne => by
          rcases Nat.lt_or_ge j k with h | h
          · exact hall j h hne
          · obtain rfl : j = k := by omega
            exact absurd hq.symm hne)
        clear hset hall hq ib
        go_wp2_with fail
        go_round
        case rel => exact ⟨k + 1, x, z, by omega, by go_num, rfl, rfl, hz, HS.out, HL.out⟩
        case measure => simp [intOf]; omega
      · have HQ := hide hq
        have HS := hide (isSet_yes hset (by omega) (isThere_yes (by rw [← hq]; exact e0)))
        have f1 : ((q : Int) == 0) = false := by simp; omega
        have hp := two_pow_lt k (by omega)
        have sh : IntKind.u64.wrap (2 ^ k) = ((2 ^ k : Nat) : Int) := by
          rw [show (2 : Int) ^ k = ((2 ^ k : Nat) : Int) by simp, IntKind.wrap_u64]
          exact Int.emod_eq_of_lt (Int.natCast_nonneg _) (Int.ofNat_lt.2 hp)
        have or1 : bits .or .u64 (x : Int) ((2 ^ k : Nat) : Int) = ((x ||| 2 ^ k : Nat) : Int) := u64_or_nat _ _ (by omega) hp
        obtain ⟨p2, hp2⟩ : ∃ p, p = 2 ^ k := ⟨_, rfl⟩
        rw [← hp2] at sh or1
        obtain ⟨y, hy⟩ : ∃ y, y = x ||| p2 := ⟨_, rfl⟩
        rw [← hy] at or1
        rw [← hp2, ← hy] at HS
        have fin : (x = 0 ∨ q = z) → ∀ j, j < k + 1 → (W.getD j []).length ≠ 0 → (W.getD j []).length = q := fun hd j hj hne => by
          rcases Nat.lt_or_ge j k with h | h
          · rcases hd with h0 | h0
            · have := isSet_none hset h0 j h
              rw [isThere_yes hne] at this
              cases this
            · rw [hall j h hne, h0]
          · obtain rfl : j = k := by omega
            exact HQ.out.symm
        by_cases x0 : x = 0
        · have FN := hide (fin (.inl x0))
          have f2 : ((x : Int) != 0) = false := by simp; omega
          clear hset hall hq ib fin hy hp2 hp x0
          go_wp2_with fail
          go_round
          case rel => exact ⟨k + 1, y, q, by omega, by go_num, rfl, rfl, by omega, HS.out, FN.out⟩
          case measure => simp [intOf]; omega
        · have f2 : ((x : Int) != 0) = true := by simp; omega
          by_cases e1 : q = z
          · have FN := hide (fin (.inr e1))
            have f3 : ((q : Int) != (z : Int)) = false := by simp; omega
            clear hset hall hq ib fin hy hp2 hp e1
            go_wp2_with fail
            go_round
            case rel => exact ⟨k + 1, y, q, by omega, by go_num, rfl, rfl, by omega, HS.out, FN.out⟩
            case measure => simp [intOf]; omega
          · have f3 : ((q : Int) != (z : Int)) = true := by simp; omega
            have ANS : Hid (¬ even W) := hide (fun ⟨N, hN⟩ => by
              obtain ⟨j, hj, hp⟩ := isSet_some hset x0
              have hjl : (W.getD j []).length ≠ 0 := fun h0 => by rw [isThere_no h0] at hp; cases hp
              have h1 := hN _ (mem_getD (xss := W) (k := j) (by rw [HN.out]; omega)) (fun h => hjl (by rw [h]; rfl))
              have h2 := hN _ (mem_getD (xss := W) (k := k) (by rw [HN.out]; omega)) (fun h => by rw [h] at hq; exact e0 (by simpa using hq))
              have h3 := hall j hj hjl
              omega)
            clear hset hall hq ib fin hy hp2 hp e1
            go_wp2_with fail
            go_ret2
            exact ⟨_, rfl, .inr ⟨rfl, ANS.out⟩, rfl⟩
    · obtain rfl : k = n := by omega
      have EV : Hid (even W) := hide ⟨z, fun r hr hne => by
        obtain ⟨j, hj, rfl⟩ := List.getElem_of_mem hr
        have e : W.getD j [] = W[j] := by simp [hj]
        have := hall j (by rw [← HN.out]; exact hj) (by rw [e]; exact fun h => hne (List.eq_nil_of_length_eq_zero h))
        rwa [e] at this⟩
      have HS := hide hset
      clear hall hset
      go_wp2_with fail
      go_ret2
      exact ⟨_, rfl, .inl ⟨x, rfl, by rw [HN.out]; exact HS.out, EV.out⟩, rfl⟩
end Go.Proofs.Ytdbngchbhoanpaa
namespace Go.Proofs.Ytdbngchbhoanpaa
open Go.RowKit
set_option maxHeartbeats 1600000 in
theorem dot_any (A B : Option Addr) (n c d : Nat) (xs ys : List Nat) (w : World) (hA : Rd w A xs) (hB : Rd w B ys) (hn : xs.length = n) (hm : ys.length = n) (hb : ∀ x ∈ xs, x < 256) (hc : ∀ y ∈ ys, y < 256) (h3 : n ≤ 1000000) :
    Calls Try.prog 63 #[.slice A n c, .slice B n d] w fun e w' => e = .returned (.tuple #[.int .u8 (dotS xs ys n : Nat), .int .i64 0]) ∧ w = w' := by
  have HA := hide hA
  have HN := hide hn
  have HB := hide hb
  have HA2 := hide hB
  have HN2 := hide hm
  have HB2 := hide hc
  have hne0 : ((n : Int) != (n : Int)) = false := by simp
  clear hA hn hb hB hm hc
  go_enter Try.func63, Try.ntmps63
  go_wp2_with fail
  go_loop [6, 16] (fun s i => ∃ k : Nat, k ≤ n ∧ i = .int .i64 (k : Int) ∧ s = .int .u8 (dotS xs ys k : Nat)) (fun _ i => n - (intOf i).toNat)
  case atStart => exact ⟨0, Nat.zero_le _, rfl, rfl⟩
  case round =>
    obtain ⟨k, hk, rfl, rfl⟩ := hrel
    by_cases hlt : k < n
    · obtain ⟨b', off', rfl, ck, hx⟩ := at_place HA.out HN.out HB.out k hlt
      obtain ⟨b2', off2', rfl, ck2, hy⟩ := at_place HA2.out HN2.out HB2.out k hlt
      have hs := dotS_lt (ys := ys) HB.out k
      have hds : dotS xs ys (k + 1) = dotS xs ys k ^^^ gmul (xs.getD k 0) (ys.getD k 0) := rfl
      obtain ⟨x, hxe⟩ : ∃ x, x = xs.getD k 0 := ⟨_, rfl⟩
      obtain ⟨y, hye⟩ : ∃ y, y = ys.getD k 0 := ⟨_, rfl⟩
      obtain ⟨s, hse⟩ : ∃ s, s = dotS xs ys k := ⟨_, rfl⟩
      rw [← hxe] at ck hx hds
      rw [← hye] at ck2 hy hds
      rw [← hse] at hs hds ⊢
      have hxo := u8_xor_nat s (gmul x y) hs (gmul_lt y hx)
      rw [← hds] at hxo
      clear hds hxe hye hse
      go_wp2_with fail
      refine (mul_any x y _ hx hy).mono ?_
      rintro e w1 ⟨rfl, rfl⟩
      go_wp2_with fail
      go_round
      case rel => exact ⟨k + 1, by omega, by go_num, rfl⟩
      case measure => simp [intOf]; omega
    · obtain rfl : k = n := by omega
      go_wp2_with fail
      go_ret2
      exact ⟨rfl, rfl⟩
theorem dot_unlike (A B : Option Addr) (n m c d : Nat) (w : World) (h : n ≠ m) :
    Calls Try.prog 63 #[.slice A n c, .slice B m d] w fun e w' => e = .returned (.tuple #[.int .u8 0, .int .i64 1]) ∧ w = w' := by
  have hne0 : ((n : Int) != (m : Int)) = true := by simp; omega
  go_enter Try.func63, Try.ntmps63
  go_wp2_with fail
  go_ret2
  exact ⟨rfl, rfl⟩
end Go.Proofs.Ytdbngchbhoanpaa
namespace Go.Proofs.Ytdbngchbhoanpaa
open Go.RowKit
set_option maxHeartbeats 1600000 in
theorem noughts_any (n m : Nat) (w : World) (h1 : n ≤ 128) (h2 : m ≤ 128) :
    Calls Try.prog 54 #[.int .i64 (n : Int), .int .i64 (m : Int)] w fun e w' => ∃ g R, e = .returned (.slice (some ⟨g, 0, none⟩) n n) ∧ Grid w' w.heap.size g n m R (fun _ _ => G.zero) ∧ Below w.heap.size w w' := by
  obtain ⟨i0, hi, hz0, hz1, hz2⟩ := info_parts Try.info_rows
  obtain ⟨i1, hj, hy0, hy1, hy2⟩ := info_parts Try.info_u8'
  have HJ := hide (And.intro hj (And.intro hy0 (And.intro hy1 hy2)))
  clear hj hy0 hy1 hy2
  go_enter Try.func54, Try.ntmps54
  go_wp2_with (at_make; refine halt ?_)
  refine ⟨?_⟩
  refine wpList_make_full _ rfl (.tmp 7) (.tmp 7) 50 rfl w.heap.size 24 i0 (.slice none 0 0) 1 Try.underlying50 hi hz0 hz1 .i64 .i64 n n n rfl rfl rfl rfl (by rw [hz2]; omega) (by unfold maxLen; omega) (Nat.le_refl _) ?_
  intro w2 h2' g2
  have o2 := made_nils h2'
  have b2 : Below w.heap.size w w2 := (Below.refl _ _).grown g2 (Nat.le_refl _) (by simp)
  clear h2' g2 hi hz0 hz1 hz2 i0
  obtain ⟨g, hg⟩ : ∃ g, g = w.heap.size := ⟨_, rfl⟩
  rw [← hg] at o2 b2 ⊢
  have HG := hide hg
  have O2 := hide o2
  have B2 := hide b2
  clear hg o2 b2
  go_wp2_with fail
  go_loopw [11] (fun i wr => ∃ k : Nat, k ≤ n ∧ i = .int .i64 (k : Int) ∧ Hid (∃ R, Begun wr g g n m k R) ∧ Hid (Below g w wr)) (fun i _ => n - (intOf i).toNat)
  case atStart =>
    refine ⟨0, Nat.zero_le _, rfl, hide ⟨fun _ => 0, ⟨?_, fun i hi => absurd hi (Nat.not_lt_zero i), fun i j hi => absurd hi (Nat.not_lt_zero i)⟩⟩, hide B2.out⟩
    have e : ((List.range n).map fun i => if i < 0 then rowV 0 m else .slice none 0 0) = List.replicate n (.slice none 0 0) := by
      apply List.ext_getElem
      · simp
      · intro i h1 h2
        simp
    rw [e]
    exact O2.out
  case round =>
    obtain ⟨k, hk, rfl, hbeg, hbel⟩ := hrel
    by_cases hlt : k < n
    · obtain ⟨hj, hy0, hy1, hy2⟩ := HJ.out
      go_wp2_with (at_make; refine halt ?_)
      refine ⟨?_⟩
      refine wpList_make_full _ rfl (.tmp 16) (.tmp 16) 24 rfl wr.heap.size 5 i1 (.int .u8 0) 1 Try.underlying24 hj hy0 hy1 .i64 .i64 m m m rfl rfl rfl rfl (by rw [hy2]; omega) (by unfold maxLen; omega) (Nat.le_refl _) ?_
      intro w3 h3 g3
      clear hj hy0 hy1 hy2
      obtain ⟨R, hR⟩ := hbeg.out
      have hgs : g ≤ wr.heap.size := by rw [HG.out]; exact hbel.out.size
      have z3 := made_zeros h3 k
      have k3 : Below wr.heap.size wr w3 := (Below.refl _ _).grown g3 (Nat.le_refl _) (by simp)
      have nx := hR.next hlt (z3.more hgs) k3 (Nat.le_refl _)
      have f3 := (hR.outer.keep k3).frozen k
      have c3 : w3.cell? ⟨g, k, none⟩ = some (.slice none 0 0) := by
        rw [(hR.outer.keep k3).cell]
        simp [hlt]
      have NX := hide (show ∃ R, Begun (w3.setCell ⟨g, k, none⟩ (.slice (some ⟨wr.heap.size, 0, none⟩) m m)) g g n m (k + 1) R from ⟨_, nx⟩)
      have BL := hide (show Below g w (w3.setCell ⟨g, k, none⟩ (.slice (some ⟨wr.heap.size, 0, none⟩) m m)) from (hbel.out.trans (k3.mono hgs)).setCell (Nat.le_refl _) _)
      clear hgs h3 g3 z3 k3 nx hR hbeg hbel
      go_wp2_with fail
      go_roundw
      case rel => exact ⟨k + 1, by omega, by go_num, NX, BL⟩
      case measure => simp [intOf]; omega
    · obtain rfl : k = n := by omega
      go_wp2_with fail
      go_ret
      obtain ⟨R, hR⟩ := hbeg.out
      exact ⟨g, R, rfl, by rw [← HG.out]; exact hR.done, by rw [← HG.out]; exact hbel.out⟩
end Go.Proofs.Ytdbngchbhoanpaa
namespace Go.Proofs.Ytdbngchbhoanpaa
open Go.RowKit
theorem one_bad (n : Int) (w : World) (h : n < 1 ∨ 64 < n) : Calls Try.prog 47 #[.int .i64 n] w fun e w' => e = .returned (.tuple #[.slice none 0 0, .int .i64 1]) ∧ w = w' := by
  by_cases h1 : n < 1
  · clear h
    go_enter Try.func47, Try.ntmps47
    go_wp2_with fail
    go_ret2
    exact ⟨rfl, rfl⟩
  · have h2 : 64 < n := by omega
    clear h
    go_enter Try.func47, Try.ntmps47
    go_wp2_with fail
    go_ret2
    exact ⟨rfl, rfl⟩
set_option maxHeartbeats 800000 in
theorem one_any (n : Nat) (w : World) (h1 : 1 ≤ n) (h2 : n ≤ 64) :
    Calls Try.prog 47 #[.int .i64 (n : Int)] w fun e w' => ∃ g, e = .returned (.tuple #[.slice (some ⟨g, 0, none⟩) n n, .int .i64 0]) ∧ OwnMt w' w.heap.size (.slice (some ⟨g, 0, none⟩) n n) (oneL n) ∧ Below w.heap.size w w' := by
  have g1 : ¬ (n : Int) < 1 := by omega
  have g2 : ¬ 64 < (n : Int) := by omega
  have HNO := hide (noughts_any n n w (by omega) (by omega))
  obtain ⟨B, hB⟩ : ∃ B, B = w.heap.size := ⟨_, rfl⟩
  rw [← hB] at HNO ⊢
  clear hB
  go_enter Try.func47, Try.ntmps47
  go_wp2_with fail
  refine HNO.out.mono ?_
  rintro e w1 ⟨g, R, rfl, gr, kb⟩
  have GR := hide gr
  have KB := hide kb
  clear gr kb HNO
  go_wp2_with fail
  go_loopw [17] (fun i wr => ∃ k : Nat, k ≤ n ∧ i = .int .i64 (k : Int) ∧ Hid (∃ f, Grid wr B g n n R f ∧ ∀ a b, f a b = if a < k then dl a b else G.zero) ∧ Hid (Below B w wr)) (fun i _ => n - (intOf i).toNat)
  case atStart => exact ⟨0, Nat.zero_le _, rfl, hide ⟨_, GR.out, fun a b => (if_neg (Nat.not_lt_zero a)).symm⟩, KB⟩
  case round =>
    obtain ⟨k, hk, rfl, hf, hbel⟩ := hrel
    by_cases hlt : k < n
    · obtain ⟨f, gf, ef⟩ := hf.out
      have c1 := gf.cell k hlt
      have c2 := gf.num k k hlt hlt
      have c3 := gf.frozen k k hlt
      have st := gf.set k k hlt G.one
      have BL := hide (gf.below k k hlt (.int .u8 (G.one.n : Int)) hbel.out)
      have NX : Hid (∃ f, Grid (wr.setCell ⟨R k, k, none⟩ (.int .u8 (G.one.n : Int))) B g n n R f ∧ ∀ a b, f a b = if a < k + 1 then dl a b else G.zero) := by
        refine ⟨_, st, fun a b => ?_⟩
        by_cases e1 : a = k
        · subst e1
          rw [if_pos (by omega)]
          by_cases e2 : b = a
          · subst e2; rw [upd_at, dl_eq]
          · rw [upd_col e2, ef, if_neg (by omega), dl_ne (fun q => e2 q.symm)]
        · rw [upd_row e1, ef]
          by_cases e2 : a < k
          · rw [if_pos e2, if_pos (by omega)]
          · rw [if_neg e2, if_neg (by omega)]
      have e1 : ((G.one.n : Nat) : Int) = 1 := rfl
      rw [e1] at NX BL
      clear st gf ef hf hbel e1
      go_wp2_with fail
      go_roundw
      case rel => exact ⟨k + 1, by omega, by go_num, NX, BL⟩
      case measure => simp [intOf]; omega
    · obtain rfl : k = n := by omega
      go_wp2_with fail
      go_ret2
      obtain ⟨f, gf, ef⟩ := hf.out
      refine ⟨g, rfl, ?_, hbel.out⟩
      have := gf.own (by omega) (by omega)
      rwa [show laid k k f = oneL k from laid_congr (fun i hi j _ => by rw [ef, if_pos hi])] at this
end Go.Proofs.Ytdbngchbhoanpaa
namespace Go.Proofs.Ytdbngchbhoanpaa
open Go.RowKit
set_option maxHeartbeats 800000 in
theorem sums_any (k x : Nat) (w : World) (h1 : k ≤ x) (h2 : x ≤ 14) :
    Calls Try.prog 48 #[.int .i64 (k : Int), .int .i64 (x : Int)] w fun e w' => ∃ g, e = .returned (.slice (some ⟨g, 0, none⟩) k k) ∧ Own w' w.heap.size (.slice (some ⟨g, 0, none⟩) k k) ((List.range k).map fun j => (kx x j).n) ∧ Below w.heap.size w w' := by
  obtain ⟨i0, hi, hz0, hz1, hz2⟩ := info_parts Try.info_u8'
  obtain ⟨f, hf⟩ : ∃ f : Nat → Nat, f = fun j => (kx x j).n := ⟨_, rfl⟩
  have HF : Hid (∀ j, j < x → f j = ginv (x ^^^ j)) := by
    intro j hj
    rw [hf]
    exact (kx_walk h2 hj).2.2.2.2
  rw [show ((List.range k).map fun j => (kx x j).n) = part f k k by
    unfold part
    refine List.map_congr_left (fun j hj => ?_)
    rw [if_pos (List.mem_range.1 hj), hf]]
  clear hf
  go_enter Try.func48, Try.ntmps48
  go_wp2_with (at_make; refine halt ?_)
  refine ⟨?_⟩
  refine wpList_make_full _ rfl (.tmp 7) (.tmp 7) 24 rfl w.heap.size 5 i0 (.int .u8 0) 1 Try.underlying24 hi hz0 hz1 .i64 .i64 k k k rfl rfl rfl rfl (by rw [hz2]; omega) (by unfold maxLen; omega) (Nat.le_refl _) ?_
  intro w2 h2' g2
  have o2 := made_bytes h2'
  have b2 : Below w.heap.size w w2 := (Below.refl _ _).grown g2 (Nat.le_refl _) (by simp)
  clear h2' g2 hi hz0 hz1 hz2 i0
  obtain ⟨g, hg⟩ : ∃ g, g = w.heap.size := ⟨_, rfl⟩
  rw [← hg] at o2 ⊢
  have HG := hide hg
  clear hg
  go_wp2_with fail
  go_loopw [11] (fun i wr => ∃ j : Nat, j ≤ k ∧ i = .int .i64 (j : Int) ∧ Hid (Own wr g (.slice (some ⟨g, 0, none⟩) k k) (part f k j)) ∧ Hid (Below g w wr)) (fun i _ => k - (intOf i).toNat)
  case atStart => exact ⟨0, Nat.zero_le _, rfl, hide (by rw [part_zero]; exact o2), hide (by rw [HG.out]; exact b2)⟩
  case round =>
    obtain ⟨j, hj, rfl, hown, hbel⟩ := hrel
    by_cases hlt : j < k
    · obtain ⟨e1, e2, e3, e4, _⟩ := kx_walk h2 (show j < x by omega)
      have hfj := HF.out j (by omega)
      obtain ⟨y, hy⟩ : ∃ y, y = x ^^^ j := ⟨_, rfl⟩
      rw [← hy] at e1 e2 e3 e4 hfj
      have cs := hown.out.cells_ (part_len f k j) j
      have c1 := cs.1 hlt
      have c2 := cs.2
      have st := hown.out.stored' (part_len f k j) j (f j)
      rw [part_set, hfj] at st
      have ST := hide st
      have BL := hide (show Below g w (wr.setCell ⟨g, j, none⟩ (.int .u8 ((ginv y : Nat) : Int))) from hbel.out.setCell (Nat.le_refl _) _)
      have HI := hide (inv_some y wr e3 e4)
      clear cs st hfj hy hown hbel e4
      go_wp2_with fail
      refine HI.out.mono ?_
      rintro e w1 ⟨rfl, rfl⟩
      go_wp2_with fail
      go_roundw
      case rel => exact ⟨j + 1, by omega, by go_num, ST, BL⟩
      case measure => simp [intOf]; omega
    · obtain rfl : j = k := by omega
      go_wp2_with fail
      go_ret
      exact ⟨_, rfl, hown.out.more (Nat.le_of_eq HG.out.symm), by rw [← HG.out]; exact hbel.out⟩
theorem code_bad (k m : Int) (w : World) (_k1 : -9223372036854775808 ≤ k) (_k2 : k ≤ 9223372036854775807) (_m1 : -9223372036854775808 ≤ m) (_m2 : m ≤ 9223372036854775807) (h : k < 1 ∨ m < 0 ∨ 14 < k + m) :
    Calls Try.prog 33 #[.int .i64 k, .int .i64 m] w fun e w' => e = .returned (.tuple #[.slice none 0 0, .int .i64 1]) ∧ w = w' := by
  by_cases h1 : k < 1
  · clear h
    go_enter Try.func33, Try.ntmps33
    go_wp2_with fail
    go_ret2
    exact ⟨rfl, rfl⟩
  · by_cases h2 : m < 0
    · clear h
      go_enter Try.func33, Try.ntmps33
      go_wp2_with fail
      go_ret2
      exact ⟨rfl, rfl⟩
    · have h3 : 14 - k < m := by omega
      clear h
      go_enter Try.func33, Try.ntmps33
      go_wp2_with fail
      go_ret2
      exact ⟨rfl, rfl⟩
set_option maxHeartbeats 800000 in
theorem code_any (k m : Nat) (w : World) (h1 : 1 ≤ k) (h2 : k + m ≤ 14) :
    Calls Try.prog 33 #[.int .i64 (k : Int), .int .i64 (m : Int)] w fun e w' => ∃ v, e = .returned (.tuple #[v, .int .i64 0]) ∧ OwnMt w' w.heap.size v (codeL k m) ∧ Below w.heap.size w w' := by
  have HO := hide (one_any k w h1 (by omega))
  obtain ⟨B, hB⟩ : ∃ B, B = w.heap.size := ⟨_, rfl⟩
  rw [← hB] at HO ⊢
  have HB := hide hB
  have HL : Hid ((codeL k m).length = k + m) := by unfold Hid codeL; rw [laid_len]
  have HR : Hid (∀ i, i < m → (codeL k m).getD (k + i) [] = (List.range k).map fun j => (kx (k + i) j).n) := fun i hi => code_row hi
  have H0 : Hid ((codeL k m).take (k + 0) = oneL k) := code_one
  obtain ⟨L, hL⟩ : ∃ L, L = codeL k m := ⟨_, rfl⟩
  rw [← hL] at HL HR H0 ⊢
  have g1 : ¬ (k : Int) < 1 := by omega
  have g2 : ¬ (m : Int) < 0 := by omega
  have g3 : ¬ (14 - (k : Int) < (m : Int)) := by omega
  clear hB hL
  go_enter Try.func33, Try.ntmps33
  go_wp2_with fail
  refine HO.out.mono ?_
  rintro e w1 ⟨g, rfl, o1, k1⟩
  have O1 := hide o1
  have K1 := hide k1
  clear o1 k1 HO
  go_wp2_with fail
  go_loopw [6, 27] (fun s i wr => ∃ j : Nat, j ≤ m ∧ i = .int .i64 (j : Int) ∧ Hid (OwnMt wr B s (L.take (k + j))) ∧ Hid (Below B w wr)) (fun _ i _ => m - (intOf i).toNat)
  case atStart => exact ⟨0, Nat.zero_le _, rfl, hide (by rw [H0.out]; exact O1.out), K1⟩
  case round =>
    obtain ⟨j, hj, rfl, hown, hbel⟩ := hrel
    by_cases hlt : j < m
    · have HS := hide (sums_any k (k + j) wr (by omega) (by omega))
      rw [← HR.out j hlt] at HS
      have hc : ((k + j : Nat) : Int) = (k : Int) + (j : Int) := by omega
      rw [hc] at HS
      have HGS : Hid (B ≤ wr.heap.size) := by rw [HB.out]; exact hbel.out.size
      clear hc
      go_wp2_with fail
      refine HS.out.mono ?_
      rintro e w2 ⟨b, rfl, o2, k2⟩
      have OM := hide (hown.out.keep k2)
      have OR := hide (o2.more HGS.out)
      have K2 := hide (hbel.out.trans (k2.mono HGS.out))
      have HG2 := hide (Nat.le_trans HGS.out k2.size)
      clear o2 k2 HS hown hbel HGS
      go_wp2_with (at_builtin; refine halt ?_)
      refine ⟨?_⟩
      have ka := below_alloc w2 (.cells #[.slice (some ⟨b, 0, none⟩) k k] 24)
      refine wpList_append_mrow rfl (.tmp 30) (.tmp 36) rfl B _ _ rfl (OM.out.keep ka) _ _ _ rfl (cell_newAt _ _ _ rfl) (OR.out.keep ka) (by rw [List.length_take]; omega) (Nat.le_trans HG2.out ka.size) ?_
      intro v' w7 o7 k7
      rw [← take_snoc _ _ (by rw [HL.out]; omega)] at o7
      have O7 := hide o7
      have K7 := hide ((K2.out.trans (ka.mono HG2.out)).trans k7)
      clear o7 k7 ka HG2 OM OR K2
      go_wp2_with fail
      go_roundw
      case rel => exact ⟨j + 1, by omega, by go_num, O7, K7⟩
      case measure => simp [intOf]; omega
    · obtain rfl : j = m := by omega
      go_wp2_with fail
      go_ret2
      refine ⟨_, rfl, ?_, hbel.out⟩
      have := hown.out
      rwa [List.take_of_length_le (by rw [HL.out]; exact Nat.le_refl _)] at this
end Go.Proofs.Ytdbngchbhoanpaa
namespace Go.Proofs.Ytdbngchbhoanpaa
open Go.RowKit
theorem one_all (n : Int) (w : World) : Calls Try.prog 47 #[.int .i64 n] w fun e w' => ∃ v, e = .returned (.tuple #[v, .int .i64 (oneE n)]) ∧ OwnMt w' w.heap.size v (oneR n) ∧ Below w.heap.size w w' := by
  unfold oneE oneR
  by_cases h : 1 ≤ n ∧ n ≤ 64
  · rw [if_pos h, if_pos h]
    obtain ⟨k, rfl⟩ : ∃ k : Nat, n = (k : Int) := ⟨n.toNat, by omega⟩
    rw [Int.toNat_natCast]
    exact (one_any k w (by omega) (by omega)).mono fun e w' ⟨g, h1, h2, h3⟩ => ⟨_, h1, h2, h3⟩
  · rw [if_neg h, if_neg h]
    refine (one_bad n w (by omega)).mono ?_
    rintro e w' ⟨rfl, rfl⟩
    exact ⟨_, rfl, OwnMt.nil _ _, Below.refl _ _⟩
theorem code_all (k m : Int) (w : World) (k1 : -9223372036854775808 ≤ k) (k2 : k ≤ 9223372036854775807) (m1 : -9223372036854775808 ≤ m) (m2 : m ≤ 9223372036854775807) :
    Calls Try.prog 33 #[.int .i64 k, .int .i64 m] w fun e w' => ∃ v, e = .returned (.tuple #[v, .int .i64 (codeE k m)]) ∧ OwnMt w' w.heap.size v (codeR k m) ∧ Below w.heap.size w w' := by
  unfold codeE codeR
  by_cases h : k < 1 ∨ m < 0 ∨ 14 < k + m
  · rw [if_pos h, if_pos h]
    refine (code_bad k m w k1 k2 m1 m2 h).mono ?_
    rintro e w' ⟨rfl, rfl⟩
    exact ⟨_, rfl, OwnMt.nil _ _, Below.refl _ _⟩
  · rw [if_neg h, if_neg h]
    obtain ⟨a, rfl⟩ : ∃ a : Nat, k = (a : Int) := ⟨k.toNat, by omega⟩
    obtain ⟨b, rfl⟩ : ∃ b : Nat, m = (b : Int) := ⟨m.toNat, by omega⟩
    rw [Int.toNat_natCast, Int.toNat_natCast]
    exact code_any a b w (by omega) (by omega)
end Go.Proofs.Ytdbngchbhoanpaa
namespace Go.Proofs.Ytdbngchbhoanpaa
open Go.RowKit
theorem isB_drop {w : World} {b off n c : Nat} {xs : List Nat} (h : IsB w (.slice (some ⟨b, off, none⟩) n c) xs) (k m d : Nat) (hm : m = n - k) (hd : d = c - k) (hk : k ≤ n) : IsB w (.slice (some ⟨b, off + k, none⟩) m d) (xs.drop k) := by
  subst hm; subst hd
  obtain ⟨A', c', e, r, h1, h2, h3⟩ := h
  cases e
  refine ⟨_, _, by rw [List.length_drop], ?_, (fun h => by cases h), by rw [List.length_drop]; omega, by omega⟩
  intro hne
  have hl : 0 < (xs.drop k).length := by
    rcases e : xs.drop k with _ | ⟨y, ys⟩
    · exact absurd e hne
    · simp
  obtain ⟨b', off', e, hc⟩ := r (by intro e; rw [e] at hl; simp at hl)
  cases e
  refine ⟨b, off + k, rfl, fun i hi => ?_⟩
  rw [List.length_drop] at hi
  have := hc (k + i) (by omega)
  rw [Nat.add_assoc, this]
  congr 2
  simp
/-- What is left of a slice behind k bytes, wherever the walk lays it. -/
theorem isB_tail {w : World} {b off n c : Nat} {xs : List Nat} (h : IsB w (.slice (some ⟨b, off, none⟩) n c) xs) (k : Nat) (hk : k ≤ n) : IsB w (.slice (some ⟨b, if c = k then off else off + k, none⟩) (n - k) (c - k)) (xs.drop k) := by
  by_cases hc : c = k
  · obtain ⟨A', c', e, r, h1, h2, h3⟩ := h
    cases e
    have h0 : xs.drop k = [] := List.eq_nil_of_length_eq_zero (by rw [List.length_drop]; omega)
    rw [if_pos hc, h0]
    have hn : xs.length - k = 0 := by omega
    rw [hn]
    exact ⟨_, _, rfl, fun h => absurd rfl h, (fun h => by cases h), Nat.zero_le _, by omega⟩
  · rw [if_neg hc]
    exact isB_drop h k _ _ rfl rfl hk
theorem isBs3 {w : World} {u v z : Value} {xs ys zs : List Nat} (h1 : IsB w u xs) (h2 : IsB w v ys) (h3 : IsB w z zs) : IsBs w [u, v, z] [xs, ys, zs] := by
  refine ⟨rfl, fun i hi => ?_⟩
  match i, hi with
  | 0, _ => exact h1
  | 1, _ => exact h2
  | 2, _ => exact h3
theorem isB_len {w : World} {A : Option Addr} {n c : Nat} {xs : List Nat} (h : IsB w (.slice A n c) xs) : xs.length = n ∧ n ≤ c ∧ c ≤ 9223372036854775807 := by
  obtain ⟨_, _, e, _, _, h2, h3⟩ := h
  cases e
  exact ⟨rfl, h2, h3⟩
theorem isB_at {w : World} {A : Option Addr} {n c : Nat} {xs : List Nat} (h : IsB w (.slice A n c) xs) (h1 : 1 ≤ n) : ∃ b off, A = some ⟨b, off, none⟩ := by
  have hl := (isB_len h).1
  obtain ⟨b, off, e, _⟩ := h.rd (by intro e; rw [e] at hl; simp at hl; omega)
  exact ⟨b, off, e⟩
theorem isB_nilw (w : World) : IsB w (.slice none 0 0) [] := ⟨none, 0, rfl, fun h => absurd rfl h, fun _ => rfl, Nat.zero_le _, by decide⟩
end Go.Proofs.Ytdbngchbhoanpaa
namespace Go.Proofs.Ytdbngchbhoanpaa
open Go.RowKit
theorem isB_sub {w : World} {b off n c : Nat} {xs : List Nat} (h : IsB w (.slice (some ⟨b, off, none⟩) n c) xs) (k m d : Nat) (hkm : k + m ≤ n) (hd : d = c - k) : IsB w (.slice (some ⟨b, off + k, none⟩) m d) ((xs.drop k).take m) := by
  obtain ⟨h1, h2, h3⟩ := isB_len h
  obtain ⟨A, c', e, hr, hn, hl, hm⟩ := h
  simp only [Value.slice.injEq] at e
  obtain ⟨rfl, rfl, rfl⟩ := e
  have hlen : ((xs.drop k).take m).length = m := by rw [List.length_take, List.length_drop]; omega
  refine ⟨_, _, by rw [hlen], ?_, fun q => (by cases q), by rw [hlen]; omega, by omega⟩
  intro hne
  have hm0 : 0 < m := by rw [← hlen]; exact List.length_pos_iff.2 hne
  obtain ⟨b', off', e, hc⟩ := hr (by intro q; rw [q] at hkm; simp at hkm; omega)
  cases e
  refine ⟨_, _, rfl, fun i hi => ?_⟩
  rw [hlen] at hi
  have h9 := hc (k + i) (by omega)
  rw [Nat.add_assoc, h9]
  congr 3
  simp [hi]
/-- The same with whatever room behind it. -/
theorem isB_subc {w : World} {b off n c : Nat} {xs : List Nat} (h : IsB w (.slice (some ⟨b, off, none⟩) n c) xs) (k m d : Nat) (hkm : k + m ≤ n) (hd : m ≤ d) (hd2 : d ≤ 9223372036854775807) : IsB w (.slice (some ⟨b, off + k, none⟩) m d) ((xs.drop k).take m) := by
  have h9 := isB_sub h k m (c - k) hkm rfl
  have hlen : ((xs.drop k).take m).length = m := by rw [List.length_take, List.length_drop, (isB_len h).1]; omega
  obtain ⟨A, c', e, hr, hn, hl, hm⟩ := h9
  simp only [Value.slice.injEq] at e
  obtain ⟨rfl, -, rfl⟩ := e
  exact ⟨_, _, by rw [hlen], hr, fun q => (by cases q), by rw [hlen]; exact hd, hd2⟩
theorem getD_sub {xs : List Nat} {k m i : Nat} (hi : i < m) : ((xs.drop k).take m).getD i 0 = xs.getD (k + i) 0 := by
  simp [hi]
end Go.Proofs.Ytdbngchbhoanpaa
namespace Go.Proofs.Ytdbngchbhoanpaa
open Go.RowKit
def be32 (v : Nat) : List Nat := [v / 16777216 % 256, v / 65536 % 256, v / 256 % 256, v % 256]
theorem own_be32 (w : World) (v : Nat) (hv : v < 4294967296) :
    Own (w.alloc (.cells #[.int .u8 ((v : Int) / 16777216), .int .u8 ((v : Int) / 65536 % 256), .int .u8 ((v : Int) / 256 % 256), .int .u8 ((v : Int) % 256)] 5)) w.heap.size (.slice (some ⟨w.heap.size, 0, none⟩) 4 4) (be32 v) := by
  refine own_lit w _ (be32 v) ?_ (by unfold be32; simp)
  unfold be32
  simp
  omega
set_option maxHeartbeats 400000 in
theorem put32_any (x : Int) (v : Nat) (hx : x = (v : Int)) (w : World) (hv : v < 4294967296) :
    Calls Try.prog 29 #[.int .u32 x] w fun e w' => ∃ s, e = .returned s ∧ Own w' w.heap.size s (be32 v) ∧ Below w.heap.size w w' := by
  subst hx
  go_enter Try.func29, Try.ntmps29
  go_wp2
  go_ret
  exact ⟨_, rfl, own_be32 w v hv, (Below.refl _ _).alloc (Nat.le_refl _) _⟩
def val32 (xs : List Nat) : Nat := xs.getD 0 0 * 16777216 + xs.getD 1 0 * 65536 + xs.getD 2 0 * 256 + xs.getD 3 0
set_option maxHeartbeats 400000 in
theorem get32_short (A : Option Addr) (n c : Nat) (w : World) (hn : n < 4) :
    Calls Try.prog 40 #[.slice A n c] w fun e w' => e = .returned (.tuple #[.int .u32 0, .int .i64 2]) ∧ w = w' := by
  go_enter Try.func40, Try.ntmps40
  go_wp2
  go_ret2
  exact ⟨rfl, rfl⟩
theorem or_join (i x y : Nat) (hx : x % 2 ^ i = 0) (hy : y < 2 ^ i) (h1 : x < 4294967296) (h2 : y < 4294967296) : bits .or .u32 (x : Int) (y : Int) = ((x + y : Nat) : Int) := by
  rw [u32_or_nat x y h1 h2, nat_join i x y hx hy]
theorem get32_eq (x0 x1 x2 x3 : Nat) (h0 : x0 < 256) (h1 : x1 < 256) (h2 : x2 < 256) (h3 : x3 < 256) :
    bits .or .u32 (bits .or .u32 (bits .or .u32 ((x0 : Int) * 16777216) ((x1 : Int) * 65536)) ((x2 : Int) * 256)) (x3 : Int) = ((x0 * 16777216 + x1 * 65536 + x2 * 256 + x3 : Nat) : Int) := by
  have e0 : (x0 : Int) * 16777216 = ((x0 * 16777216 : Nat) : Int) := by simp
  have e1 : (x1 : Int) * 65536 = ((x1 * 65536 : Nat) : Int) := by simp
  have e2 : (x2 : Int) * 256 = ((x2 * 256 : Nat) : Int) := by simp
  rw [e0, e1, e2, or_join 24 _ _ (by omega) (by omega) (by omega) (by omega), or_join 16 _ _ (by omega) (by omega) (by omega) (by omega), or_join 8 _ _ (by omega) (by omega) (by omega) (by omega)]
set_option maxHeartbeats 800000 in
theorem get32_any (A : Option Addr) (n c : Nat) (xs : List Nat) (w : World) (hA : Rd w A xs) (hn : n = xs.length) (hb : ∀ x ∈ xs, x < 256) (h4 : 4 ≤ n) (ln : n ≤ 9223372036854775807) :
    Calls Try.prog 40 #[.slice A n c] w fun e w' => e = .returned (.tuple #[.int .u32 (val32 xs : Nat), .int .i64 0]) ∧ ∃ d, w' = w.drewN d := by
  obtain ⟨b, off, rfl, hc⟩ := hA (by intro e; rw [e] at hn; simp at hn; omega)
  obtain ⟨x0, c0, l0, e0⟩ := rd_at hc hb 0 (by omega)
  obtain ⟨x1, c1, l1, e1⟩ := rd_at hc hb 1 (by omega)
  obtain ⟨x2, c2, l2, e2⟩ := rd_at hc hb 2 (by omega)
  obtain ⟨x3, c3, l3, e3⟩ := rd_at hc hb 3 (by omega)
  rw [Nat.add_zero] at c0
  have E := hide (And.intro e0 (And.intro e1 (And.intro e2 e3)))
  clear hc e0 e1 e2 e3 hA
  have HN := hide hn
  clear hn hb
  go_enter Try.func40, Try.ntmps40
  go_wp2
  go_quiet (fail)
  go_wp2
  go_ret2
  refine ⟨?_, nq, rfl⟩
  have e := E.out
  rw [get32_eq x0 x1 x2 x3 l0 l1 l2 l3]
  unfold val32
  rw [← e.1, ← e.2.1, ← e.2.2.1, ← e.2.2.2]
  rfl
theorem val32_be (v : Nat) (hv : v < 4294967296) (more : List Nat) : val32 (be32 v ++ more) = v := by
  unfold val32 be32
  simp
  omega
theorem be32_byte (v : Nat) : ∀ x ∈ be32 v, x < 256 := by unfold be32; intro x hx; simp at hx; omega
theorem Own.form4 {w : World} {B : Nat} {v : Value} {a : Nat} (h : Own w B v (be32 a)) : ∃ A c, v = .slice A 4 c ∧ Rd w A (be32 a) ∧ (A = none → c = 0) ∧ 4 ≤ c ∧ c ≤ 9223372036854775807 := h.isB
theorem be32_len (v : Nat) : (be32 v).length = 4 := rfl
end Go.Proofs.Ytdbngchbhoanpaa
namespace Go.Proofs.Ytdbngchbhoanpaa
open Go.RowKit
structure Plc where
  key : Nat
  at_ : Int
  n : Int
  cook : Nat
  dead : Bool
deriving DecidableEq
/-- The widths of a place's numbers. -/
structure Plc.Fit (p : Plc) : Prop where
  key : p.key < 18446744073709551616
  at1 : -9223372036854775808 ≤ p.at_ ∧ p.at_ ≤ 9223372036854775807
  n1 : -9223372036854775808 ≤ p.n ∧ p.n ≤ 9223372036854775807
  cook : p.cook < 4294967296
def plcV (p : Plc) : Value := .agg #[.int .u64 (p.key : Int), .int .i64 p.at_, .int .i64 p.n, .int .u32 (p.cook : Int), .bool p.dead]
def noPlc : Plc := ⟨0, 0, 0, 0, false⟩
/-- The five cells of a place in a row. -/
def FiveAt (w : World) (b o : Nat) (p : Plc) : Prop :=
  w.cell? ⟨b, o, none⟩ = some (.int .u64 (p.key : Int)) ∧ w.cell? ⟨b, o + 1, none⟩ = some (.int .i64 p.at_) ∧ w.cell? ⟨b, o + 2, none⟩ = some (.int .i64 p.n) ∧
  w.cell? ⟨b, o + 3, none⟩ = some (.int .u32 (p.cook : Int)) ∧ w.cell? ⟨b, o + 4, none⟩ = some (.bool p.dead)
theorem FiveAt.keep {w w' : World} {b o : Nat} {p : Plc} (h : FiveAt w b o p) (k : Below w.heap.size w w') : FiveAt w' b o p := by
  obtain ⟨h0, h1, h2, h3, h4⟩ := h
  exact ⟨(k.cell (cell_lt h0)).trans h0, (k.cell (cell_lt h1)).trans h1, (k.cell (cell_lt h2)).trans h2, (k.cell (cell_lt h3)).trans h3, (k.cell (cell_lt h4)).trans h4⟩
/-- A row reads as places. -/
def IsP (w : World) (A : Option Addr) (ps : List Plc) : Prop := ∀ i, i < ps.length → ∃ b o, A = some ⟨b, o, none⟩ ∧ FiveAt w b (o + i * 5) (ps.getD i noPlc)
theorem IsP.keep {w w' : World} {A : Option Addr} {ps : List Plc} (h : IsP w A ps) (k : Below w.heap.size w w') : IsP w' A ps := fun i hi => by
  obtain ⟨b, o, e, f⟩ := h i hi
  exact ⟨b, o, e, f.keep k⟩
theorem IsP.drewN {w : World} {A : Option Addr} {ps : List Plc} (h : IsP w A ps) (d : Nat) : IsP (w.drewN d) A ps := h
/-- May a place's At or N be so? -/
def bndB (z : Int) : Bool := decide (0 ≤ z) && decide (z ≤ 4194304)
/-- May the place at i of a list be one of an index, beside the one ahead of it? -/
def okAt (ps : List Plc) (i : Nat) : Prop := (0 < i → (ps.getD (i - 1) noPlc).key < (ps.getD i noPlc).key) ∧ bndB (ps.getD i noPlc).at_ = true ∧ bndB (ps.getD i noPlc).n = true
instance (ps : List Plc) (i : Nat) : Decidable (okAt ps i) := by unfold okAt; infer_instance
def IsIx (ps : List Plc) : Prop := ∀ i, i < ps.length → okAt ps i
instance (ps : List Plc) : Decidable (IsIx ps) := by unfold IsIx; infer_instance
/-- A place's bytes. -/
def plcL (p : Plc) : List Nat := uvl p.key ++ uvl p.at_.toNat ++ uvl p.n.toNat ++ be32 p.cook ++ [if p.dead then 1 else 0]
/-- The bytes of the first places, behind how many there are. -/
def bodyL (ps : List Plc) : Nat → List Nat
  | 0 => uvl ps.length
  | i + 1 => bodyL ps i ++ plcL (ps.getD i noPlc)
end Go.Proofs.Ytdbngchbhoanpaa
namespace Go.Proofs.Ytdbngchbhoanpaa
open Go.RowKit
theorem drop_get {xs : List Nat} {k : Nat} (h : k < xs.length) : xs.drop k = xs.getD k 0 :: xs.drop (k + 1) := by
  rw [List.drop_eq_getElem_cons h]
  simp [h]
theorem andNot128 (c : Nat) (h : c < 256) : bits .andNot .u8 (c : Int) 128 = ((c % 128 : Nat) : Int) := by
  rw [u8_andNot _ _ (by omega) (by omega) (by decide) (by decide)]
  have h2 : (128 : Int).toNat = 128 := rfl
  rw [h2, Int.toNat_natCast]
  have : ∀ z, z < 256 → z &&& (255 - 128) = z % 128 := by decide +kernel
  rw [this c h]
theorem or_read {v c k : Nat} (hk : k ≤ 9) (h9 : k = 9 → c ≤ 1) (hv : v < 2 ^ (7 * k)) :
    bits .or .u64 (v : Int) ((c % 128 * 2 ^ (7 * k) : Nat) : Int) = ((v + c % 128 * 2 ^ (7 * k) : Nat) : Int) := by
  rw [u64_or_nat _ _ (by have := v_lt hk hv; omega) (sh_lt hk h9), Nat.or_comm, nat_join (7 * k) _ _ (Nat.mul_mod_left _ _) hv, Nat.add_comm]
theorem or_walk {v c k : Nat} (hk : k ≤ 9) (h9 : k = 9 → c ≤ 1) (hv : v < 2 ^ (7 * k)) :
    bits .or .u64 (v : Int) (IntKind.u64.wrap ((c : Int) % 128 * 2 ^ (7 * k))) = ((v + c % 128 * 2 ^ (7 * k) : Nat) : Int) := by
  rw [← or_read hk h9 hv]
  have e : ((c : Int) % 128 * 2 ^ (7 * k)) = ((c % 128 * 2 ^ (7 * k) : Nat) : Int) := by simp
  rw [e, IntKind.wrap_u64]
  have := sh_lt (c := c) hk h9
  congr 1
  omega
theorem or_zero (v : Nat) (hv : v < 9223372036854775808) : bits .or .u64 (v : Int) (IntKind.u64.wrap 0) = (v : Int) := by
  have e : IntKind.u64.wrap 0 = ((0 : Nat) : Int) := by decide
  rw [e, u64_or_nat _ _ (by omega) (by omega), Nat.or_zero]
theorem ret3 {a b c a' b' c' : Int} (h1 : a = a') (h2 : b = b') (h3 : c = c') : Ending.returned (.tuple #[.int .u64 a, .int .i64 b, .int .i64 c]) = .returned (.tuple #[.int .u64 a', .int .i64 b', .int .i64 c']) := by rw [h1, h2, h3]
set_option maxHeartbeats 1600000 in
set_option maxRecDepth 100000 in
theorem uread_any (A : Option Addr) (n c : Nat) (xs : List Nat) (w : World) (hA : Rd w A xs) (hn : n = xs.length) (hb : ∀ x ∈ xs, x < 256) (ln : n ≤ 9223372036854775807) :
    Calls Try.prog 52 #[.slice A n c] w fun e w' => e = .returned (.tuple #[.int .u64 ((rvl 0 0 xs).1 : Nat), .int .i64 ((rvl 0 0 xs).2.1 : Nat), .int .i64 ((rvl 0 0 xs).2.2 : Nat)]) ∧ w = w' := by
  have HA := hide hA
  have HN := hide hn
  have HB := hide hb
  clear hA hn hb
  obtain ⟨r, hr⟩ : ∃ r, r = rvl 0 0 xs := ⟨_, rfl⟩
  rw [← hr]
  have HR := hide hr
  clear hr
  go_enter Try.func52, Try.ntmps52
  go_wp2
  go_loop [5, 11] (fun s i => ∃ k v : Nat, k ≤ n ∧ k ≤ 9 ∧ i = .int .i64 (k : Int) ∧ s = .int .u64 (v : Int) ∧ Hid (v < 2 ^ (7 * k)) ∧ Hid (r = rvl k v (xs.drop k))) (fun _ i => n - (intOf i).toNat)
  case atStart => exact ⟨0, 0, by omega, by omega, rfl, rfl, by unfold Hid; decide, HR.out⟩
  case round =>
    obtain ⟨k, v, hk, hk9, rfl, rfl, hv, hrv⟩ := hrel
    by_cases hlt : k < n
    · obtain ⟨b, off, rfl, hcell⟩ := HA.out (by intro e; rw [HN.out, e] at hlt; simp at hlt)
      obtain ⟨x, cx, lx, ex⟩ := rd_at hcell HB.out k (by rw [← HN.out]; exact hlt)
      have hd := drop_get (xs := xs) (k := k) (by rw [← HN.out]; exact hlt)
      rw [← ex] at hd
      have hrv := hrv.out
      rw [hd] at hrv
      clear hcell hd ex
      have han := andNot128 x lx
      have hv63 := v_lt hk9 hv.out
      by_cases h1 : k = 9 ∧ 1 < x
      · obtain ⟨h9, h1⟩ := h1
        rw [rvl_last h9 h1] at hrv
        subst hrv
        subst h9
        by_cases h2 : 128 ≤ x
        · go_wp2
          go_ret3
          exact ⟨rfl, rfl⟩
        · go_wp2
          go_ret3
          exact ⟨rfl, rfl⟩
      · have HOR := hide (or_walk (c := x) hk9 (by omega) hv.out)
        by_cases h2 : 128 ≤ x
        · have h8 : k < 9 := by omega
          rw [rvl_more h8 h2] at hrv
          have HV := hide (step_lt (c := x) hv.out)
          have HRV := hide hrv
          clear hrv h1
          go_wp2
          go_round
          case rel => exact ⟨k + 1, _, by omega, by omega, by go_num, by rw [HOR.out], HV, HRV⟩
          case measure => simp [intOf]; omega
        · by_cases h0 : x = 0 ∧ 0 < k
          · obtain ⟨h0, h00⟩ := h0
            rw [rvl_zero h0 h00] at hrv
            subst hrv
            subst h0
            clear h1
            by_cases h9 : k = 9
            · subst h9
              go_wp2
              go_ret3
              exact ⟨rfl, rfl⟩
            · go_wp2
              go_ret3
              exact ⟨rfl, rfl⟩
          · rw [rvl_end h1 (by omega) h0] at hrv
            subst hrv
            by_cases h9 : k = 9
            · have hx : x = 1 := by omega
              subst hx
              subst h9
              clear h0 h1
              go_wp2
              go_ret3
              exact ⟨ret3 HOR.out (by omega) rfl, rfl⟩
            · by_cases hk0 : k = 0
              · have hk1 : k ≤ 0 := by omega
                clear h0 h1 hk0
                by_cases hx : x = 0
                · have hx1 : x ≤ 0 := by omega
                  clear hx
                  go_wp2
                  go_ret3
                  exact ⟨ret3 (or_zero v hv63) (by omega) rfl, rfl⟩
                · go_wp2
                  go_ret3
                  exact ⟨ret3 HOR.out (by omega) rfl, rfl⟩
              · have hx : ¬ x = 0 := by omega
                clear h0 h1
                go_wp2
                go_ret3
                exact ⟨ret3 HOR.out (by omega) rfl, rfl⟩
    · have hd : xs.drop k = [] := List.drop_of_length_le (by rw [← HN.out]; omega)
      have hrv := hrv.out
      rw [hd, rvl_nil] at hrv
      subst hrv
      clear hd
      go_wp2
      go_ret3
      exact ⟨rfl, rfl⟩
end Go.Proofs.Ytdbngchbhoanpaa
