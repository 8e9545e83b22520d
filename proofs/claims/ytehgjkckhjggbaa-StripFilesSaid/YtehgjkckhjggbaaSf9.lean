/- The contract of shard.present: which rows are there, as a set; whether these are of one length. Condition: at most 14 rows. The contract of gf.Dot. Condition: there are at most 1000000 bytes. The contract of matrix's noughts. Condition: at most 128 rows of at most 128 numbers. The contract of matrix.One. No condition but the widths. The contracts of matrix's sums and of matrix.Code. No condition but the widths. matrix.One and matrix.Code, also where they refuse. No condition but the widths. Slices of bytes: what is left of them, three of them. No condition. A part of a slice of bytes that is read. No condition. Four bytes, the highest first: the contracts of bits.Put32 and bits.Get32. Conditions: the widths. The contract of bits.Sum: of any bytes it is the CRC, reckoned digit by digit. Condition: no row is longer than a slice may be. -/
import Derived.Test.YtehgjkckhjggbaaSf4
import Derived.Test.YtehgjkckhjggbaaSf6
import Derived.Test.YtehgjkckhjggbaaSf7
namespace Go.Proofs.Ytehgjkckhjggbaa
open Go.RowKit
/-- Row i is there. -/
def isThere (W : ML) (i : Nat) : Bool := !(W.getD i []).isEmpty
theorem isThere_yes {W : ML} {i : Nat} (h : (W.getD i []).length ≠ 0) : isThere W i = true := by
  unfold isThere
  cases q : W.getD i [] with
  | nil => rw [q] at h; exact absurd rfl h
  | cons a b => rfl
theorem isThere_no {W : ML} {i : Nat} (h : (W.getD i []).length = 0) : isThere W i = false := by
  unfold isThere
  rw [List.eq_nil_of_length_eq_zero h]
  rfl
/-- The rows that are there are of one length. -/
def even (W : ML) : Prop := ∃ n, ∀ r ∈ W, r ≠ [] → r.length = n
/-- What present tells. -/
def presAns (W : ML) (v : Value) : Prop := (∃ x : Nat, v = .tuple #[.int .u64 (x : Int), .bool true] ∧ isSet (isThere W) W.length x ∧ even W) ∨ (v = .tuple #[.int .u64 0, .bool false] ∧ ¬ even W)
theorem present_digs {W : ML} {x : Nat} (h : isSet (isThere W) W.length x) (h14 : W.length ≤ 14) : digs x = present W := by
  rw [isSet_digs h h14]
  rfl
theorem isSet_none {p : Nat → Bool} {i x : Nat} (h : isSet p i x) (h0 : x = 0) : ∀ j, j < i → p j = false := by
  subst h0
  intro j hj
  have := h.2 j
  simp [hj] at this
  exact this
theorem isSet_some {p : Nat → Bool} {i x : Nat} (h : isSet p i x) (h0 : x ≠ 0) : ∃ j, j < i ∧ p j = true := by
  apply Decidable.byContradiction
  intro q
  apply h0
  apply Nat.eq_of_testBit_eq
  intro j
  rw [h.2, Nat.zero_testBit]
  by_cases hj : j < i
  · have : p j = false := by
      cases hp : p j with
      | false => rfl
      | true => exact absurd ⟨j, hj, hp⟩ q
    rw [this, Bool.and_false]
  · rw [decide_eq_false hj, Bool.false_and]
theorem two_pow_lt (j : Nat) (h : j < 64) : 2 ^ j < 18446744073709551616 := Nat.pow_lt_pow_right (m := j) (n := 64) (by decide) h
set_option maxHeartbeats 1600000 in
theorem present_any (A : Option Addr) (n c : Nat) (W : ML) (w : World) (hA : IsM w A W) (hn : W.length = n) (h14 : n ≤ 14) :
    Calls Try.prog 99 #[.slice A n c] w fun e w' => ∃ v, e = .returned v ∧ presAns W v ∧ w = w' := by
  have HA := hide hA
  have HN := hide hn
  clear hA hn
  go_enter Try.func99, Try.ntmps99
  go_wp2_with fail
  go_loop [4, 5, 10] (fun s l i => ∃ k x z : Nat, k ≤ n ∧ i = .int .i64 (k : Int) ∧ s = .int .u64 (x : Int) ∧ l = .int .i64 (z : Int) ∧ z ≤ 9223372036854775807 ∧ isSet (isThere W) k x ∧ (∀ j, j < k → (W.getD j []).length ≠ 0 → (W.getD j []).length = z)) (fun _ _ i => n - (intOf i).toNat)
  case atStart => exact ⟨0, 0, 0, Nat.zero_le _, rfl, rfl, rfl, by decide, isSet_zero _, fun j h => absurd h (Nat.not_lt_zero j)⟩
  case round =>
    obtain ⟨k, x, z, hk, rfl, rfl, rfl, hz, hset, hall⟩ := hrel
    by_cases hlt : k < n
    · obtain ⟨b, off, A', c', rfl, ck, ib, l1, m1⟩ := HA.out.at_ k (by rw [HN.out]; exact hlt)
      obtain ⟨q, hq⟩ : ∃ q, q = (W.getD k []).length := ⟨_, rfl⟩
      rw [← hq] at ck ib l1
      have hx := hset.1
      by_cases e0 : q = 0
      · subst e0
        have HS := hide (isSet_no hset (isThere_no hq.symm))
        have HL := hide (show ∀ j, j < k + 1 → (W.getD j []).length ≠ 0 → (W.getD j []).length = z from fun j hj hne => by
          rcases Nat.lt_or_ge j k with h | h
          · exact hall j h hne
          · obtain rfl : j = k := by omega
            exact absurd hq.symm hne)
        clear hset hall hq ib
        go_wp2_with fail
        go_round
        case rel => exact ⟨k + 1, x, z, by omega, by go_num, rfl, rfl, hz, HS.out, HL.out⟩
        case measure => simp [intOf]; omega
      · have HQ := hide hq
        have HS := hide (isSet_yes hset (by omega) (isThere_yes (by rw [← hq]; exact e0)))
        have f1 : ((q : Int) == 0) = false := by simp; omega
        have hp := two_pow_lt k (by omega)
        have sh : IntKind.u64.wrap (2 ^ k) = ((2 ^ k : Nat) : Int) := by
          rw [show (2 : Int) ^ k = ((2 ^ k : Nat) : Int) by simp, IntKind.wrap_u64]
          exact Int.emod_eq_of_lt (Int.natCast_nonneg _) (Int.ofNat_lt.2 hp)
        have or1 : bits .or .u64 (x : Int) ((2 ^ k : Nat) : Int) = ((x ||| 2 ^ k : Nat) : Int) := u64_or_nat _ _ (by omega) hp
        obtain ⟨p2, hp2⟩ : ∃ p, p = 2 ^ k := ⟨_, rfl⟩
        rw [← hp2] at sh or1
        obtain ⟨y, hy⟩ : ∃ y, y = x ||| p2 := ⟨_, rfl⟩
        rw [← hy] at or1
        rw [← hp2, ← hy] at HS
        have fin : (x = 0 ∨ q = z) → ∀ j, j < k + 1 → (W.getD j []).length ≠ 0 → (W.getD j []).length = q := fun hd j hj hne => by
          rcases Nat.lt_or_ge j k with h | h
          · rcases hd with h0 | h0
            · have := isSet_none hset h0 j h
              rw [isThere_yes hne] at this
              cases this
            · rw [hall j h hne, h0]
          · obtain rfl : j = k := by omega
            exact HQ.out.symm
        by_cases x0 : x = 0
        · have FN := hide (fin (.inl x0))
          have f2 : ((x : Int) != 0) = false := by simp; omega
          clear hset hall hq ib fin hy hp2 hp x0
          go_wp2_with fail
          go_round
          case rel => exact ⟨k + 1, y, q, by omega, by go_num, rfl, rfl, by omega, HS.out, FN.out⟩
          case measure => simp [intOf]; omega
        · have f2 : ((x : Int) != 0) = true := by simp; omega
          by_cases e1 : q = z
          · have FN := hide (fin (.inr e1))
            have f3 : ((q : Int) != (z : Int)) = false := by simp; omega
            clear hset hall hq ib fin hy hp2 hp e1
            go_wp2_with fail
            go_round
            case rel => exact ⟨k + 1, y, q, by omega, by go_num, rfl, rfl, by omega, HS.out, FN.out⟩
            case measure => simp [intOf]; omega
          · have f3 : ((q : Int) != (z : Int)) = true := by simp; omega
            have ANS : Hid (¬ even W) := hide (fun ⟨N, hN⟩ => by
              obtain ⟨j, hj, hp⟩ := isSet_some hset x0
              have hjl : (W.getD j []).length ≠ 0 := fun h0 => by rw [isThere_no h0] at hp; cases hp
              have h1 := hN _ (mem_getD (xss := W) (k := j) (by rw [HN.out]; omega)) (fun h => hjl (by rw [h]; rfl))
              have h2 := hN _ (mem_getD (xss := W) (k := k) (by rw [HN.out]; omega)) (fun h => by rw [h] at hq; exact e0 (by simpa using hq))
              have h3 := hall j hj hjl
              omega)
            clear hset hall hq ib fin hy hp2 hp e1
            go_wp2_with fail
            go_ret2
            exact ⟨_, rfl, .inr ⟨rfl, ANS.out⟩, rfl⟩
    · obtain rfl : k = n := by omega
      have EV : Hid (even W) := hide ⟨z, fun r hr hne => by
        obtain ⟨j, hj, rfl⟩ := List.getElem_of_mem hr
        have e : W.getD j [] = W[j] := by simp [hj]
        have := hall j (by rw [← HN.out]; exact hj) (by rw [e]; exact fun h => hne (List.eq_nil_of_length_eq_zero h))
        rwa [e] at this⟩
      have HS := hide hset
      clear hall hset
      go_wp2_with fail
      go_ret2
      exact ⟨_, rfl, .inl ⟨x, rfl, by rw [HN.out]; exact HS.out, EV.out⟩, rfl⟩
end Go.Proofs.Ytehgjkckhjggbaa
namespace Go.Proofs.Ytehgjkckhjggbaa
open Go.RowKit
set_option maxHeartbeats 1600000 in
theorem dot_any (A B : Option Addr) (n c d : Nat) (xs ys : List Nat) (w : World) (hA : Rd w A xs) (hB : Rd w B ys) (hn : xs.length = n) (hm : ys.length = n) (hb : ∀ x ∈ xs, x < 256) (hc : ∀ y ∈ ys, y < 256) (h3 : n ≤ 1000000) :
    Calls Try.prog 160 #[.slice A n c, .slice B n d] w fun e w' => e = .returned (.tuple #[.int .u8 (dotS xs ys n : Nat), .int .i64 0]) ∧ w = w' := by
  have HA := hide hA
  have HN := hide hn
  have HB := hide hb
  have HA2 := hide hB
  have HN2 := hide hm
  have HB2 := hide hc
  have hne0 : ((n : Int) != (n : Int)) = false := by simp
  clear hA hn hb hB hm hc
  go_enter Try.func160, Try.ntmps160
  go_wp2_with fail
  go_loop [6, 16] (fun s i => ∃ k : Nat, k ≤ n ∧ i = .int .i64 (k : Int) ∧ s = .int .u8 (dotS xs ys k : Nat)) (fun _ i => n - (intOf i).toNat)
  case atStart => exact ⟨0, Nat.zero_le _, rfl, rfl⟩
  case round =>
    obtain ⟨k, hk, rfl, rfl⟩ := hrel
    by_cases hlt : k < n
    · obtain ⟨b', off', rfl, ck, hx⟩ := at_place HA.out HN.out HB.out k hlt
      obtain ⟨b2', off2', rfl, ck2, hy⟩ := at_place HA2.out HN2.out HB2.out k hlt
      have hs := dotS_lt (ys := ys) HB.out k
      have hds : dotS xs ys (k + 1) = dotS xs ys k ^^^ gmul (xs.getD k 0) (ys.getD k 0) := rfl
      obtain ⟨x, hxe⟩ : ∃ x, x = xs.getD k 0 := ⟨_, rfl⟩
      obtain ⟨y, hye⟩ : ∃ y, y = ys.getD k 0 := ⟨_, rfl⟩
      obtain ⟨s, hse⟩ : ∃ s, s = dotS xs ys k := ⟨_, rfl⟩
      rw [← hxe] at ck hx hds
      rw [← hye] at ck2 hy hds
      rw [← hse] at hs hds ⊢
      have hxo := u8_xor_nat s (gmul x y) hs (gmul_lt y hx)
      rw [← hds] at hxo
      clear hds hxe hye hse
      go_wp2_with fail
      refine (mul_any x y _ hx hy).mono ?_
      rintro e w1 ⟨rfl, rfl⟩
      go_wp2_with fail
      go_round
      case rel => exact ⟨k + 1, by omega, by go_num, rfl⟩
      case measure => simp [intOf]; omega
    · obtain rfl : k = n := by omega
      go_wp2_with fail
      go_ret2
      exact ⟨rfl, rfl⟩
theorem dot_unlike (A B : Option Addr) (n m c d : Nat) (w : World) (h : n ≠ m) :
    Calls Try.prog 160 #[.slice A n c, .slice B m d] w fun e w' => e = .returned (.tuple #[.int .u8 0, .int .i64 1]) ∧ w = w' := by
  have hne0 : ((n : Int) != (m : Int)) = true := by simp; omega
  go_enter Try.func160, Try.ntmps160
  go_wp2_with fail
  go_ret2
  exact ⟨rfl, rfl⟩
end Go.Proofs.Ytehgjkckhjggbaa
namespace Go.Proofs.Ytehgjkckhjggbaa
open Go.RowKit
set_option maxHeartbeats 1600000 in
theorem noughts_any (n m : Nat) (w : World) (h1 : n ≤ 128) (h2 : m ≤ 128) :
    Calls Try.prog 128 #[.int .i64 (n : Int), .int .i64 (m : Int)] w fun e w' => ∃ g R, e = .returned (.slice (some ⟨g, 0, none⟩) n n) ∧ Grid w' w.heap.size g n m R (fun _ _ => G.zero) ∧ Below w.heap.size w w' := by
  obtain ⟨i0, hi, hz0, hz1, hz2⟩ := info_parts Try.info_rows
  obtain ⟨i1, hj, hy0, hy1, hy2⟩ := info_parts Try.info_u8'
  have HJ := hide (And.intro hj (And.intro hy0 (And.intro hy1 hy2)))
  clear hj hy0 hy1 hy2
  go_enter Try.func128, Try.ntmps128
  go_wp2_with (at_make; refine halt ?_)
  refine ⟨?_⟩
  refine wpList_make_full _ rfl (.tmp 7) (.tmp 7) 42 rfl w.heap.size 23 i0 (.slice none 0 0) 1 Try.underlying42 hi hz0 hz1 .i64 .i64 n n n rfl rfl rfl rfl (by rw [hz2]; omega) (by unfold maxLen; omega) (Nat.le_refl _) ?_
  intro w2 h2' g2
  have o2 := made_nils h2'
  have b2 : Below w.heap.size w w2 := (Below.refl _ _).grown g2 (Nat.le_refl _) (by simp)
  clear h2' g2 hi hz0 hz1 hz2 i0
  obtain ⟨g, hg⟩ : ∃ g, g = w.heap.size := ⟨_, rfl⟩
  rw [← hg] at o2 b2 ⊢
  have HG := hide hg
  have O2 := hide o2
  have B2 := hide b2
  clear hg o2 b2
  go_wp2_with fail
  go_loopw [11] (fun i wr => ∃ k : Nat, k ≤ n ∧ i = .int .i64 (k : Int) ∧ Hid (∃ R, Begun wr g g n m k R) ∧ Hid (Below g w wr)) (fun i _ => n - (intOf i).toNat)
  case atStart =>
    refine ⟨0, Nat.zero_le _, rfl, hide ⟨fun _ => 0, ⟨?_, fun i hi => absurd hi (Nat.not_lt_zero i), fun i j hi => absurd hi (Nat.not_lt_zero i)⟩⟩, hide B2.out⟩
    have e : ((List.range n).map fun i => if i < 0 then rowV 0 m else .slice none 0 0) = List.replicate n (.slice none 0 0) := by
      apply List.ext_getElem
      · simp
      · intro i h1 h2
        simp
    rw [e]
    exact O2.out
  case round =>
    obtain ⟨k, hk, rfl, hbeg, hbel⟩ := hrel
    by_cases hlt : k < n
    · obtain ⟨hj, hy0, hy1, hy2⟩ := HJ.out
      go_wp2_with (at_make; refine halt ?_)
      refine ⟨?_⟩
      refine wpList_make_full _ rfl (.tmp 16) (.tmp 16) 23 rfl wr.heap.size 5 i1 (.int .u8 0) 1 Try.underlying23 hj hy0 hy1 .i64 .i64 m m m rfl rfl rfl rfl (by rw [hy2]; omega) (by unfold maxLen; omega) (Nat.le_refl _) ?_
      intro w3 h3 g3
      clear hj hy0 hy1 hy2
      obtain ⟨R, hR⟩ := hbeg.out
      have hgs : g ≤ wr.heap.size := by rw [HG.out]; exact hbel.out.size
      have z3 := made_zeros h3 k
      have k3 : Below wr.heap.size wr w3 := (Below.refl _ _).grown g3 (Nat.le_refl _) (by simp)
      have nx := hR.next hlt (z3.more hgs) k3 (Nat.le_refl _)
      have f3 := (hR.outer.keep k3).frozen k
      have c3 : w3.cell? ⟨g, k, none⟩ = some (.slice none 0 0) := by
        rw [(hR.outer.keep k3).cell]
        simp [hlt]
      have NX := hide (show ∃ R, Begun (w3.setCell ⟨g, k, none⟩ (.slice (some ⟨wr.heap.size, 0, none⟩) m m)) g g n m (k + 1) R from ⟨_, nx⟩)
      have BL := hide (show Below g w (w3.setCell ⟨g, k, none⟩ (.slice (some ⟨wr.heap.size, 0, none⟩) m m)) from (hbel.out.trans (k3.mono hgs)).setCell (Nat.le_refl _) _)
      clear hgs h3 g3 z3 k3 nx hR hbeg hbel
      go_wp2_with fail
      go_roundw
      case rel => exact ⟨k + 1, by omega, by go_num, NX, BL⟩
      case measure => simp [intOf]; omega
    · obtain rfl : k = n := by omega
      go_wp2_with fail
      go_ret
      obtain ⟨R, hR⟩ := hbeg.out
      exact ⟨g, R, rfl, by rw [← HG.out]; exact hR.done, by rw [← HG.out]; exact hbel.out⟩
end Go.Proofs.Ytehgjkckhjggbaa
namespace Go.Proofs.Ytehgjkckhjggbaa
open Go.RowKit
theorem one_bad (n : Int) (w : World) (h : n < 1 ∨ 64 < n) : Calls Try.prog 97 #[.int .i64 n] w fun e w' => e = .returned (.tuple #[.slice none 0 0, .int .i64 1]) ∧ w = w' := by
  by_cases h1 : n < 1
  · clear h
    go_enter Try.func97, Try.ntmps97
    go_wp2_with fail
    go_ret2
    exact ⟨rfl, rfl⟩
  · have h2 : 64 < n := by omega
    clear h
    go_enter Try.func97, Try.ntmps97
    go_wp2_with fail
    go_ret2
    exact ⟨rfl, rfl⟩
set_option maxHeartbeats 800000 in
theorem one_any (n : Nat) (w : World) (h1 : 1 ≤ n) (h2 : n ≤ 64) :
    Calls Try.prog 97 #[.int .i64 (n : Int)] w fun e w' => ∃ g, e = .returned (.tuple #[.slice (some ⟨g, 0, none⟩) n n, .int .i64 0]) ∧ OwnMt w' w.heap.size (.slice (some ⟨g, 0, none⟩) n n) (oneL n) ∧ Below w.heap.size w w' := by
  have g1 : ¬ (n : Int) < 1 := by omega
  have g2 : ¬ 64 < (n : Int) := by omega
  have HNO := hide (noughts_any n n w (by omega) (by omega))
  obtain ⟨B, hB⟩ : ∃ B, B = w.heap.size := ⟨_, rfl⟩
  rw [← hB] at HNO ⊢
  clear hB
  go_enter Try.func97, Try.ntmps97
  go_wp2_with fail
  refine HNO.out.mono ?_
  rintro e w1 ⟨g, R, rfl, gr, kb⟩
  have GR := hide gr
  have KB := hide kb
  clear gr kb HNO
  go_wp2_with fail
  go_loopw [17] (fun i wr => ∃ k : Nat, k ≤ n ∧ i = .int .i64 (k : Int) ∧ Hid (∃ f, Grid wr B g n n R f ∧ ∀ a b, f a b = if a < k then dl a b else G.zero) ∧ Hid (Below B w wr)) (fun i _ => n - (intOf i).toNat)
  case atStart => exact ⟨0, Nat.zero_le _, rfl, hide ⟨_, GR.out, fun a b => (if_neg (Nat.not_lt_zero a)).symm⟩, KB⟩
  case round =>
    obtain ⟨k, hk, rfl, hf, hbel⟩ := hrel
    by_cases hlt : k < n
    · obtain ⟨f, gf, ef⟩ := hf.out
      have c1 := gf.cell k hlt
      have c2 := gf.num k k hlt hlt
      have c3 := gf.frozen k k hlt
      have st := gf.set k k hlt G.one
      have BL := hide (gf.below k k hlt (.int .u8 (G.one.n : Int)) hbel.out)
      have NX : Hid (∃ f, Grid (wr.setCell ⟨R k, k, none⟩ (.int .u8 (G.one.n : Int))) B g n n R f ∧ ∀ a b, f a b = if a < k + 1 then dl a b else G.zero) := by
        refine ⟨_, st, fun a b => ?_⟩
        by_cases e1 : a = k
        · subst e1
          rw [if_pos (by omega)]
          by_cases e2 : b = a
          · subst e2; rw [upd_at, dl_eq]
          · rw [upd_col e2, ef, if_neg (by omega), dl_ne (fun q => e2 q.symm)]
        · rw [upd_row e1, ef]
          by_cases e2 : a < k
          · rw [if_pos e2, if_pos (by omega)]
          · rw [if_neg e2, if_neg (by omega)]
      have e1 : ((G.one.n : Nat) : Int) = 1 := rfl
      rw [e1] at NX BL
      clear st gf ef hf hbel e1
      go_wp2_with fail
      go_roundw
      case rel => exact ⟨k + 1, by omega, by go_num, NX, BL⟩
      case measure => simp [intOf]; omega
    · obtain rfl : k = n := by omega
      go_wp2_with fail
      go_ret2
      obtain ⟨f, gf, ef⟩ := hf.out
      refine ⟨g, rfl, ?_, hbel.out⟩
      have := gf.own (by omega) (by omega)
      rwa [show laid k k f = oneL k from laid_congr (fun i hi j _ => by rw [ef, if_pos hi])] at this
end Go.Proofs.Ytehgjkckhjggbaa
namespace Go.Proofs.Ytehgjkckhjggbaa
open Go.RowKit
set_option maxHeartbeats 800000 in
theorem sums_any (k x : Nat) (w : World) (h1 : k ≤ x) (h2 : x ≤ 14) :
    Calls Try.prog 98 #[.int .i64 (k : Int), .int .i64 (x : Int)] w fun e w' => ∃ g, e = .returned (.slice (some ⟨g, 0, none⟩) k k) ∧ Own w' w.heap.size (.slice (some ⟨g, 0, none⟩) k k) ((List.range k).map fun j => (kx x j).n) ∧ Below w.heap.size w w' := by
  obtain ⟨i0, hi, hz0, hz1, hz2⟩ := info_parts Try.info_u8'
  obtain ⟨f, hf⟩ : ∃ f : Nat → Nat, f = fun j => (kx x j).n := ⟨_, rfl⟩
  have HF : Hid (∀ j, j < x → f j = ginv (x ^^^ j)) := by
    intro j hj
    rw [hf]
    exact (kx_walk h2 hj).2.2.2.2
  rw [show ((List.range k).map fun j => (kx x j).n) = part f k k by
    unfold part
    refine List.map_congr_left (fun j hj => ?_)
    rw [if_pos (List.mem_range.1 hj), hf]]
  clear hf
  go_enter Try.func98, Try.ntmps98
  go_wp2_with (at_make; refine halt ?_)
  refine ⟨?_⟩
  refine wpList_make_full _ rfl (.tmp 7) (.tmp 7) 23 rfl w.heap.size 5 i0 (.int .u8 0) 1 Try.underlying23 hi hz0 hz1 .i64 .i64 k k k rfl rfl rfl rfl (by rw [hz2]; omega) (by unfold maxLen; omega) (Nat.le_refl _) ?_
  intro w2 h2' g2
  have o2 := made_bytes h2'
  have b2 : Below w.heap.size w w2 := (Below.refl _ _).grown g2 (Nat.le_refl _) (by simp)
  clear h2' g2 hi hz0 hz1 hz2 i0
  obtain ⟨g, hg⟩ : ∃ g, g = w.heap.size := ⟨_, rfl⟩
  rw [← hg] at o2 ⊢
  have HG := hide hg
  clear hg
  go_wp2_with fail
  go_loopw [11] (fun i wr => ∃ j : Nat, j ≤ k ∧ i = .int .i64 (j : Int) ∧ Hid (Own wr g (.slice (some ⟨g, 0, none⟩) k k) (part f k j)) ∧ Hid (Below g w wr)) (fun i _ => k - (intOf i).toNat)
  case atStart => exact ⟨0, Nat.zero_le _, rfl, hide (by rw [part_zero]; exact o2), hide (by rw [HG.out]; exact b2)⟩
  case round =>
    obtain ⟨j, hj, rfl, hown, hbel⟩ := hrel
    by_cases hlt : j < k
    · obtain ⟨e1, e2, e3, e4, _⟩ := kx_walk h2 (show j < x by omega)
      have hfj := HF.out j (by omega)
      obtain ⟨y, hy⟩ : ∃ y, y = x ^^^ j := ⟨_, rfl⟩
      rw [← hy] at e1 e2 e3 e4 hfj
      have cs := hown.out.cells_ (part_len f k j) j
      have c1 := cs.1 hlt
      have c2 := cs.2
      have st := hown.out.stored' (part_len f k j) j (f j)
      rw [part_set, hfj] at st
      have ST := hide st
      have BL := hide (show Below g w (wr.setCell ⟨g, j, none⟩ (.int .u8 ((ginv y : Nat) : Int))) from hbel.out.setCell (Nat.le_refl _) _)
      have HI := hide (inv_some y wr e3 e4)
      clear cs st hfj hy hown hbel e4
      go_wp2_with fail
      refine HI.out.mono ?_
      rintro e w1 ⟨rfl, rfl⟩
      go_wp2_with fail
      go_roundw
      case rel => exact ⟨j + 1, by omega, by go_num, ST, BL⟩
      case measure => simp [intOf]; omega
    · obtain rfl : j = k := by omega
      go_wp2_with fail
      go_ret
      exact ⟨_, rfl, hown.out.more (Nat.le_of_eq HG.out.symm), by rw [← HG.out]; exact hbel.out⟩
theorem code_bad (k m : Int) (w : World) (_k1 : -9223372036854775808 ≤ k) (_k2 : k ≤ 9223372036854775807) (_m1 : -9223372036854775808 ≤ m) (_m2 : m ≤ 9223372036854775807) (h : k < 1 ∨ m < 0 ∨ 14 < k + m) :
    Calls Try.prog 59 #[.int .i64 k, .int .i64 m] w fun e w' => e = .returned (.tuple #[.slice none 0 0, .int .i64 1]) ∧ w = w' := by
  by_cases h1 : k < 1
  · clear h
    go_enter Try.func59, Try.ntmps59
    go_wp2_with fail
    go_ret2
    exact ⟨rfl, rfl⟩
  · by_cases h2 : m < 0
    · clear h
      go_enter Try.func59, Try.ntmps59
      go_wp2_with fail
      go_ret2
      exact ⟨rfl, rfl⟩
    · have h3 : 14 - k < m := by omega
      clear h
      go_enter Try.func59, Try.ntmps59
      go_wp2_with fail
      go_ret2
      exact ⟨rfl, rfl⟩
set_option maxHeartbeats 800000 in
theorem code_any (k m : Nat) (w : World) (h1 : 1 ≤ k) (h2 : k + m ≤ 14) :
    Calls Try.prog 59 #[.int .i64 (k : Int), .int .i64 (m : Int)] w fun e w' => ∃ v, e = .returned (.tuple #[v, .int .i64 0]) ∧ OwnMt w' w.heap.size v (codeL k m) ∧ Below w.heap.size w w' := by
  have HO := hide (one_any k w h1 (by omega))
  obtain ⟨B, hB⟩ : ∃ B, B = w.heap.size := ⟨_, rfl⟩
  rw [← hB] at HO ⊢
  have HB := hide hB
  have HL : Hid ((codeL k m).length = k + m) := by unfold Hid codeL; rw [laid_len]
  have HR : Hid (∀ i, i < m → (codeL k m).getD (k + i) [] = (List.range k).map fun j => (kx (k + i) j).n) := fun i hi => code_row hi
  have H0 : Hid ((codeL k m).take (k + 0) = oneL k) := code_one
  obtain ⟨L, hL⟩ : ∃ L, L = codeL k m := ⟨_, rfl⟩
  rw [← hL] at HL HR H0 ⊢
  have g1 : ¬ (k : Int) < 1 := by omega
  have g2 : ¬ (m : Int) < 0 := by omega
  have g3 : ¬ (14 - (k : Int) < (m : Int)) := by omega
  clear hB hL
  go_enter Try.func59, Try.ntmps59
  go_wp2_with fail
  refine HO.out.mono ?_
  rintro e w1 ⟨g, rfl, o1, k1⟩
  have O1 := hide o1
  have K1 := hide k1
  clear o1 k1 HO
  go_wp2_with fail
  go_loopw [6, 27] (fun s i wr => ∃ j : Nat, j ≤ m ∧ i = .int .i64 (j : Int) ∧ Hid (OwnMt wr B s (L.take (k + j))) ∧ Hid (Below B w wr)) (fun _ i _ => m - (intOf i).toNat)
  case atStart => exact ⟨0, Nat.zero_le _, rfl, hide (by rw [H0.out]; exact O1.out), K1⟩
  case round =>
    obtain ⟨j, hj, rfl, hown, hbel⟩ := hrel
    by_cases hlt : j < m
    · have HS := hide (sums_any k (k + j) wr (by omega) (by omega))
      rw [← HR.out j hlt] at HS
      have hc : ((k + j : Nat) : Int) = (k : Int) + (j : Int) := by omega
      rw [hc] at HS
      have HGS : Hid (B ≤ wr.heap.size) := by rw [HB.out]; exact hbel.out.size
      clear hc
      go_wp2_with fail
      refine HS.out.mono ?_
      rintro e w2 ⟨b, rfl, o2, k2⟩
      have OM := hide (hown.out.keep k2)
      have OR := hide (o2.more HGS.out)
      have K2 := hide (hbel.out.trans (k2.mono HGS.out))
      have HG2 := hide (Nat.le_trans HGS.out k2.size)
      clear o2 k2 HS hown hbel HGS
      go_wp2_with (at_builtin; refine halt ?_)
      refine ⟨?_⟩
      have ka := below_alloc w2 (.cells #[.slice (some ⟨b, 0, none⟩) k k] 23)
      refine wpList_append_mrow rfl (.tmp 30) (.tmp 36) rfl B _ _ rfl (OM.out.keep ka) _ _ _ rfl (cell_newAt _ _ _ rfl) (OR.out.keep ka) (by rw [List.length_take]; omega) (Nat.le_trans HG2.out ka.size) ?_
      intro v' w7 o7 k7
      rw [← take_snoc _ _ (by rw [HL.out]; omega)] at o7
      have O7 := hide o7
      have K7 := hide ((K2.out.trans (ka.mono HG2.out)).trans k7)
      clear o7 k7 ka HG2 OM OR K2
      go_wp2_with fail
      go_roundw
      case rel => exact ⟨j + 1, by omega, by go_num, O7, K7⟩
      case measure => simp [intOf]; omega
    · obtain rfl : j = m := by omega
      go_wp2_with fail
      go_ret2
      refine ⟨_, rfl, ?_, hbel.out⟩
      have := hown.out
      rwa [List.take_of_length_le (by rw [HL.out]; exact Nat.le_refl _)] at this
end Go.Proofs.Ytehgjkckhjggbaa
namespace Go.Proofs.Ytehgjkckhjggbaa
open Go.RowKit
theorem one_all (n : Int) (w : World) : Calls Try.prog 97 #[.int .i64 n] w fun e w' => ∃ v, e = .returned (.tuple #[v, .int .i64 (oneE n)]) ∧ OwnMt w' w.heap.size v (oneR n) ∧ Below w.heap.size w w' := by
  unfold oneE oneR
  by_cases h : 1 ≤ n ∧ n ≤ 64
  · rw [if_pos h, if_pos h]
    obtain ⟨k, rfl⟩ : ∃ k : Nat, n = (k : Int) := ⟨n.toNat, by omega⟩
    rw [Int.toNat_natCast]
    exact (one_any k w (by omega) (by omega)).mono fun e w' ⟨g, h1, h2, h3⟩ => ⟨_, h1, h2, h3⟩
  · rw [if_neg h, if_neg h]
    refine (one_bad n w (by omega)).mono ?_
    rintro e w' ⟨rfl, rfl⟩
    exact ⟨_, rfl, OwnMt.nil _ _, Below.refl _ _⟩
theorem code_all (k m : Int) (w : World) (k1 : -9223372036854775808 ≤ k) (k2 : k ≤ 9223372036854775807) (m1 : -9223372036854775808 ≤ m) (m2 : m ≤ 9223372036854775807) :
    Calls Try.prog 59 #[.int .i64 k, .int .i64 m] w fun e w' => ∃ v, e = .returned (.tuple #[v, .int .i64 (codeE k m)]) ∧ OwnMt w' w.heap.size v (codeR k m) ∧ Below w.heap.size w w' := by
  unfold codeE codeR
  by_cases h : k < 1 ∨ m < 0 ∨ 14 < k + m
  · rw [if_pos h, if_pos h]
    refine (code_bad k m w k1 k2 m1 m2 h).mono ?_
    rintro e w' ⟨rfl, rfl⟩
    exact ⟨_, rfl, OwnMt.nil _ _, Below.refl _ _⟩
  · rw [if_neg h, if_neg h]
    obtain ⟨a, rfl⟩ : ∃ a : Nat, k = (a : Int) := ⟨k.toNat, by omega⟩
    obtain ⟨b, rfl⟩ : ∃ b : Nat, m = (b : Int) := ⟨m.toNat, by omega⟩
    rw [Int.toNat_natCast, Int.toNat_natCast]
    exact code_any a b w (by omega) (by omega)
end Go.Proofs.Ytehgjkckhjggbaa
namespace Go.Proofs.Ytehgjkckhjggbaa
open Go.RowKit
theorem isB_drop {w : World} {b off n c : Nat} {xs : List Nat} (h : IsB w (.slice (some ⟨b, off, none⟩) n c) xs) (k m d : Nat) (hm : m = n - k) (hd : d = c - k) (hk : k ≤ n) : IsB w (.slice (some ⟨b, off + k, none⟩) m d) (xs.drop k) := by
  subst hm; subst hd
  obtain ⟨A', c', e, r, h1, h2, h3⟩ := h
  cases e
  refine ⟨_, _, by rw [List.length_drop], ?_, (fun h => by cases h), by rw [List.length_drop]; omega, by omega⟩
  intro hne
  have hl : 0 < (xs.drop k).length := by
    rcases e : xs.drop k with _ | ⟨y, ys⟩
    · exact absurd e hne
    · simp
  obtain ⟨b', off', e, hc⟩ := r (by intro e; rw [e] at hl; simp at hl)
  cases e
  refine ⟨b, off + k, rfl, fun i hi => ?_⟩
  rw [List.length_drop] at hi
  have := hc (k + i) (by omega)
  rw [Nat.add_assoc, this]
  congr 2
  simp
/-- What is left of a slice behind k bytes, wherever the walk lays it. -/
theorem isB_tail {w : World} {b off n c : Nat} {xs : List Nat} (h : IsB w (.slice (some ⟨b, off, none⟩) n c) xs) (k : Nat) (hk : k ≤ n) : IsB w (.slice (some ⟨b, if c = k then off else off + k, none⟩) (n - k) (c - k)) (xs.drop k) := by
  by_cases hc : c = k
  · obtain ⟨A', c', e, r, h1, h2, h3⟩ := h
    cases e
    have h0 : xs.drop k = [] := List.eq_nil_of_length_eq_zero (by rw [List.length_drop]; omega)
    rw [if_pos hc, h0]
    have hn : xs.length - k = 0 := by omega
    rw [hn]
    exact ⟨_, _, rfl, fun h => absurd rfl h, (fun h => by cases h), Nat.zero_le _, by omega⟩
  · rw [if_neg hc]
    exact isB_drop h k _ _ rfl rfl hk
theorem isBs3 {w : World} {u v z : Value} {xs ys zs : List Nat} (h1 : IsB w u xs) (h2 : IsB w v ys) (h3 : IsB w z zs) : IsBs w [u, v, z] [xs, ys, zs] := by
  refine ⟨rfl, fun i hi => ?_⟩
  match i, hi with
  | 0, _ => exact h1
  | 1, _ => exact h2
  | 2, _ => exact h3
theorem isB_len {w : World} {A : Option Addr} {n c : Nat} {xs : List Nat} (h : IsB w (.slice A n c) xs) : xs.length = n ∧ n ≤ c ∧ c ≤ 9223372036854775807 := by
  obtain ⟨_, _, e, _, _, h2, h3⟩ := h
  cases e
  exact ⟨rfl, h2, h3⟩
theorem isB_at {w : World} {A : Option Addr} {n c : Nat} {xs : List Nat} (h : IsB w (.slice A n c) xs) (h1 : 1 ≤ n) : ∃ b off, A = some ⟨b, off, none⟩ := by
  have hl := (isB_len h).1
  obtain ⟨b, off, e, _⟩ := h.rd (by intro e; rw [e] at hl; simp at hl; omega)
  exact ⟨b, off, e⟩
theorem isB_nilw (w : World) : IsB w (.slice none 0 0) [] := ⟨none, 0, rfl, fun h => absurd rfl h, fun _ => rfl, Nat.zero_le _, by decide⟩
end Go.Proofs.Ytehgjkckhjggbaa
namespace Go.Proofs.Ytehgjkckhjggbaa
open Go.RowKit
theorem isB_sub {w : World} {b off n c : Nat} {xs : List Nat} (h : IsB w (.slice (some ⟨b, off, none⟩) n c) xs) (k m d : Nat) (hkm : k + m ≤ n) (hd : d = c - k) : IsB w (.slice (some ⟨b, off + k, none⟩) m d) ((xs.drop k).take m) := by
  obtain ⟨h1, h2, h3⟩ := isB_len h
  obtain ⟨A, c', e, hr, hn, hl, hm⟩ := h
  simp only [Value.slice.injEq] at e
  obtain ⟨rfl, rfl, rfl⟩ := e
  have hlen : ((xs.drop k).take m).length = m := by rw [List.length_take, List.length_drop]; omega
  refine ⟨_, _, by rw [hlen], ?_, fun q => (by cases q), by rw [hlen]; omega, by omega⟩
  intro hne
  have hm0 : 0 < m := by rw [← hlen]; exact List.length_pos_iff.2 hne
  obtain ⟨b', off', e, hc⟩ := hr (by intro q; rw [q] at hkm; simp at hkm; omega)
  cases e
  refine ⟨_, _, rfl, fun i hi => ?_⟩
  rw [hlen] at hi
  have h9 := hc (k + i) (by omega)
  rw [Nat.add_assoc, h9]
  congr 3
  simp [hi]
/-- The same with whatever room behind it. -/
theorem isB_subc {w : World} {b off n c : Nat} {xs : List Nat} (h : IsB w (.slice (some ⟨b, off, none⟩) n c) xs) (k m d : Nat) (hkm : k + m ≤ n) (hd : m ≤ d) (hd2 : d ≤ 9223372036854775807) : IsB w (.slice (some ⟨b, off + k, none⟩) m d) ((xs.drop k).take m) := by
  have h9 := isB_sub h k m (c - k) hkm rfl
  have hlen : ((xs.drop k).take m).length = m := by rw [List.length_take, List.length_drop, (isB_len h).1]; omega
  obtain ⟨A, c', e, hr, hn, hl, hm⟩ := h9
  simp only [Value.slice.injEq] at e
  obtain ⟨rfl, -, rfl⟩ := e
  exact ⟨_, _, by rw [hlen], hr, fun q => (by cases q), by rw [hlen]; exact hd, hd2⟩
theorem getD_sub {xs : List Nat} {k m i : Nat} (hi : i < m) : ((xs.drop k).take m).getD i 0 = xs.getD (k + i) 0 := by
  simp [hi]
end Go.Proofs.Ytehgjkckhjggbaa
namespace Go.Proofs.Ytehgjkckhjggbaa
open Go.RowKit
def be32 (v : Nat) : List Nat := [v / 16777216 % 256, v / 65536 % 256, v / 256 % 256, v % 256]
theorem own_be32 (w : World) (v : Nat) (hv : v < 4294967296) :
    Own (w.alloc (.cells #[.int .u8 ((v : Int) / 16777216), .int .u8 ((v : Int) / 65536 % 256), .int .u8 ((v : Int) / 256 % 256), .int .u8 ((v : Int) % 256)] 5)) w.heap.size (.slice (some ⟨w.heap.size, 0, none⟩) 4 4) (be32 v) := by
  refine own_lit w _ (be32 v) ?_ (by unfold be32; simp)
  unfold be32
  simp
  omega
set_option maxHeartbeats 400000 in
theorem put32_any (x : Int) (v : Nat) (hx : x = (v : Int)) (w : World) (hv : v < 4294967296) :
    Calls Try.prog 79 #[.int .u32 x] w fun e w' => ∃ s, e = .returned s ∧ Own w' w.heap.size s (be32 v) ∧ Below w.heap.size w w' := by
  subst hx
  go_enter Try.func79, Try.ntmps79
  go_wp2
  go_ret
  exact ⟨_, rfl, own_be32 w v hv, (Below.refl _ _).alloc (Nat.le_refl _) _⟩
def val32 (xs : List Nat) : Nat := xs.getD 0 0 * 16777216 + xs.getD 1 0 * 65536 + xs.getD 2 0 * 256 + xs.getD 3 0
set_option maxHeartbeats 400000 in
theorem get32_short (A : Option Addr) (n c : Nat) (w : World) (hn : n < 4) :
    Calls Try.prog 111 #[.slice A n c] w fun e w' => e = .returned (.tuple #[.int .u32 0, .int .i64 2]) ∧ w = w' := by
  go_enter Try.func111, Try.ntmps111
  go_wp2
  go_ret2
  exact ⟨rfl, rfl⟩
theorem or_join (i x y : Nat) (hx : x % 2 ^ i = 0) (hy : y < 2 ^ i) (h1 : x < 4294967296) (h2 : y < 4294967296) : bits .or .u32 (x : Int) (y : Int) = ((x + y : Nat) : Int) := by
  rw [u32_or_nat x y h1 h2, nat_join i x y hx hy]
theorem get32_eq (x0 x1 x2 x3 : Nat) (h0 : x0 < 256) (h1 : x1 < 256) (h2 : x2 < 256) (h3 : x3 < 256) :
    bits .or .u32 (bits .or .u32 (bits .or .u32 ((x0 : Int) * 16777216) ((x1 : Int) * 65536)) ((x2 : Int) * 256)) (x3 : Int) = ((x0 * 16777216 + x1 * 65536 + x2 * 256 + x3 : Nat) : Int) := by
  have e0 : (x0 : Int) * 16777216 = ((x0 * 16777216 : Nat) : Int) := by simp
  have e1 : (x1 : Int) * 65536 = ((x1 * 65536 : Nat) : Int) := by simp
  have e2 : (x2 : Int) * 256 = ((x2 * 256 : Nat) : Int) := by simp
  rw [e0, e1, e2, or_join 24 _ _ (by omega) (by omega) (by omega) (by omega), or_join 16 _ _ (by omega) (by omega) (by omega) (by omega), or_join 8 _ _ (by omega) (by omega) (by omega) (by omega)]
set_option maxHeartbeats 800000 in
theorem get32_any (A : Option Addr) (n c : Nat) (xs : List Nat) (w : World) (hA : Rd w A xs) (hn : n = xs.length) (hb : ∀ x ∈ xs, x < 256) (h4 : 4 ≤ n) (ln : n ≤ 9223372036854775807) :
    Calls Try.prog 111 #[.slice A n c] w fun e w' => e = .returned (.tuple #[.int .u32 (val32 xs : Nat), .int .i64 0]) ∧ ∃ d, w' = w.drewN d := by
  obtain ⟨b, off, rfl, hc⟩ := hA (by intro e; rw [e] at hn; simp at hn; omega)
  obtain ⟨x0, c0, l0, e0⟩ := rd_at hc hb 0 (by omega)
  obtain ⟨x1, c1, l1, e1⟩ := rd_at hc hb 1 (by omega)
  obtain ⟨x2, c2, l2, e2⟩ := rd_at hc hb 2 (by omega)
  obtain ⟨x3, c3, l3, e3⟩ := rd_at hc hb 3 (by omega)
  rw [Nat.add_zero] at c0
  have E := hide (And.intro e0 (And.intro e1 (And.intro e2 e3)))
  clear hc e0 e1 e2 e3 hA
  have HN := hide hn
  clear hn hb
  go_enter Try.func111, Try.ntmps111
  go_wp2
  go_quiet (fail)
  go_wp2
  go_ret2
  refine ⟨?_, nq, rfl⟩
  have e := E.out
  rw [get32_eq x0 x1 x2 x3 l0 l1 l2 l3]
  unfold val32
  rw [← e.1, ← e.2.1, ← e.2.2.1, ← e.2.2.2]
  rfl
theorem val32_be (v : Nat) (hv : v < 4294967296) (more : List Nat) : val32 (be32 v ++ more) = v := by
  unfold val32 be32
  simp
  omega
theorem be32_byte (v : Nat) : ∀ x ∈ be32 v, x < 256 := by unfold be32; intro x hx; simp at hx; omega
theorem Own.form4 {w : World} {B : Nat} {v : Value} {a : Nat} (h : Own w B v (be32 a)) : ∃ A c, v = .slice A 4 c ∧ Rd w A (be32 a) ∧ (A = none → c = 0) ∧ 4 ≤ c ∧ c ≤ 9223372036854775807 := h.isB
theorem be32_len (v : Nat) : (be32 v).length = 4 := rfl
end Go.Proofs.Ytehgjkckhjggbaa
namespace Go.Proofs.Ytehgjkckhjggbaa
open Go.RowKit
def crcStep (s : Nat) : Nat := if s % 2 = 1 then s / 2 ^^^ 3988292384 else s / 2
def crcB (s : Nat) : Nat → Nat
  | 0 => s
  | k + 1 => crcStep (crcB s k)
def crcF (s : Nat) (xs : List Nat) : Nat := xs.foldl (fun s c => crcB (s ^^^ c) 8) s
def sumS (xs : List Nat) : Nat := 4294967295 - crcF 4294967295 xs
theorem xor_lt32 {a b : Nat} (ha : a < 4294967296) (hb : b < 4294967296) : a ^^^ b < 4294967296 := Nat.xor_lt_two_pow (n := 32) ha hb
theorem crcStep_lt {s : Nat} (h : s < 4294967296) : crcStep s < 4294967296 := by
  unfold crcStep
  split
  · exact xor_lt32 (by omega) (by decide)
  · omega
theorem crcB_lt {s : Nat} (h : s < 4294967296) : ∀ k, crcB s k < 4294967296
  | 0 => h
  | k + 1 => crcStep_lt (crcB_lt h k)
theorem crcF_lt {s : Nat} (h : s < 4294967296) {xs : List Nat} (hx : ∀ x ∈ xs, x < 256) : crcF s xs < 4294967296 := by
  unfold crcF
  induction xs generalizing s with
  | nil => exact h
  | cons x xs ih =>
    rw [List.foldl_cons]
    exact ih (crcB_lt (xor_lt32 h (by have := hx x (by simp); omega)) 8) (fun y hy => hx y (by simp [hy]))
theorem crcF_snoc (s : Nat) (xs : List Nat) (k : Nat) (h : k < xs.length) : crcF s (xs.take (k + 1)) = crcB (crcF s (xs.take k) ^^^ xs.getD k 0) 8 := by
  unfold crcF
  rw [List.take_succ_eq_append_getElem h, List.foldl_append]
  simp [h]
theorem sumS_known : sumS [49, 50, 51, 52, 53, 54, 55, 56, 57] = 3421780262 := by decide +kernel
theorem and_one32 (x : Nat) (hx : x < 4294967296) : bits .and .u32 (x : Int) 1 = ((x % 2 : Nat) : Int) := by
  rw [u32_and _ _ (by omega) (by omega) (by decide) (by decide)]
  have : (1 : Int).toNat = 1 := rfl
  rw [this, nat_mask1, Int.toNat_natCast]
theorem xor32 (a b : Nat) (ha : a < 4294967296) (hb : b < 4294967296) : bits .xor .u32 (a : Int) (b : Int) = ((a ^^^ b : Nat) : Int) := u32_xor_nat a b ha hb
theorem half_poly (t : Nat) (ht : t < 4294967296) (h : t % 2 = 1) : bits .xor .u32 ((t : Int) / 2) 3988292384 = (crcStep t : Nat) := by
  unfold crcStep
  rw [if_pos h, ← xor32 (t / 2) 3988292384 (by omega) (by decide)]
  simp
theorem half_none (t : Nat) (ht : t < 4294967296) (h : t % 2 = 0) : bits .xor .u32 ((t : Int) / 2) 0 = (crcStep t : Nat) := by
  unfold crcStep
  rw [if_neg (by omega)]
  have := xor32 (t / 2) 0 (by omega) (by decide)
  simpa using this
theorem not32 (a : Nat) (ha : a < 4294967296) : bits .xor .u32 IntKind.u32.max (a : Int) = ((4294967295 - a : Nat) : Int) := by
  show IntKind.u32.wrap ((BitVec.ofInt 32 IntKind.u32.max ^^^ BitVec.ofInt 32 (a : Int)).toNat : Int) = _
  have h1 : BitVec.ofInt 32 IntKind.u32.max = BitVec.allOnes 32 := by decide
  rw [h1, BitVec.allOnes_xor, BitVec.toNat_not, ofInt_u32 a (by omega), IntKind.wrap_u32]
  omega
theorem poly_none : bits .and .u32 3988292384 0 = 0 := by decide +kernel
theorem poly_all : bits .and .u32 3988292384 4294967295 = 3988292384 := by decide +kernel
set_option maxHeartbeats 400000 in
theorem sum_any (A : Option Addr) (n ca : Nat) (xs : List Nat) (w : World) (hA : Rd w A xs) (hn : n = xs.length) (hb : ∀ x ∈ xs, x < 256) (ln : n ≤ 9223372036854775807) :
    Calls Try.prog 107 #[.slice A n ca] w fun e w' => e = .returned (.int .u32 (sumS xs : Nat)) ∧ w = w' := by
  have HN := hide hn
  clear hn
  have pn := poly_none
  have pa := poly_all
  go_enter Try.func107, Try.ntmps107
  go_wp2
  go_loop [3, 8] (fun s i => ∃ k : Nat, k ≤ n ∧ i = .int .i64 (k : Int) ∧ s = .int .u32 (crcF 4294967295 (xs.take k) : Nat)) (fun _ i => n - (intOf i).toNat)
  case atStart => exact ⟨0, Nat.zero_le _, rfl, rfl⟩
  case round =>
    obtain ⟨k, hk, rfl, rfl⟩ := hrel
    have hs := crcF_lt (s := 4294967295) (by decide) (xs := xs.take k) (fun x hx => hb x (List.mem_of_mem_take hx))
    by_cases hlt : k < n
    · obtain ⟨b1, o1, rfl, c1⟩ := hA (by intro e; rw [HN.out, e] at hlt; simp at hlt)
      have k1 := c1 k (by rw [← HN.out]; exact hlt)
      have hsn := crcF_snoc 4294967295 xs k (by rw [← HN.out]; exact hlt)
      have hx : xs.getD k 0 < 256 := by
        have hl : k < xs.length := by rw [← HN.out]; exact hlt
        have : xs.getD k 0 = xs[k] := by simp [hl]
        rw [this]; exact hb _ (List.getElem_mem hl)
      obtain ⟨x, hxe⟩ : ∃ x, x = xs.getD k 0 := ⟨_, rfl⟩
      obtain ⟨s, hse⟩ : ∃ s, s = crcF 4294967295 (xs.take k) := ⟨_, rfl⟩
      rw [← hxe] at k1 hx hsn
      rw [← hse] at hs hsn ⊢
      have HSN := hide hsn
      clear hsn hxe hse c1 hA
      have hxor := xor32 s x hs (by omega)
      have hs2 := xor_lt32 hs (show x < 4294967296 by omega)
      go_wp2
      go_loop [3, 16] (fun t i => ∃ j : Nat, j ≤ 8 ∧ i = .int .i64 (j : Int) ∧ t = .int .u32 (crcB (s ^^^ x) j : Nat)) (fun _ i => 8 - (intOf i).toNat)
      case atStart => exact ⟨0, Nat.zero_le _, rfl, rfl⟩
      case round =>
        obtain ⟨j, hj, rfl, rfl⟩ := hrel
        have ht := crcB_lt hs2 j
        by_cases hj8 : j < 8
        · have hst : crcB (s ^^^ x) (j + 1) = crcStep (crcB (s ^^^ x) j) := rfl
          obtain ⟨t, hte⟩ : ∃ t, t = crcB (s ^^^ x) j := ⟨_, rfl⟩
          rw [← hte] at ht hst ⊢
          have HST := hide hst
          clear hst hte
          have h1 := and_one32 t ht
          by_cases hodd : t % 2 = 1
          · rw [hodd] at h1
            have h2 := half_poly t ht hodd
            go_wp2
            go_round
            case rel => exact ⟨j + 1, by omega, by go_num, by rw [HST.out]⟩
            case measure => simp [intOf]; omega
          · have h0 : t % 2 = 0 := by omega
            rw [h0] at h1
            have h2 := half_none t ht h0
            go_wp2
            go_round
            case rel => exact ⟨j + 1, by omega, by go_num, by rw [HST.out]⟩
            case measure => simp [intOf]; omega
        · obtain rfl : j = 8 := by omega
          go_wp2
          go_round
          case rel => exact ⟨k + 1, by omega, by go_num, by rw [HSN.out]⟩
          case measure => simp [intOf]; omega
    · go_wp2
      go_ret
      have he : xs.take k = xs := List.take_of_length_le (by rw [← HN.out]; omega)
      rw [he] at hs
      rw [he]
      exact ⟨ret_int (by unfold sumS; exact not32 _ hs), rfl⟩
end Go.Proofs.Ytehgjkckhjggbaa
