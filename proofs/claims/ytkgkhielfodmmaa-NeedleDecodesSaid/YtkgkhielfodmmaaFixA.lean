/- Four bytes, the highest first: the contracts of bits.Put32 and bits.Get32. Conditions: the widths. -/
import Derived.Test.YtkgkhielfodmmaaApp
namespace Go.Proofs.Ytkgkhielfodmmaa
open Go.RowKit
def be32 (v : Nat) : List Nat := [v / 16777216 % 256, v / 65536 % 256, v / 256 % 256, v % 256]
theorem own_be32 (w : World) (v : Nat) (hv : v < 4294967296) :
    Own (w.alloc (.cells #[.int .u8 ((v : Int) / 16777216), .int .u8 ((v : Int) / 65536 % 256), .int .u8 ((v : Int) / 256 % 256), .int .u8 ((v : Int) % 256)] 5)) w.heap.size (.slice (some ⟨w.heap.size, 0, none⟩) 4 4) (be32 v) := by
  refine own_lit w _ (be32 v) ?_ (by unfold be32; simp)
  unfold be32
  simp
  omega
set_option maxHeartbeats 400000 in
theorem put32_any (x : Int) (v : Nat) (hx : x = (v : Int)) (w : World) (hv : v < 4294967296) :
    Calls Try.prog 31 #[.int .u32 x] w fun e w' => ∃ s, e = .returned s ∧ Own w' w.heap.size s (be32 v) ∧ Below w.heap.size w w' := by
  subst hx
  go_enter Try.func31, Try.ntmps31
  go_wp2
  go_ret
  exact ⟨_, rfl, own_be32 w v hv, (Below.refl _ _).alloc (Nat.le_refl _) _⟩
def val32 (xs : List Nat) : Nat := xs.getD 0 0 * 16777216 + xs.getD 1 0 * 65536 + xs.getD 2 0 * 256 + xs.getD 3 0
set_option maxHeartbeats 400000 in
theorem get32_short (A : Option Addr) (n c : Nat) (w : World) (hn : n < 4) :
    Calls Try.prog 36 #[.slice A n c] w fun e w' => e = .returned (.tuple #[.int .u32 0, .int .i64 2]) ∧ w = w' := by
  go_enter Try.func36, Try.ntmps36
  go_wp2
  go_ret2
  exact ⟨rfl, rfl⟩
theorem or_join (i x y : Nat) (hx : x % 2 ^ i = 0) (hy : y < 2 ^ i) (h1 : x < 4294967296) (h2 : y < 4294967296) : bits .or .u32 (x : Int) (y : Int) = ((x + y : Nat) : Int) := by
  rw [u32_or_nat x y h1 h2, nat_join i x y hx hy]
theorem get32_eq (x0 x1 x2 x3 : Nat) (h0 : x0 < 256) (h1 : x1 < 256) (h2 : x2 < 256) (h3 : x3 < 256) :
    bits .or .u32 (bits .or .u32 (bits .or .u32 ((x0 : Int) * 16777216) ((x1 : Int) * 65536)) ((x2 : Int) * 256)) (x3 : Int) = ((x0 * 16777216 + x1 * 65536 + x2 * 256 + x3 : Nat) : Int) := by
  have e0 : (x0 : Int) * 16777216 = ((x0 * 16777216 : Nat) : Int) := by simp
  have e1 : (x1 : Int) * 65536 = ((x1 * 65536 : Nat) : Int) := by simp
  have e2 : (x2 : Int) * 256 = ((x2 * 256 : Nat) : Int) := by simp
  rw [e0, e1, e2, or_join 24 _ _ (by omega) (by omega) (by omega) (by omega), or_join 16 _ _ (by omega) (by omega) (by omega) (by omega), or_join 8 _ _ (by omega) (by omega) (by omega) (by omega)]
set_option maxHeartbeats 800000 in
theorem get32_any (A : Option Addr) (n c : Nat) (xs : List Nat) (w : World) (hA : Rd w A xs) (hn : n = xs.length) (hb : ∀ x ∈ xs, x < 256) (h4 : 4 ≤ n) (ln : n ≤ 9223372036854775807) :
    Calls Try.prog 36 #[.slice A n c] w fun e w' => e = .returned (.tuple #[.int .u32 (val32 xs : Nat), .int .i64 0]) ∧ ∃ d, w' = w.drewN d := by
  obtain ⟨b, off, rfl, hc⟩ := hA (by intro e; rw [e] at hn; simp at hn; omega)
  obtain ⟨x0, c0, l0, e0⟩ := rd_at hc hb 0 (by omega)
  obtain ⟨x1, c1, l1, e1⟩ := rd_at hc hb 1 (by omega)
  obtain ⟨x2, c2, l2, e2⟩ := rd_at hc hb 2 (by omega)
  obtain ⟨x3, c3, l3, e3⟩ := rd_at hc hb 3 (by omega)
  rw [Nat.add_zero] at c0
  have E := hide (And.intro e0 (And.intro e1 (And.intro e2 e3)))
  clear hc e0 e1 e2 e3 hA
  have HN := hide hn
  clear hn hb
  go_enter Try.func36, Try.ntmps36
  go_wp2
  go_quiet (fail)
  go_wp2
  go_ret2
  refine ⟨?_, nq, rfl⟩
  have e := E.out
  rw [get32_eq x0 x1 x2 x3 l0 l1 l2 l3]
  unfold val32
  rw [← e.1, ← e.2.1, ← e.2.2.1, ← e.2.2.2]
  rfl
theorem val32_be (v : Nat) (hv : v < 4294967296) (more : List Nat) : val32 (be32 v ++ more) = v := by
  unfold val32 be32
  simp
  omega
theorem be32_byte (v : Nat) : ∀ x ∈ be32 v, x < 256 := by unfold be32; intro x hx; simp at hx; omega
theorem Own.form4 {w : World} {B : Nat} {v : Value} {a : Nat} (h : Own w B v (be32 a)) : ∃ A c, v = .slice A 4 c ∧ Rd w A (be32 a) ∧ (A = none → c = 0) ∧ 4 ≤ c ∧ c ≤ 9223372036854775807 := h.isB
theorem be32_len (v : Nat) : (be32 v).length = 4 := rfl
end Go.Proofs.Ytkgkhielfodmmaa
