/- Eight bytes, the highest first: the contracts of bits.Put64 and bits.Get64. Conditions: the widths. -/
import Derived.Test.YtkgkhielfodmmaaFixA
namespace Go.Proofs.Ytkgkhielfodmmaa
open Go.RowKit
def be64 (v : Nat) : List Nat := be32 (v / 4294967296) ++ be32 (v % 4294967296)
set_option maxHeartbeats 400000 in
theorem put64_any (v : Nat) (w : World) (hv : v < 18446744073709551616) :
    Calls Try.prog 30 #[.int .u64 (v : Int)] w fun e w' => ∃ s, e = .returned s ∧ Own w' w.heap.size s (be64 v) ∧ Below w.heap.size w w' := by
  have HV := hide hv
  have hq : IntKind.u32.wrap ((v : Int) / 4294967296) = (v : Int) / 4294967296 := by rw [IntKind.wrap_u32]; omega
  clear hv
  go_enter Try.func30, Try.ntmps30
  go_wp2_with fail
  refine (put32_any _ (v / 4294967296) (by omega) _ (by have := HV.out; omega)).mono ?_
  rintro e w1 ⟨s1, rfl, o1, b1⟩
  go_wp2_with fail
  refine (put32_any _ (v % 4294967296) (by omega) _ (by omega)).mono ?_
  rintro e w2 ⟨s2, rfl, o2, b2⟩
  have o1' := o1.keep b2
  have hl1 : (be32 (v / 4294967296)).length = 4 := rfl
  have hl2 : (be32 (v % 4294967296)).length = 4 := rfl
  have L := hide (And.intro hl1 hl2)
  clear hl1 hl2
  go_wp2_with (at_builtin; refine halt ?_)
  refine ⟨?_⟩
  refine wpList_append_bytes rfl (.tmp 6) (.tmp 9) rfl w.heap.size s1 _ rfl o1' s2 _ rfl o2.isB (by rw [L.out.1, L.out.2]; decide) (Nat.le_trans b1.size b2.size) ?_
  intro s3 w3 o3 b3
  go_wp2_with fail
  go_ret
  exact ⟨_, rfl, o3, (b1.trans (b2.mono b1.size)).trans b3⟩
def foldV (xs : List Nat) : Nat := xs.foldl (fun v c => v * 256 + c) 0
theorem foldV_snoc (xs : List Nat) (k : Nat) (h : k < xs.length) : foldV (xs.take (k + 1)) = foldV (xs.take k) * 256 + xs.getD k 0 := by
  unfold foldV
  rw [List.take_succ_eq_append_getElem h, List.foldl_append]
  simp [h]
theorem foldV_lt (xs : List Nat) (hb : ∀ x ∈ xs, x < 256) : ∀ k, k ≤ xs.length → foldV (xs.take k) < 256 ^ k := by
  intro k
  induction k with
  | zero => intro _; simp [foldV]
  | succ k ih =>
    intro h
    rw [foldV_snoc xs k (by omega)]
    have h1 := ih (by omega)
    have h2 : xs.getD k 0 < 256 := by
      have e : xs.getD k 0 = xs[k] := by simp [show k < xs.length by omega]
      rw [e]; exact hb _ (List.getElem_mem _)
    rw [Nat.pow_succ]
    omega
theorem or64 (v x : Nat) (hv : v < 72057594037927936) (hx : x < 256) : bits .or .u64 ((v : Int) * 256) (x : Int) = ((v * 256 + x : Nat) : Int) := by
  have e0 : (v : Int) * 256 = ((v * 256 : Nat) : Int) := by simp
  rw [e0, u64_or_nat _ _ (by omega) (by omega), nat_join 8 _ _ (by omega) (by omega)]
set_option maxHeartbeats 800000 in
theorem get64_any (A : Option Addr) (n c : Nat) (xs : List Nat) (w : World) (hA : Rd w A xs) (hn : n = xs.length) (hb : ∀ x ∈ xs, x < 256) (h8 : 8 ≤ n) (hc : n ≤ c) (lc : c ≤ 9223372036854775807) :
    Calls Try.prog 35 #[.slice A n c] w fun e w' => e = .returned (.tuple #[.int .u64 (foldV (xs.take 8) : Nat), .int .i64 0]) ∧ w = w' := by
  obtain ⟨b, off, rfl, hcell⟩ := hA (by intro e; rw [e] at hn; simp at hn; omega)
  have HN := hide hn
  have HB := hide hb
  have HC := hide hcell
  clear hn hb hcell hA
  go_enter Try.func35, Try.ntmps35
  go_wp2
  go_loop [4, 13] (fun v i => ∃ k : Nat, k ≤ 8 ∧ i = .int .i64 (k : Int) ∧ v = .int .u64 (foldV (xs.take k) : Nat)) (fun _ i => 8 - (intOf i).toNat)
  case atStart => exact ⟨0, by omega, rfl, rfl⟩
  case round =>
    obtain ⟨k, hk, rfl, rfl⟩ := hrel
    by_cases hlt : k < 8
    · obtain ⟨x, cx, lx, ex⟩ := rd_at HC.out HB.out k (by have := HN.out; omega)
      have hs := foldV_snoc xs k (by have := HN.out; omega)
      have hv : foldV (xs.take k) < 72057594037927936 := Nat.lt_of_lt_of_le (foldV_lt xs HB.out k (by have := HN.out; omega)) (by
        have : 256 ^ k ≤ 256 ^ 7 := Nat.pow_le_pow_right (by decide) (by omega)
        exact this)
      obtain ⟨v, hve⟩ : ∃ v, v = foldV (xs.take k) := ⟨_, rfl⟩
      rw [← hve] at hs hv ⊢
      rw [← ex] at hs
      have HS := hide hs
      have EX := hide ex
      clear hs ex hve
      have ho := or64 v x hv lx
      go_wp2
      go_round
      case rel => exact ⟨k + 1, by omega, by go_num, by rw [HS.out]; go_num⟩
      case measure => simp [intOf]; omega
    · obtain rfl : k = 8 := by omega
      go_wp2
      go_ret2
      exact ⟨rfl, rfl⟩
theorem val64_be (v : Nat) (hv : v < 18446744073709551616) (more : List Nat) : foldV ((be64 v ++ more).take 8) = v := by
  unfold be64 be32 foldV
  simp
  omega
theorem be64_byte (v : Nat) : ∀ x ∈ be64 v, x < 256 := by
  unfold be64; intro x hx
  rcases List.mem_append.1 hx with h | h
  · exact be32_byte _ x h
  · exact be32_byte _ x h
theorem Own.form8 {w : World} {B : Nat} {v : Value} {a : Nat} (h : Own w B v (be64 a)) : ∃ A c, v = .slice A 8 c ∧ Rd w A (be64 a) ∧ (A = none → c = 0) ∧ 8 ≤ c ∧ c ≤ 9223372036854775807 := h.isB
theorem be64_len (v : Nat) : (be64 v).length = 8 := rfl
end Go.Proofs.Ytkgkhielfodmmaa
