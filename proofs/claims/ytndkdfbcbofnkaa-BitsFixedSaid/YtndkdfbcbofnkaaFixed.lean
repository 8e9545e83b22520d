/- The contracts of bits.Put32, Put64, Get32, Get64 and of the document's own: four and eight bytes, the highest first. Conditions: the widths. -/
import Derived.Test.YtndkdfbcbofnkaaApp
namespace Go.Proofs.Ytndkdfbcbofnkaa
open Go.RowKit
def be32 (v : Nat) : List Nat := [v / 16777216 % 256, v / 65536 % 256, v / 256 % 256, v % 256]
def be64 (v : Nat) : List Nat := be32 (v / 4294967296) ++ be32 (v % 4294967296)
theorem own_lit (w : World) (cs : Array Value) (xs : List Nat) (h : cs.toList = xs.map fun x : Nat => Value.int .u8 (x : Int)) (hl : xs.length ≤ 140737488355328) :
    Own (w.alloc (.cells cs 5)) w.heap.size (.slice (some ⟨w.heap.size, 0, none⟩) xs.length xs.length) xs := by
  have hs : cs.size = xs.length := by rw [← Array.length_toList, h]; simp
  have := World.ownsRow_lit (base := w.heap.size) (e := 5) (size := 1) w cs xs.length (Nat.le_refl _) (by unfold maxLen; omega) (by omega)
  rw [h] at this
  exact this
theorem own_be32 (w : World) (v : Nat) (hv : v < 4294967296) :
    Own (w.alloc (.cells #[.int .u8 ((v : Int) / 16777216), .int .u8 ((v : Int) / 65536 % 256), .int .u8 ((v : Int) / 256 % 256), .int .u8 ((v : Int) % 256)] 5)) w.heap.size (.slice (some ⟨w.heap.size, 0, none⟩) 4 4) (be32 v) := by
  refine own_lit w _ (be32 v) ?_ (by unfold be32; simp)
  unfold be32
  simp
  omega
set_option maxHeartbeats 400000 in
theorem put32_any (x : Int) (v : Nat) (hx : x = (v : Int)) (w : World) (hv : v < 4294967296) :
    Calls Try.prog 24 #[.int .u32 x] w fun e w' => ∃ s, e = .returned s ∧ Own w' w.heap.size s (be32 v) ∧ Below w.heap.size w w' := by
  subst hx
  go_enter Try.func24, Try.ntmps24
  go_wp2
  go_ret
  exact ⟨_, rfl, own_be32 w v hv, (Below.refl _ _).alloc (Nat.le_refl _) _⟩
set_option maxHeartbeats 400000 in
theorem rput32_any (x : Int) (v : Nat) (hx : x = (v : Int)) (w : World) (hv : v < 4294967296) :
    Calls Try.prog 26 #[.int .u32 x] w fun e w' => ∃ s, e = .returned s ∧ Own w' w.heap.size s (be32 v) ∧ Below w.heap.size w w' := by
  subst hx
  go_enter Try.func26, Try.ntmps26
  go_wp2
  go_ret
  exact ⟨_, rfl, own_be32 w v hv, (Below.refl _ _).alloc (Nat.le_refl _) _⟩
set_option maxHeartbeats 400000 in
theorem put64_any (v : Nat) (w : World) (hv : v < 18446744073709551616) :
    Calls Try.prog 25 #[.int .u64 (v : Int)] w fun e w' => ∃ s, e = .returned s ∧ Own w' w.heap.size s (be64 v) ∧ Below w.heap.size w w' := by
  have HV := hide hv
  have hq : IntKind.u32.wrap ((v : Int) / 4294967296) = (v : Int) / 4294967296 := by rw [IntKind.wrap_u32]; omega
  clear hv
  go_enter Try.func25, Try.ntmps25
  go_wp2_with fail
  refine (put32_any _ (v / 4294967296) (by omega) _ (by have := HV.out; omega)).mono ?_
  rintro e w1 ⟨s1, rfl, o1, b1⟩
  go_wp2_with fail
  refine (put32_any _ (v % 4294967296) (by omega) _ (by omega)).mono ?_
  rintro e w2 ⟨s2, rfl, o2, b2⟩
  have o1' := o1.keep b2
  have hl1 : (be32 (v / 4294967296)).length = 4 := rfl
  have hl2 : (be32 (v % 4294967296)).length = 4 := rfl
  have L := hide (And.intro hl1 hl2)
  clear hl1 hl2
  go_wp2_with (at_builtin; refine halt ?_)
  refine ⟨?_⟩
  refine wpList_append_bytes rfl (.tmp 6) (.tmp 9) rfl w.heap.size s1 _ rfl o1' s2 _ rfl o2.isB (by rw [L.out.1, L.out.2]; decide) (Nat.le_trans b1.size b2.size) ?_
  intro s3 w3 o3 b3
  go_wp2_with fail
  go_ret
  exact ⟨_, rfl, o3, (b1.trans (b2.mono b1.size)).trans b3⟩
set_option maxHeartbeats 400000 in
theorem rput64_any (v : Nat) (w : World) (hv : v < 18446744073709551616) :
    Calls Try.prog 27 #[.int .u64 (v : Int)] w fun e w' => ∃ s, e = .returned s ∧ Own w' w.heap.size s (be64 v) ∧ Below w.heap.size w w' := by
  have HV := hide hv
  have hq : IntKind.u32.wrap ((v : Int) / 4294967296) = (v : Int) / 4294967296 := by rw [IntKind.wrap_u32]; omega
  clear hv
  go_enter Try.func27, Try.ntmps27
  go_wp2_with fail
  refine (rput32_any _ (v / 4294967296) (by omega) _ (by have := HV.out; omega)).mono ?_
  rintro e w1 ⟨s1, rfl, o1, b1⟩
  go_wp2_with fail
  refine (rput32_any _ (v % 4294967296) (by omega) _ (by omega)).mono ?_
  rintro e w2 ⟨s2, rfl, o2, b2⟩
  have o1' := o1.keep b2
  have hl1 : (be32 (v / 4294967296)).length = 4 := rfl
  have hl2 : (be32 (v % 4294967296)).length = 4 := rfl
  have L := hide (And.intro hl1 hl2)
  clear hl1 hl2
  go_wp2_with (at_builtin; refine halt ?_)
  refine ⟨?_⟩
  refine wpList_append_bytes rfl (.tmp 6) (.tmp 9) rfl w.heap.size s1 _ rfl o1' s2 _ rfl o2.isB (by rw [L.out.1, L.out.2]; decide) (Nat.le_trans b1.size b2.size) ?_
  intro s3 w3 o3 b3
  go_wp2_with fail
  go_ret
  exact ⟨_, rfl, o3, (b1.trans (b2.mono b1.size)).trans b3⟩
def val32 (xs : List Nat) : Nat := xs.getD 0 0 * 16777216 + xs.getD 1 0 * 65536 + xs.getD 2 0 * 256 + xs.getD 3 0
set_option maxHeartbeats 400000 in
theorem get32_short (A : Option Addr) (n c : Nat) (w : World) (hn : n < 4) :
    Calls Try.prog 28 #[.slice A n c] w fun e w' => e = .returned (.tuple #[.int .u32 0, .int .i64 2]) ∧ w = w' := by
  go_enter Try.func28, Try.ntmps28
  go_wp2
  go_ret2
  exact ⟨rfl, rfl⟩
theorem rd_at {w : World} {b off : Nat} {xs : List Nat} (h : ∀ i, i < xs.length → w.cell? ⟨b, off + i, none⟩ = some (.int .u8 ((xs.getD i 0 : Nat) : Int))) (hb : ∀ x ∈ xs, x < 256) (i : Nat) (hi : i < xs.length) :
    ∃ x : Nat, w.cell? ⟨b, off + i, none⟩ = some (.int .u8 (x : Int)) ∧ x < 256 ∧ x = xs.getD i 0 := by
  refine ⟨_, h i hi, ?_, rfl⟩
  have e : xs.getD i 0 = xs[i] := by simp [hi]
  rw [e]
  exact hb _ (List.getElem_mem hi)
theorem or_join (i x y : Nat) (hx : x % 2 ^ i = 0) (hy : y < 2 ^ i) (h1 : x < 4294967296) (h2 : y < 4294967296) : bits .or .u32 (x : Int) (y : Int) = ((x + y : Nat) : Int) := by
  rw [u32_or_nat x y h1 h2, nat_join i x y hx hy]
theorem get32_eq (x0 x1 x2 x3 : Nat) (h0 : x0 < 256) (h1 : x1 < 256) (h2 : x2 < 256) (h3 : x3 < 256) :
    bits .or .u32 (bits .or .u32 (bits .or .u32 ((x0 : Int) * 16777216) ((x1 : Int) * 65536)) ((x2 : Int) * 256)) (x3 : Int) = ((x0 * 16777216 + x1 * 65536 + x2 * 256 + x3 : Nat) : Int) := by
  have e0 : (x0 : Int) * 16777216 = ((x0 * 16777216 : Nat) : Int) := by simp
  have e1 : (x1 : Int) * 65536 = ((x1 * 65536 : Nat) : Int) := by simp
  have e2 : (x2 : Int) * 256 = ((x2 * 256 : Nat) : Int) := by simp
  rw [e0, e1, e2, or_join 24 _ _ (by omega) (by omega) (by omega) (by omega), or_join 16 _ _ (by omega) (by omega) (by omega) (by omega), or_join 8 _ _ (by omega) (by omega) (by omega) (by omega)]
set_option maxHeartbeats 800000 in
theorem get32_any (A : Option Addr) (n c : Nat) (xs : List Nat) (w : World) (hA : Rd w A xs) (hn : n = xs.length) (hb : ∀ x ∈ xs, x < 256) (h4 : 4 ≤ n) (ln : n ≤ 9223372036854775807) :
    Calls Try.prog 28 #[.slice A n c] w fun e w' => e = .returned (.tuple #[.int .u32 (val32 xs : Nat), .int .i64 0]) ∧ ∃ d, w' = w.drewN d := by
  obtain ⟨b, off, rfl, hc⟩ := hA (by intro e; rw [e] at hn; simp at hn; omega)
  obtain ⟨x0, c0, l0, e0⟩ := rd_at hc hb 0 (by omega)
  obtain ⟨x1, c1, l1, e1⟩ := rd_at hc hb 1 (by omega)
  obtain ⟨x2, c2, l2, e2⟩ := rd_at hc hb 2 (by omega)
  obtain ⟨x3, c3, l3, e3⟩ := rd_at hc hb 3 (by omega)
  rw [Nat.add_zero] at c0
  have E := hide (And.intro e0 (And.intro e1 (And.intro e2 e3)))
  clear hc e0 e1 e2 e3 hA
  have HN := hide hn
  clear hn hb
  go_enter Try.func28, Try.ntmps28
  go_wp2
  go_quiet (fail)
  go_wp2
  go_ret2
  refine ⟨?_, nq, rfl⟩
  have e := E.out
  rw [get32_eq x0 x1 x2 x3 l0 l1 l2 l3]
  unfold val32
  rw [← e.1, ← e.2.1, ← e.2.2.1, ← e.2.2.2]
  rfl
def foldV (xs : List Nat) : Nat := xs.foldl (fun v c => v * 256 + c) 0
theorem foldV_snoc (xs : List Nat) (k : Nat) (h : k < xs.length) : foldV (xs.take (k + 1)) = foldV (xs.take k) * 256 + xs.getD k 0 := by
  unfold foldV
  rw [List.take_succ_eq_append_getElem h, List.foldl_append]
  simp [h]
theorem foldV_lt (xs : List Nat) (hb : ∀ x ∈ xs, x < 256) : ∀ k, k ≤ xs.length → foldV (xs.take k) < 256 ^ k := by
  intro k
  induction k with
  | zero => intro _; simp [foldV]
  | succ k ih =>
    intro h
    rw [foldV_snoc xs k (by omega)]
    have h1 := ih (by omega)
    have h2 : xs.getD k 0 < 256 := by
      have e : xs.getD k 0 = xs[k] := by simp [show k < xs.length by omega]
      rw [e]; exact hb _ (List.getElem_mem _)
    rw [Nat.pow_succ]
    omega
theorem or64 (v x : Nat) (hv : v < 72057594037927936) (hx : x < 256) : bits .or .u64 ((v : Int) * 256) (x : Int) = ((v * 256 + x : Nat) : Int) := by
  have e0 : (v : Int) * 256 = ((v * 256 : Nat) : Int) := by simp
  rw [e0, u64_or_nat _ _ (by omega) (by omega), nat_join 8 _ _ (by omega) (by omega)]
set_option maxHeartbeats 400000 in
theorem get64_short (A : Option Addr) (n c : Nat) (w : World) (hn : n < 8) :
    Calls Try.prog 29 #[.slice A n c] w fun e w' => e = .returned (.tuple #[.int .u64 0, .int .i64 2]) ∧ w = w' := by
  go_enter Try.func29, Try.ntmps29
  go_wp2
  go_ret2
  exact ⟨rfl, rfl⟩
set_option maxHeartbeats 800000 in
theorem get64_any (A : Option Addr) (n c : Nat) (xs : List Nat) (w : World) (hA : Rd w A xs) (hn : n = xs.length) (hb : ∀ x ∈ xs, x < 256) (h8 : 8 ≤ n) (hc : n ≤ c) (lc : c ≤ 9223372036854775807) :
    Calls Try.prog 29 #[.slice A n c] w fun e w' => e = .returned (.tuple #[.int .u64 (foldV (xs.take 8) : Nat), .int .i64 0]) ∧ w = w' := by
  obtain ⟨b, off, rfl, hcell⟩ := hA (by intro e; rw [e] at hn; simp at hn; omega)
  have HN := hide hn
  have HB := hide hb
  have HC := hide hcell
  clear hn hb hcell hA
  go_enter Try.func29, Try.ntmps29
  go_wp2
  go_loop [4, 13] (fun v i => ∃ k : Nat, k ≤ 8 ∧ i = .int .i64 (k : Int) ∧ v = .int .u64 (foldV (xs.take k) : Nat)) (fun _ i => 8 - (intOf i).toNat)
  case atStart => exact ⟨0, by omega, rfl, rfl⟩
  case round =>
    obtain ⟨k, hk, rfl, rfl⟩ := hrel
    by_cases hlt : k < 8
    · obtain ⟨x, cx, lx, ex⟩ := rd_at HC.out HB.out k (by have := HN.out; omega)
      have hs := foldV_snoc xs k (by have := HN.out; omega)
      have hv : foldV (xs.take k) < 72057594037927936 := Nat.lt_of_lt_of_le (foldV_lt xs HB.out k (by have := HN.out; omega)) (by
        have : 256 ^ k ≤ 256 ^ 7 := Nat.pow_le_pow_right (by decide) (by omega)
        exact this)
      obtain ⟨v, hve⟩ : ∃ v, v = foldV (xs.take k) := ⟨_, rfl⟩
      rw [← hve] at hs hv ⊢
      rw [← ex] at hs
      have HS := hide hs
      have EX := hide ex
      clear hs ex hve
      have ho := or64 v x hv lx
      go_wp2
      go_round
      case rel => exact ⟨k + 1, by omega, by go_num, by rw [HS.out]; go_num⟩
      case measure => simp [intOf]; omega
    · obtain rfl : k = 8 := by omega
      go_wp2
      go_ret2
      exact ⟨rfl, rfl⟩
theorem val32_be (v : Nat) (hv : v < 4294967296) (more : List Nat) : val32 (be32 v ++ more) = v := by
  unfold val32 be32
  simp
  omega
theorem val64_be (v : Nat) (hv : v < 18446744073709551616) (more : List Nat) : foldV ((be64 v ++ more).take 8) = v := by
  unfold be64 be32 foldV
  simp
  omega
theorem be32_byte (v : Nat) : ∀ x ∈ be32 v, x < 256 := by unfold be32; intro x hx; simp at hx; omega
theorem be64_byte (v : Nat) : ∀ x ∈ be64 v, x < 256 := by
  unfold be64; intro x hx
  rcases List.mem_append.1 hx with h | h
  · exact be32_byte _ x h
  · exact be32_byte _ x h
theorem Own.form4 {w : World} {B : Nat} {v : Value} {a : Nat} (h : Own w B v (be32 a)) : ∃ A c, v = .slice A 4 c ∧ Rd w A (be32 a) ∧ (A = none → c = 0) ∧ 4 ≤ c ∧ c ≤ 9223372036854775807 := h.isB
theorem Own.form8 {w : World} {B : Nat} {v : Value} {a : Nat} (h : Own w B v (be64 a)) : ∃ A c, v = .slice A 8 c ∧ Rd w A (be64 a) ∧ (A = none → c = 0) ∧ 8 ≤ c ∧ c ≤ 9223372036854775807 := h.isB
theorem be64_len (v : Nat) : (be64 v).length = 8 := rfl
theorem be32_len (v : Nat) : (be32 v).length = 4 := rfl
end Go.Proofs.Ytndkdfbcbofnkaa
