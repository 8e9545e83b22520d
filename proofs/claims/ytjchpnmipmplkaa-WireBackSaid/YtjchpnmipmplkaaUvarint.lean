/- The contracts of bits.Uvarint and of the document's own: a number as bytes of seven digits. Condition: the number has 64 digits. -/
import Derived.Test.YtjchpnmipmplkaaBytes
import Derived.Laws.Bits128
namespace Go.Proofs.Ytjchpnmipmplkaa
open Go.RowKit
def uvl (v : Nat) : List Nat := if h : v < 128 then [v] else (v % 128 + 128) :: uvl (v / 128)
theorem uvl_low {v : Nat} (h : v < 128) : uvl v = [v] := by rw [uvl, dif_pos h]
theorem uvl_high {v : Nat} (h : ¬ v < 128) : uvl v = (v % 128 + 128) :: uvl (v / 128) := by rw [uvl, dif_neg h]
theorem uvl_len (k : Nat) : ∀ v, v < 128 ^ (k + 1) → (uvl v).length ≤ k + 1 := by
  induction k with
  | zero => intro v h; rw [uvl_low (by simpa using h)]; simp
  | succ k ih =>
    intro v h
    by_cases h0 : v < 128
    · rw [uvl_low h0]; simp
    · rw [uvl_high h0, List.length_cons]
      have := ih (v / 128) (by rw [Nat.pow_succ] at h; omega)
      omega
theorem uvl_len64 (v : Nat) (h : v < 18446744073709551616) : (uvl v).length ≤ 10 := uvl_len 9 v (Nat.lt_of_lt_of_le h (by decide))
theorem uvl_byte : ∀ v, ∀ x ∈ uvl v, x < 256 := by
  intro v
  induction v using Nat.strongRecOn with
  | _ v ih =>
    by_cases h0 : v < 128
    · rw [uvl_low h0]; intro x hx; simp at hx; omega
    · rw [uvl_high h0]
      intro x hx
      rcases List.mem_cons.1 hx with rfl | hx
      · omega
      · exact ih (v / 128) (by omega) x hx
theorem or128 (y : Nat) : bits .or .u8 ((y : Int) % 256) 128 = ((y % 128 + 128 : Nat) : Int) := by
  rw [u8_or _ _ (by omega) (by omega) (by decide) (by decide)]
  have h : ((y : Int) % 256).toNat = y % 256 := by omega
  have h2 : (128 : Int).toNat = 128 := rfl
  rw [h, h2]
  have : ∀ z, z < 256 → z ||| 128 = z % 128 + 128 := by decide +kernel
  rw [this _ (Nat.mod_lt _ (by decide))]
  omega
theorem Try.info_u8 : (Try.prog.info? 5).map (fun i => (i.zero, i.size, i.bytes)) = some (some (.int .u8 0), 1, 1) := by kernel_rfl
set_option maxHeartbeats 400000 in
set_option maxRecDepth 1000000 in
theorem uvarint_any (v : Nat) (w : World) (hv : v < 18446744073709551616) :
    Calls Try.prog 19 #[.int .u64 (v : Int)] w fun e w' => ∃ s, e = .returned s ∧ Own w' w.heap.size s (uvl v) ∧ Below w.heap.size w w' := by
  obtain ⟨i0, hi, hz0, hz1, hz2⟩ := info_parts Try.info_u8
  have hlen := uvl_len64 v hv
  have HV := hide hv
  clear hv
  go_enter Try.func19, Try.ntmps19
  go_wp2
  go_loopw [0, 3] (fun x s wr => ∃ (y : Nat) (acc : List Nat), y ≤ v ∧ x = .int .u64 (y : Int) ∧ Hid (acc ++ uvl y = uvl v) ∧ Own wr w.heap.size s acc ∧ Below w.heap.size w wr) (fun x _ _ => (intOf x).toNat)
  case atStart => exact ⟨v, [], Nat.le_refl _, rfl, rfl, World.ownsRow_nil _ _ _ _, Below.refl _ _⟩
  case round =>
    obtain ⟨y, acc, hy, rfl, hs, hown, hbel⟩ := hrel
    have hal : acc.length + (uvl y).length ≤ 10 := by
      have := congrArg List.length hs.out
      rw [List.length_append] at this
      omega
    by_cases hge : y < 128
    · have hl1 : acc.length ≤ 9 := by rw [uvl_low hge] at hal; simp at hal; omega
      clear hal hlen
      unfold Own at hown
      go_wp2_with (at_builtin; go_must (refine wpList_append_own _ rfl _ _ 23 rfl w.heap.size 5 i0 (.int .u8 0) 1 1 Try.underlying23 hi hz0 hz1 hz2 rfl (by decide) _ _ _ rfl (hown.alloc _) ⟨wr.heap.size, 0, none⟩ 1 1 [.int .u8 (y : Int)] rfl rfl (one_at _ _ _) (one_cell_int _ _) (by unfold maxLen; omega) (by omega) (by have := hbel.size; simp; omega) ?_); intro s' w1 hown' hgrow _; have hbel1 := push_below hbel hbel.size hown hgrow; have hown1 := own_push hown'; clear hown' hgrow)
      go_ret
      rw [uvl_low hge] at hs
      exact ⟨_, rfl, by rw [← hs.out]; exact hown1, hbel1⟩
    · have hor := or128 y
      have hl1 : acc.length ≤ 9 := by rw [uvl_high hge] at hal; simp at hal; omega
      clear hal hlen
      unfold Own at hown
      go_wp2_with (at_builtin; go_must (refine wpList_append_own _ rfl _ _ 23 rfl w.heap.size 5 i0 (.int .u8 0) 1 1 Try.underlying23 hi hz0 hz1 hz2 rfl (by decide) _ _ _ rfl (hown.alloc _) ⟨wr.heap.size, 0, none⟩ 1 1 [.int .u8 ((y % 128 + 128 : Nat) : Int)] rfl rfl (one_at _ _ _) (one_cell_int _ _) (by unfold maxLen; omega) (by omega) (by have := hbel.size; simp; omega) ?_); intro s' w1 hown' hgrow _; have hbel1 := push_below hbel hbel.size hown hgrow; have hown1 := own_push hown'; clear hown' hgrow)
      go_roundw
      case rel => exact ⟨y / 128, acc ++ [y % 128 + 128], by omega, by go_num, by rw [uvl_high hge] at hs; rw [List.append_assoc]; exact hs, hown1, hbel1⟩
      case measure => simp [intOf]; omega
set_option maxHeartbeats 400000 in
set_option maxRecDepth 1000000 in
theorem ruvarint_any (v : Nat) (w : World) (hv : v < 18446744073709551616) :
    Calls Try.prog 34 #[.int .u64 (v : Int)] w fun e w' => ∃ s, e = .returned s ∧ Own w' w.heap.size s (uvl v) ∧ Below w.heap.size w w' := by
  obtain ⟨i0, hi, hz0, hz1, hz2⟩ := info_parts Try.info_u8
  have hlen := uvl_len64 v hv
  have HV := hide hv
  clear hv
  go_enter Try.func34, Try.ntmps34
  go_wp2
  go_loopw [0, 3] (fun x s wr => ∃ (y : Nat) (acc : List Nat), y ≤ v ∧ x = .int .u64 (y : Int) ∧ Hid (acc ++ uvl y = uvl v) ∧ Own wr w.heap.size s acc ∧ Below w.heap.size w wr) (fun x _ _ => (intOf x).toNat)
  case atStart => exact ⟨v, [], Nat.le_refl _, rfl, rfl, World.ownsRow_nil _ _ _ _, Below.refl _ _⟩
  case round =>
    obtain ⟨y, acc, hy, rfl, hs, hown, hbel⟩ := hrel
    have hal : acc.length + (uvl y).length ≤ 10 := by
      have := congrArg List.length hs.out
      rw [List.length_append] at this
      omega
    by_cases hge : y < 128
    · have hl1 : acc.length ≤ 9 := by rw [uvl_low hge] at hal; simp at hal; omega
      clear hal hlen
      unfold Own at hown
      go_wp2_with (at_builtin; go_must (refine wpList_append_own _ rfl _ _ 23 rfl w.heap.size 5 i0 (.int .u8 0) 1 1 Try.underlying23 hi hz0 hz1 hz2 rfl (by decide) _ _ _ rfl (hown.alloc _) ⟨wr.heap.size, 0, none⟩ 1 1 [.int .u8 (y : Int)] rfl rfl (one_at _ _ _) (one_cell_int _ _) (by unfold maxLen; omega) (by omega) (by have := hbel.size; simp; omega) ?_); intro s' w1 hown' hgrow _; have hbel1 := push_below hbel hbel.size hown hgrow; have hown1 := own_push hown'; clear hown' hgrow)
      go_ret
      rw [uvl_low hge] at hs
      exact ⟨_, rfl, by rw [← hs.out]; exact hown1, hbel1⟩
    · have hor := or128 y
      have hqw : IntKind.u64.wrap ((y : Int) / 128) = (y : Int) / 128 := by rw [IntKind.wrap_u64]; have := HV.out; omega
      have hl1 : acc.length ≤ 9 := by rw [uvl_high hge] at hal; simp at hal; omega
      clear hal hlen
      unfold Own at hown
      go_wp2_with (at_builtin; go_must (refine wpList_append_own _ rfl _ _ 23 rfl w.heap.size 5 i0 (.int .u8 0) 1 1 Try.underlying23 hi hz0 hz1 hz2 rfl (by decide) _ _ _ rfl (hown.alloc _) ⟨wr.heap.size, 0, none⟩ 1 1 [.int .u8 ((y % 128 + 128 : Nat) : Int)] rfl rfl (one_at _ _ _) (one_cell_int _ _) (by unfold maxLen; omega) (by omega) (by have := hbel.size; simp; omega) ?_); intro s' w1 hown' hgrow _; have hbel1 := push_below hbel hbel.size hown hgrow; have hown1 := own_push hown'; clear hown' hgrow)
      go_roundw
      case rel => exact ⟨y / 128, acc ++ [y % 128 + 128], by omega, by go_num, by rw [uvl_high hge] at hs; rw [List.append_assoc]; exact hs, hown1, hbel1⟩
      case measure => simp [intOf]; omega
end Go.Proofs.Ytjchpnmipmplkaa
