/- append(own bytes, make([]byte, m)...): noughts behind bytes of the call's own. Condition: at most 2 to the 40 bytes in all. -/
import Derived.Test.YtehgjkckhjggbaaSp5
import Derived.Lib.AppendZeros
import Derived.Laws.CopyOwn
namespace Go.Proofs.Ytehgjkckhjggbaa
open Go.RowKit
theorem zeros_list (m : Nat) : (Builtin.zeroCells (Value.int .u8 0).cells m).toList = List.replicate m (Value.int .u8 0) := by
  apply List.ext_getElem
  · simp [Builtin.zeroCells, Value.cells]
  · intro i h1 h2
    simp [Builtin.zeroCells, Value.cells, Nat.mod_one]
theorem run_zeros (ty : TypeId) {w : World} {B : Nat} {v : Value} {xs : List Nat} (hown : Own w B v xs) (m : Nat) (hlen : xs.length + m ≤ 1099511627776) (hbase : B ≤ w.heap.size) :
    ∃ v' w', (Builtin.append_ #[23, 3] ty #[v, .int .i64 (m : Int)]).run Try.prog w = .ok v' w' ∧ Own w' B v' (xs ++ List.replicate m 0) ∧ Below B w w' := by
  obtain ⟨i0, hi, hz0, hz1, hz2⟩ := info_parts Try.info_u8'
  have ht := Try.underlying23
  have htn := Try.underlying3
  have hw : IntKind.i64.wrap (m : Int) = m := by rw [IntKind.wrap_i64]; omega
  have hneg : ¬ ((m : Int) < 0) := by omega
  have hw0 : IntKind.i64.wrap 0 = 0 := by rw [IntKind.wrap_i64]; omega
  have h48i : ¬ (281474976710656 < (m : Int) * (i0.bytes : Int)) := by rw [hz2]; omega
  unfold Own at hown
  obtain ⟨hl, hc⟩ := hown
  rcases hc with ⟨rfl, h0⟩ | ⟨g, cap, cur, rfl, hB, hg, hn, hm, hsz, htake⟩
  · have hx : xs = [] := List.eq_nil_of_length_eq_zero h0
    subst hx
    by_cases hm0 : m = 0
    · subst hm0
      refine ⟨.slice none 0 0, w, ?_, World.ownsRow_nil _ _ _ _, Below.refl _ _⟩
      simp [Builtin.append_, run_underlying ht, run_underlying htn, sizeOf, typeInfo, zeroValue, hi, hz0, asInt, asIntOf, hw0]
    · have hr := Lib.run_append_nil_zeros (P := Try.prog) w 23 3 ty 5 i0 (.int .u8 0) .i64 .i64 ht htn hi hz0 m (by omega) (by omega) (by omega) (by rw [hz2]; simp only [List.length_nil] at hlen; omega)
      have hge := grownCap_ge w m 0 5
      have hle := grownCap_le_maxLen w m 0 5 (by unfold maxLen; simp only [List.length_nil] at hlen; omega)
      refine ⟨_, _, hr, ?_, ((Below.refl _ _).drew).alloc hbase _⟩
      unfold Own
      refine ⟨by simp, .inr ⟨_, _, _, by simp, hbase, heap_alloc_new _ _, by simpa using hge, hle, ?_, ?_⟩⟩
      · simp [Array.size_append, size_zeroCells, Value.cells]
        omega
      · rw [Array.toList_append, zeros_list]
        simp
  · by_cases hroom : xs.length + m ≤ cap
    · have hst := run_storeCells_at Try.prog g (xs.length * 1) 5 (List.replicate m (Value.int .u8 0)) 0 cur w hg (by rw [List.length_replicate]; omega) (fun u hu => by rw [(List.mem_replicate.1 hu).2]; rfl)
      simp only [Nat.add_zero] at hst
      refine ⟨.slice (some ⟨g, 0, none⟩) (xs.length + m) cap, w.setRow g (cur.toList.take (xs.length * 1) ++ List.replicate m (Value.int .u8 0) ++ cur.toList.drop (xs.length * 1 + (List.replicate m (Value.int .u8 0)).length)).toArray, ?_, ?_, below_setRow (Below.refl _ _) hB _⟩
      · by_cases hm0 : m = 0
        · subst hm0
          simp at hst
          simp [Builtin.append_, run_underlying ht, run_underlying htn, sizeOf, typeInfo, zeroValue, hi, hz0, hz1, asInt, asIntOf, hw0, Addr.add_lit, hst]
          intro h
          omega
        · have hns : ¬ (m * i0.size = 0) := by rw [hz1]; omega
          simp [Builtin.append_, run_underlying ht, run_underlying htn, sizeOf, typeInfo, zeroValue, hi, hz0, hz1, asInt, asIntOf, hw, hneg, h48i, hroom, hm0, Addr.add_lit, zeros_list]
          simp at hst
          rw [hst]
          simp
      · have hlt : (cur.toList.take (xs.length * 1)).length = xs.length := by rw [htake]; simp
        have hcl : cur.toList.length = cap := by simpa using hsz
        unfold Own
        refine ⟨by simp, .inr ⟨g, cap, _, by simp, hB, setRow_heap w g cur _ _ _ hg, by simpa using hroom, hm, ?_, ?_⟩⟩
        · simp only [List.size_toArray, List.length_append, List.length_replicate, List.length_drop, hlt, hcl]
          omega
        · rw [htake]
          have e : ((xs ++ List.replicate m 0).map fun x : Nat => Value.int .u8 (x : Int)) = (xs.map fun x : Nat => Value.int .u8 (x : Int)) ++ List.replicate m (Value.int .u8 0) := by simp
          rw [e, List.append_assoc]
          have e2 : (xs ++ List.replicate m 0).length * 1 = ((xs.map fun x : Nat => Value.int .u8 (x : Int)) ++ List.replicate m (Value.int .u8 0)).length := by simp
          rw [e2, ← List.append_assoc]
          exact List.take_left
    · have hnr : ¬ (xs.length + m ≤ cap) := hroom
      have hm0 : ¬ m = 0 := by omega
      have h63' : ¬ (9223372036854775807 < ((xs.length : Int) + (m : Int))) := by omega
      have h48' : ¬ (281474976710656 < Builtin.nextslicecap (xs.length + m) cap * i0.bytes) := by
        have := growslice_fits (old := cap) (need := xs.length + m) (bytes := i0.bytes) (by omega) (by rw [hz2]; omega)
        omega
      have hol : ∀ j v, (xs.map fun x : Nat => Value.int .u8 (x : Int))[j]? = some v → w.drew.cell? ((⟨g, 0, none⟩ : Addr).add j) = some v := by
        intro j v hv
        have hadd : (⟨g, 0, none⟩ : Addr).add j = ⟨g, j, none⟩ := by unfold Addr.add; split <;> simp_all
        rw [hadd, cell_of_row w.drew g j cur _ (0, 0) hg]
        rw [← htake, List.getElem?_take] at hv
        split at hv
        · simpa using hv
        · cases hv
      have hfo := run_firstCells_some (P := Try.prog) w.drew 1 xs.length ⟨g, 0, none⟩ xs.length cap _ hl hol
      have hr : (Builtin.append_ #[23, 3] ty #[.slice (some ⟨g, 0, none⟩) xs.length cap, .int .i64 (m : Int)]).run Try.prog w = .ok (.slice (some ⟨w.heap.size, 0, none⟩) (xs.length + m) (grownCap w (xs.length + m) cap 5)) (w.drew.alloc (.cells ((xs.map fun x : Nat => Value.int .u8 (x : Int)).toArray ++ Builtin.zeroCells (Value.int .u8 0).cells m ++ Builtin.zeroCells (Value.int .u8 0).cells (grownCap w (xs.length + m) cap 5 - (xs.length + m))) 5)) := by
        simp [Builtin.append_, run_underlying ht, run_underlying htn, sizeOf, typeInfo, zeroValue, hi, hz0, hz1, asInt, asIntOf, hw, hneg, h48i, hnr, hm0, h63', h48', Question.forced, hfo, newRow, grownCap]
      have hge := grownCap_ge w (xs.length + m) cap 5
      have hle := grownCap_le_maxLen w (xs.length + m) cap 5 (by unfold maxLen; omega)
      refine ⟨_, _, hr, ?_, ((Below.refl _ _).drew).alloc hbase _⟩
      unfold Own
      refine ⟨by simp, .inr ⟨_, _, _, by simp, hbase, heap_alloc_new _ _, by simpa using hge, hle, ?_, ?_⟩⟩
      · simp only [Array.size_append, size_zeroCells, List.size_toArray, List.length_map]
        have e9 : (Value.int IntKind.u8 0).cells.size = 1 := rfl
        rw [e9]
        omega
      · rw [Array.toList_append, Array.toList_append, zeros_list]
        have e : ((xs ++ List.replicate m 0).map fun x : Nat => Value.int .u8 (x : Int)) = (xs.map fun x : Nat => Value.int .u8 (x : Int)) ++ List.replicate m (Value.int .u8 0) := by simp
        have e2 : (xs ++ List.replicate m 0).length * 1 = ((xs.map fun x : Nat => Value.int .u8 (x : Int)) ++ List.replicate m (Value.int .u8 0)).length := by simp
        rw [e, e2]
        exact List.take_left
end Go.Proofs.Ytehgjkckhjggbaa
