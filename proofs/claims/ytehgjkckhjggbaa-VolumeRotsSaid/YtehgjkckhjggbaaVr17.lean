/- The contract of volume's own headOf. No condition. -/
import Derived.Test.YtehgjkckhjggbaaVr13
import Derived.Test.YtehgjkckhjggbaaVr11
import Derived.Test.YtehgjkckhjggbaaVr6
import Derived.Test.YtehgjkckhjggbaaVr5
namespace Go.Proofs.Ytehgjkckhjggbaa
open Go.RowKit Go.Maps
theorem Try.info_vhead : (Try.prog.info? 76).map (·.size) = some 8 := by kernel_rfl
theorem len8 {xs : List Nat} (h : xs.length = 8) : (u8s xs).toArray.size = 8 := by simp [u8s, h]
set_option maxRecDepth 100000 in
set_option maxHeartbeats 3200000 in
theorem vhead_any (n : Nat) (w : World) (hn : n ≤ 99999999) :
    Calls Try.prog 38 #[.int .i64 (n : Int)] w fun e w' => e = .returned (.agg (u8s (headV n)).toArray) ∧ Below w.heap.size w w' := by
  go_enter Try.func38, Try.ntmps38
  go_wp2_with fail
  have k1 := below_alloc w (.cells #[.int .u8 0, .int .u8 0, .int .u8 0, .int .u8 0, .int .u8 0, .int .u8 0, .int .u8 0, .int .u8 0] 76)
  obtain ⟨Z1, hZ1⟩ : ∃ Z, Z = w.alloc (.cells #[.int .u8 0, .int .u8 0, .int .u8 0, .int .u8 0, .int .u8 0, .int .u8 0, .int .u8 0, .int .u8 0] 76) := ⟨_, rfl⟩
  have z1 : Z1.heap[w.heap.size]? = some (.cells (u8s (List.replicate 8 0)).toArray 76 (0, 0)) := by rw [hZ1]; exact heap_alloc_new w _
  have s1 : Z1.heap.size = w.heap.size + 1 := by rw [hZ1]; simp
  rw [← hZ1] at k1 ⊢
  have k2 := below_alloc Z1 (.cells #[.int .u8 103, .int .u8 118, .int .u8 1, .int .u8 0, .int .u8 0, .int .u8 0, .int .u8 0, .int .u8 0] 76)
  obtain ⟨Z2, hZ2⟩ : ∃ Z, Z = Z1.alloc (.cells #[.int .u8 103, .int .u8 118, .int .u8 1, .int .u8 0, .int .u8 0, .int .u8 0, .int .u8 0, .int .u8 0] 76) := ⟨_, rfl⟩
  obtain ⟨H0, hH0⟩ : ∃ H : List Nat, H = [103, 118, 1, 0, 0, 0, 0, 0] := ⟨_, rfl⟩
  obtain ⟨b2, hb2⟩ : ∃ b, b = w.heap.size + 1 := ⟨_, rfl⟩
  obtain ⟨b1, hb1⟩ : ∃ b, b = w.heap.size := ⟨_, rfl⟩
  have z2 : Z2.heap[b2]? = some (.cells (u8s H0).toArray 76 (0, 0)) := by rw [hZ2, hb2, ← s1, hH0]; exact heap_alloc_new Z1 _
  have s2 : Z2.heap.size = w.heap.size + 2 := by rw [hZ2]; simp [s1]
  rw [← hb1] at z1
  have z1 : Z2.heap[b1]? = some (.cells (u8s (List.replicate 8 0)).toArray 76 (0, 0)) := by rw [hZ2]; exact (k2.block b1 (by omega)).trans z1
  rw [← hZ2] at k2 ⊢
  rw [← hb2]
  rw [← hb1]
  have H0L : Hid (H0.length = 8) := hide (by rw [hH0]; rfl)
  have HH0 := hide hH0
  have Z1' := hide z1
  have HZ2 := hide z2
  have KK := hide (k1.trans (k2.mono k1.size))
  have HB := hide (And.intro hb1 (And.intro hb2 s2))
  have LT : Hid (b2 < Z2.heap.size) := hide (by omega)
  have hn32 : n < 4294967296 := by omega
  have hwn : IntKind.u32.wrap (n : Int) = (n : Int) := by rw [IntKind.wrap_u32]; omega
  clear k1 hZ1 z1 s1 k2 hZ2 hH0 hb2 hb1 z2 s2
  go_region_law (first
    | (refine step_copy_splice rfl (.tmp 5) (.tmp 8) 23 23 rfl 5 Try.underlying23 Try.one_u8 (some ⟨b2, 4, none⟩) A1 4 4 4 c1' rfl rfl b2 4 (u8s H0) 76 BL1.out (u8s (be32 n)) (by rw [u8s_len]; rfl) (fun h => ⟨rfl, I1.out.src h⟩) (by rw [u8s_len, u8s_len, H0L.out, be32_len]; decide) (u8s_one _) b2 Z2 KK1.out (Nat.le_refl _) ?_; intro v1 h2 k2)
    | (go_simp; go_at_call 79; refine (put32_any _ n (by first | rfl | exact hwn) _ hn32).mono ?_; rintro e w1 ⟨s1, rfl, o1, k1⟩; obtain ⟨A1, c1', rfl, i1, l1, m1⟩ := o1.isB.form (n := 4) rfl; have I1 := hide i1; have KK1 : Hid (Below b2 Z2 w1) := hide (by have h9 := k1.mono (Nat.le_of_lt LT.out); exact ⟨h9.os, h9.tape, h9.output, h9.size, h9.block⟩); have BL1 : Hid (w1.heap[b2]? = some (.cells (u8s H0).toArray 76 (0, 0))) := hide ((k1.block b2 LT.out).trans HZ2.out); clear o1 i1 k1))
  rw [splice_u8s] at h2
  obtain ⟨H1, hH1⟩ : ∃ H, H = splice H0 4 (be32 n) := ⟨_, rfl⟩
  rw [← hH1] at h2
  have HE : Hid (H1 = headV n) := hide (by rw [hH1, HH0.out]; rfl)
  have HW := hide h2.out
  have KW := hide k2
  have LT2 : Hid (b2 < v1.heap.size) := hide (heap_lt h2.out)
  have HL : Hid (H1.length = 8) := hide (by rw [HE.out]; rfl)
  have HA : Hid (v1.heap[b1]? = some (.cells (u8s (List.replicate 8 0)).toArray 76 (0, 0))) := hide ((KW.out.block b1 (by have := HB.out; omega)).trans Z1'.out)
  clear h2 k2 hH1 BL1 KK1 I1
  go_wp2_with (with_reducible refine halt_load 76 _ rfl ?_)
  refine ⟨?_⟩
  refine wpList_load_row rfl 76 (.tmp 3) rfl b2 rfl 76 (u8s H1).toArray (0, 0) _ HW.out Try.underlying76 rfl (by rw [Try.info_vhead, len8 HL.out]) ?_
  rw [HE.out]
  refine wpList_store_row rfl 76 (.tmp 2) (.tmp 10) rfl b1 (u8s (headV n)).toArray rfl rfl 76 (u8s (List.replicate 8 0)).toArray HA.out (by rw [Try.info_vhead, len8 (headV_len n)]) (by rw [len8 (headV_len n)]; rfl) (u8s_all _) ?_
  have hrow := setRow_heap v1 b1 _ (u8s (headV n)).toArray 76 _ HA.out
  have hbel : Below b1 w (v1.setRow b1 (u8s (headV n)).toArray) := below_setRow (by have h1 := KK.out; have h2 : Below b1 Z2 v1 := KW.out.mono (by have := HB.out; omega); rw [← HB.out.1] at h1; exact h1.trans h2) (Nat.le_refl _) _
  obtain ⟨Y, hY⟩ : ∃ Y, Y = v1.setRow b1 (u8s (headV n)).toArray := ⟨_, rfl⟩
  rw [← hY] at hrow hbel ⊢
  have HRW := hide hrow
  have HBL := hide hbel
  clear hrow hbel hY
  go_wp2_with fail
  refine bodyPost_ret (v := .agg (u8s (headV n)).toArray) (results_cell_row rfl _ _ b1 76 _ (0, 0) _ rfl HRW.out Try.underlying76 rfl (by rw [Try.info_vhead, len8 (headV_len n)])) rfl ⟨rfl, by rw [← HB.out.1]; exact HBL.out⟩
end Go.Proofs.Ytehgjkckhjggbaa
