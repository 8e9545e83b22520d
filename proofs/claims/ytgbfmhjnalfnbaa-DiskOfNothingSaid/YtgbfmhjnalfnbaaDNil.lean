/- The contracts of the disk's methods at no disk at all. No condition but the widths. -/
import Derived.Test.YtgbfmhjnalfnbaaDisk2
namespace Go.Proofs.Ytgbfmhjnalfnbaa
open Go.RowKit Go.Maps
theorem append_nilD (s : ByteArray) (v : Value) (w : World) :
    Calls Try.prog 16 #[.pointer none, .string s, v] w fun e w' => e = .returned (.int .i64 1) ∧ w = w' := by
  go_enter Try.func16, Try.ntmps16
  go_wp2_with fail
  go_ret
  exact ⟨rfl, rfl⟩
theorem rename_nilD (s t : ByteArray) (w : World) :
    Calls Try.prog 27 #[.pointer none, .string s, .string t] w fun e w' => e = .returned (.int .i64 1) ∧ w = w' := by
  go_enter Try.func27, Try.ntmps27
  go_wp2_with fail
  go_ret
  exact ⟨rfl, rfl⟩
theorem cut_nilD (s : ByteArray) (z : Int) (w : World) :
    Calls Try.prog 29 #[.pointer none, .string s, .int .i64 z] w fun e w' => e = .returned (.int .i64 1) ∧ w = w' := by
  go_enter Try.func29, Try.ntmps29
  go_wp2_with fail
  go_ret
  exact ⟨rfl, rfl⟩
theorem list_nilD (w : World) :
    Calls Try.prog 26 #[.pointer none] w fun e w' => e = .returned (.slice none 0 0) ∧ w = w' := by
  go_enter Try.func26, Try.ntmps26
  go_wp2_with fail
  go_ret
  exact ⟨rfl, rfl⟩
theorem used_nilD (w : World) :
    Calls Try.prog 25 #[.pointer none] w fun e w' => e = .returned (.int .i64 0) ∧ w = w' := by
  go_enter Try.func25, Try.ntmps25
  go_wp2_with fail
  go_ret
  exact ⟨rfl, rfl⟩
theorem copy_nilD (w : World) :
    Calls Try.prog 14 #[.pointer none] w fun e w' => e = .returned (.pointer none) ∧ w = w' := by
  go_enter Try.func14, Try.ntmps14
  go_wp2_with fail
  go_ret
  exact ⟨rfl, rfl⟩
theorem crash_nilD (z : Int) (w : World) :
    Calls Try.prog 17 #[.pointer none, .int .i64 z] w fun e w' => e = .returned (.tuple #[]) ∧ w = w' := by
  obtain ⟨m, hz⟩ : ∃ m : Nat, max z 0 = (m : Int) := ⟨z.toNat, by omega⟩
  go_enter Try.func17, Try.ntmps17
  go_wp2_with fail
  refine (list_nilD w).mono ?_
  rintro e w1 ⟨rfl, rfl⟩
  go_wp2_with fail
  go_loopw [13] (fun i wr => i = .int .i64 0 ∧ wr = w) (fun _ _ => 0)
  case atStart => exact ⟨rfl, rfl⟩
  case round =>
    obtain ⟨rfl, rfl⟩ := hrel
    go_wp2_with fail
    go_end0
    exact ⟨rfl, rfl⟩
theorem read_nilD (s : ByteArray) (w : World) :
    Calls Try.prog 22 #[.pointer none, .string s] w fun e w' => e = .returned (.tuple #[.slice none 0 0, .int .i64 7]) ∧ Below w.heap.size w w' := by
  have FS := hide (find_nil s w)
  unfold noFil at FS
  go_enter Try.func22, Try.ntmps22
  go_wp2_with fail
  refine FS.out.mono ?_
  rintro e w1 ⟨rfl, k1⟩
  have K2 := hide (below_step k1 (below_alloc w1 (.cells #[.slice none 0 0, .int .i64 0] 68)))
  clear k1
  go_wp2_with fail
  go_ret2
  exact ⟨rfl, K2.out⟩
theorem size_nilD (s : ByteArray) (w : World) :
    Calls Try.prog 24 #[.pointer none, .string s] w fun e w' => e = .returned (.tuple #[.int .i64 0, .bool false]) ∧ Below w.heap.size w w' := by
  have FS := hide (find_nil s w)
  unfold noFil at FS
  go_enter Try.func24, Try.ntmps24
  go_wp2_with fail
  refine FS.out.mono ?_
  rintro e w1 ⟨rfl, k1⟩
  have K2 := hide (below_step k1 (below_alloc w1 (.cells #[.slice none 0 0, .int .i64 0] 68)))
  clear k1
  go_wp2_with fail
  go_ret2
  exact ⟨rfl, K2.out⟩
theorem sync_nilD (s : ByteArray) (w : World) :
    Calls Try.prog 21 #[.pointer none, .string s] w fun e w' => e = .returned (.int .i64 7) ∧ Below w.heap.size w w' := by
  have FS := hide (find_nil s w)
  unfold noFil at FS
  go_enter Try.func21, Try.ntmps21
  go_wp2_with fail
  refine FS.out.mono ?_
  rintro e w1 ⟨rfl, k1⟩
  have K2 := hide (below_step k1 (below_alloc w1 (.cells #[.slice none 0 0, .int .i64 0] 68)))
  clear k1
  go_wp2_with fail
  go_ret
  exact ⟨rfl, K2.out⟩
theorem remove_nilD (s : ByteArray) (w : World) :
    Calls Try.prog 28 #[.pointer none, .string s] w fun e w' => e = .returned (.int .i64 7) ∧ Below w.heap.size w w' := by
  have FS := hide (find_nil s w)
  unfold noFil at FS
  go_enter Try.func28, Try.ntmps28
  go_wp2_with fail
  refine FS.out.mono ?_
  rintro e w1 ⟨rfl, k1⟩
  have K2 := hide (below_step k1 (below_alloc w1 (.cells #[.slice none 0 0, .int .i64 0] 68)))
  clear k1
  go_wp2_with fail
  go_ret
  exact ⟨rfl, K2.out⟩
theorem rot_nilD (s : ByteArray) (z y : Int) (w : World) :
    Calls Try.prog 30 #[.pointer none, .string s, .int .i64 z, .int .u8 y] w fun e w' => e = .returned (.int .i64 7) ∧ Below w.heap.size w w' := by
  have FS := hide (find_nil s w)
  unfold noFil at FS
  go_enter Try.func30, Try.ntmps30
  go_wp2_with fail
  refine FS.out.mono ?_
  rintro e w1 ⟨rfl, k1⟩
  have K2 := hide (below_step k1 (below_alloc w1 (.cells #[.slice none 0 0, .int .i64 0] 68)))
  clear k1
  go_wp2_with fail
  go_ret
  exact ⟨rfl, K2.out⟩
end Go.Proofs.Ytgbfmhjnalfnbaa
