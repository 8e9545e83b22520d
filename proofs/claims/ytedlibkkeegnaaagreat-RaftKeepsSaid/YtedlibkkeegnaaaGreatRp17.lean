/- The contract of strings.Clone: the same bytes. Condition: a string no longer than the model's. -/
import Derived.Shelf.Strconv.Clone
import Derived.Test.YtedlibkkeegnaaaGreatRp7
namespace Go.Proofs.YtedlibkkeegnaaaGreat
open Go.RowKit Go.Shelf
def Tryz.cloneI_ren : Go.Shelf.Ren := ⟨fun | 316 => 82 | n => n, fun | 9 => 9 | 3 => 3 | 4 => 4 | 37 => 32 | 0 => 0 | 127 => 161 | 5 => 5 | n => n, fun | n => n⟩
theorem Tryz.cloneI : Go.Proofs.LaysM.n316 Tryz.prog Tryz.cloneI_ren := {
 mixed := by kernel_rfl
 f316 := Tryz.func82.trans (congrArg some (by kernel_rfl))
 t0 := Tryz.underlying0
 a0 := Tryz.isAgg0
 z0 := Tryz.sizeOf0
 v0 := Tryz.zeroValue0
 t3 := Tryz.underlying3
 a3 := Tryz.isAgg3
 z3 := Tryz.sizeOf3
 v3 := Tryz.zeroValue3
 t4 := Tryz.underlying4
 a4 := Tryz.isAgg4
 z4 := Tryz.sizeOf4
 v4 := Tryz.zeroValue4
 t9 := Tryz.underlying9
 a9 := Tryz.isAgg9
 z9 := Tryz.sizeOf9
 v9 := Tryz.zeroValue9
 t37 := Tryz.underlying32
 a37 := Tryz.isAgg32
 z37 := Tryz.sizeOf32
 v37 := Tryz.zeroValue32
 t127 := Tryz.underlying161
 a127 := Tryz.isAgg161
 z127 := Tryz.sizeOf161
 v127 := Tryz.zeroValue161
 t5 := Tryz.underlying5
 a5 := Tryz.isAgg5
 z5 := Tryz.sizeOf5
 v5 := Tryz.zeroValue5
 i0 := by kernel_rfl
 i3 := by kernel_rfl
 i4 := by kernel_rfl
 i5 := by kernel_rfl
 i9 := by kernel_rfl
 i37 := by kernel_rfl
 i127 := by kernel_rfl }
theorem strClone_any (s : ByteArray) (w : World) (hs : s.size <= 281474976710656) :
  Calls Tryz.prog 57 #[.string s] w fun e w' => e = .returned (.string s) /\ Below w.heap.size w w' := by
 go_enter Tryz.func57, Tryz.ntmps57;go_wp2_with fail
 refine (Any.stringslite_Clone Tryz.cloneI s w hs).mono ?_;rintro e w1 ⟨rfl, k1⟩;go_wp2_with fail
 go_ret;exact ⟨rfl, k1⟩
end Go.Proofs.YtedlibkkeegnaaaGreat
