/- Eight bytes, the highest first: the contract of the document's own Put64. Conditions: the widths. -/
import Derived.Test.YtkgkhielfodmmaaFix8
import Derived.Test.YtkgkhielfodmmaaRFixA
namespace Go.Proofs.Ytkgkhielfodmmaa
open Go.RowKit
set_option maxHeartbeats 400000 in
theorem rput64_any (v : Nat) (w : World) (hv : v < 18446744073709551616) :
    Calls Try.prog 23 #[.int .u64 (v : Int)] w fun e w' => ∃ s, e = .returned s ∧ Own w' w.heap.size s (be64 v) ∧ Below w.heap.size w w' := by
  have HV := hide hv
  have hq : IntKind.u32.wrap ((v : Int) / 4294967296) = (v : Int) / 4294967296 := by rw [IntKind.wrap_u32]; omega
  clear hv
  go_enter Try.func23, Try.ntmps23
  go_wp2_with fail
  refine (rput32_any _ (v / 4294967296) (by omega) _ (by have := HV.out; omega)).mono ?_
  rintro e w1 ⟨s1, rfl, o1, b1⟩
  go_wp2_with fail
  refine (rput32_any _ (v % 4294967296) (by omega) _ (by omega)).mono ?_
  rintro e w2 ⟨s2, rfl, o2, b2⟩
  have o1' := o1.keep b2
  have hl1 : (be32 (v / 4294967296)).length = 4 := rfl
  have hl2 : (be32 (v % 4294967296)).length = 4 := rfl
  have L := hide (And.intro hl1 hl2)
  clear hl1 hl2
  go_wp2_with (at_builtin; refine halt ?_)
  refine ⟨?_⟩
  refine wpList_append_bytes rfl (.tmp 6) (.tmp 9) rfl w.heap.size s1 _ rfl o1' s2 _ rfl o2.isB (by rw [L.out.1, L.out.2]; decide) (Nat.le_trans b1.size b2.size) ?_
  intro s3 w3 o3 b3
  go_wp2_with fail
  go_ret
  exact ⟨_, rfl, o3, (b1.trans (b2.mono b1.size)).trans b3⟩
end Go.Proofs.Ytkgkhielfodmmaa
