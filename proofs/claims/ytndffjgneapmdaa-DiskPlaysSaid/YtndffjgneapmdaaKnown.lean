/- The walk of the law's own 'known': a disk that forgets. No condition. -/
import Derived.Test.YtndffjgneapmdaaDApp2
import Derived.Test.YtndffjgneapmdaaDCrash
import Derived.Test.YtndffjgneapmdaaDRead
import Derived.Test.YtndffjgneapmdaaDMove
import Derived.Test.YtndffjgneapmdaaSame
import Derived.Test.YtndffjgneapmdaaConstB
namespace Go.Proofs.Ytndffjgneapmdaa
open Go.RowKit Go.Maps
theorem known_l1 : appL 10 [97] [49, 50, 51, 52, 53] [] = ([([97], ([49, 50, 51, 52, 53], 0))], 0) := by decide
theorem known_l2 : appL 10 [97] [54, 55, 56] [([97], ([49, 50, 51, 52, 53], 5))] = ([([97], ([49, 50, 51, 52, 53, 54, 55, 56], 5))], 0) := by decide
theorem known_l3 : crashD 1 [([97], ([49, 50, 51, 52, 53, 54, 55, 56], 5))] = [([97], ([49, 50, 51, 52, 53, 54], 6))] := by decide
set_option maxRecDepth 100000 in
set_option maxHeartbeats 1600000 in
theorem known_any (w : World) : Calls Try.prog 5 #[] w fun e w' => e = .returned (.bool true) ∧ Below w.heap.size w w' := by
  have kc := const_bytes
  go_enter Try.func5, Try.ntmps5
  go_wp2_with fail
  refine (new_any 10 w (by decide)).mono ?_
  rintro e w1 ⟨d, F1, rfl, d1, l1, k1⟩
  have D1 := hide d1
  have K1 := hide k1
  have L1 := hide l1
  clear d1 l1 k1
  go_wp2_with fail
  have ka := below_alloc w1 (.cells #[.int .u8 49, .int .u8 50, .int .u8 51, .int .u8 52, .int .u8 53] 5 (5, 6))
  refine (append_any F1 d 10 [] ⟨#[97]⟩ _ 5 5 [49, 50, 51, 52, 53] _ (D1.out.below ka) (by decide) (isB_const w1 _ _ _ rfl (by decide) _ _ rfl rfl) rfl (by decide) (by decide)).mono ?_
  rintro e w2 ⟨rfl, F2, d2, n2⟩
  rw [show appL 10 (⟨#[97]⟩ : ByteArray).data.toList [49, 50, 51, 52, 53] [] = ([([97], ([49, 50, 51, 52, 53], 0))], 0) from known_l1] at d2 ⊢
  have n2' := Next.trans (Next.of_below F1 ka) n2
  have K2 := hide (K1.out.trans (n2'.below K1.out.size L1.out))
  have L2 := hide (n2'.up K1.out.size L1.out)
  have D2 := hide d2
  clear d2 n2 n2' ka
  go_wp2_with fail
  refine (sync_some F2 d 10 _ ⟨#[97]⟩ [49, 50, 51, 52, 53] 0 _ D2.out (by decide) rfl).mono ?_
  rintro e w3 ⟨rfl, F3, d3, n3⟩
  have K3 := hide (K2.out.trans (n3.below K2.out.size L2.out))
  have L3 := hide (n3.up K2.out.size L2.out)
  have D3 := hide (show DiskAt w3 F3 d 10 [([97], ([49, 50, 51, 52, 53], 5))] from d3)
  clear d3 n3
  go_wp2_with fail
  have ka := below_alloc w3 (.cells #[.int .u8 54, .int .u8 55, .int .u8 56] 5 (3, 4))
  refine (append_any F3 d 10 _ ⟨#[97]⟩ _ 3 3 [54, 55, 56] _ (D3.out.below ka) (by decide) (isB_const w3 _ _ _ rfl (by decide) _ _ rfl rfl) rfl (by decide) (by decide)).mono ?_
  rintro e w4 ⟨rfl, F4, d4, n4⟩
  rw [show appL 10 (⟨#[97]⟩ : ByteArray).data.toList [54, 55, 56] [([97], ([49, 50, 51, 52, 53], 5))] = ([([97], ([49, 50, 51, 52, 53, 54, 55, 56], 5))], 0) from known_l2] at d4 ⊢
  have n4' := Next.trans (Next.of_below F3 ka) n4
  have K4 := hide (K3.out.trans (n4'.below K3.out.size L3.out))
  have L4 := hide (n4'.up K3.out.size L3.out)
  have D4 := hide d4
  clear d4 n4 n4' ka
  go_wp2_with fail
  refine (crash_any F4 d 10 _ 1 _ D4.out).mono ?_
  rintro e w5 ⟨rfl, F5, d5, n5⟩
  have K5 := hide (K4.out.trans (n5.below K4.out.size L4.out))
  have D5 := hide (show DiskAt w5 F5 d 10 [([97], ([49, 50, 51, 52, 53, 54], 6))] from known_l3 ▸ d5)
  clear d5 n5
  go_wp2_with fail
  refine (read_some F5 d 10 _ ⟨#[97]⟩ [49, 50, 51, 52, 53, 54] 6 _ D5.out (by decide) rfl).mono ?_
  rintro e w6 ⟨v, rfl, o6, k6⟩
  obtain ⟨A6, c6, rfl, i6, l6, m6⟩ := o6.isB.form (n := 6) rfl
  have I6 := hide i6
  have K6 := hide (K5.out.trans (k6.mono K5.out.size))
  clear o6 i6 k6
  go_wp2_with fail
  have ka := below_alloc w6 (.cells #[.int .u8 49, .int .u8 50, .int .u8 51, .int .u8 52, .int .u8 53, .int .u8 54] 5 (6, 7))
  refine (same_any _ _ _ _ _ _ [49, 50, 51, 52, 53, 54] [49, 50, 51, 52, 53, 54] _ (I6.out.keep ka).rd (isB_const w6 _ _ _ rfl (by decide) _ _ rfl rfl).rd rfl rfl (by decide) (by decide)).mono ?_
  rintro e w7 ⟨rfl, d7, rfl⟩
  have K7 := hide (below_drewN (K6.out.trans (ka.mono K6.out.size)) d7)
  clear ka
  go_wp2_with fail
  go_ret
  exact ⟨rfl, K7.out⟩
end Go.Proofs.Ytndffjgneapmdaa
