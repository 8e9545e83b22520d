/- The walk of the law's own 'known': the last one that was saved. No condition. -/
import Derived.Test.YtmledochidefeaaK22
import Derived.Test.YtmledochidefeaaK21
import Derived.Test.YtmledochidefeaaK5
import Derived.Test.YtmledochidefeaaK20
import Derived.Test.YtmledochidefeaaK7
namespace Go.Proofs.Ytmledochidefeaa
open Go.RowKit Go.Maps
theorem known_s1 : saveL 1000 [97] [120, 121] [] = ([([97], (frameL [120, 121], 10))], 0) := save_new (by decide) (by decide) (by decide)
theorem known_s2 : saveL 1000 [97] [122] [([97], (frameL [120, 121], 10))] = ([([97], (frameL [122], 9))], 0) := save_over (by decide) (by decide) _ _ (by rw [frame_len]; decide)
theorem known_s3 : loadL [97] [([97], (frameL [122], 9))] = ([122], 0) := load_one _ (by decide)
set_option maxRecDepth 100000 in
set_option maxHeartbeats 1600000 in
theorem known_any (w : World) : Calls Try.prog 8 #[] w fun e w' => e = .returned (.bool true) ∧ Below w.heap.size w w' := by
  have kc := const_bytes
  go_enter Try.func8, Try.ntmps8
  go_wp2_with fail
  refine (new_any 1000 w (by decide)).mono ?_
  rintro e w1 ⟨d, F1, rfl, d1, l1, k1⟩
  have D1 := hide d1
  have K1 := hide k1
  have L1 := hide l1
  clear d1 l1 k1
  go_wp2_with fail
  have ka := below_alloc w1 (.cells #[.int .u8 120, .int .u8 121] 5 (2, 3))
  refine (save_any F1 d 1000 [] ⟨#[97]⟩ _ 2 2 [120, 121] _ (D1.out.below ka) (by decide) (isB_const w1 _ _ _ rfl (by decide) _ _ rfl rfl) rfl (by decide) (by decide)).mono ?_
  rintro e w2 ⟨rfl, F2, d2, n2⟩
  rw [show saveL 1000 (⟨#[97]⟩ : ByteArray).data.toList [120, 121] [] = ([([97], (frameL [120, 121], 10))], 0) from known_s1] at d2 ⊢
  have n2' := Next.trans (Next.of_below F1 ka) n2
  have K2 := hide (K1.out.trans (n2'.below K1.out.size L1.out))
  have L2 := hide (n2'.up K1.out.size L1.out)
  have D2 := hide d2
  clear d2 n2 n2' ka
  go_wp2_with fail
  have ka := below_alloc w2 (.cells #[.int .u8 122] 5 (1, 2))
  refine (save_any F2 d 1000 _ ⟨#[97]⟩ _ 1 1 [122] _ (D2.out.below ka) (by decide) (isB_const w2 _ _ _ rfl (by decide) _ _ rfl rfl) rfl (by decide) (by decide)).mono ?_
  rintro e w3 ⟨rfl, F3, d3, n3⟩
  rw [show saveL 1000 (⟨#[97]⟩ : ByteArray).data.toList [122] [([97], (frameL [120, 121], 10))] = ([([97], (frameL [122], 9))], 0) from known_s2] at d3 ⊢
  have n3' := Next.trans (Next.of_below F2 ka) n3
  have K3 := hide (K2.out.trans (n3'.below K2.out.size L2.out))
  have D3 := hide d3
  clear d3 n3 n3' ka
  go_wp2_with fail
  refine (load_any F3 d 1000 _ ⟨#[97]⟩ w3 D3.out (by decide)).mono ?_
  rintro e w4 ⟨v, rfl, o4, k4⟩
  rw [show loadL (⟨#[97]⟩ : ByteArray).data.toList [([97], (frameL [122], 9))] = ([122], 0) from known_s3] at o4 ⊢
  obtain ⟨A4, c4, rfl, i4, l4, m4⟩ := o4.isB.form (n := 1) rfl
  have I4 := hide i4
  have D4 := hide (D3.out.below k4)
  have K4 := hide (K3.out.trans (k4.mono K3.out.size))
  clear o4 i4 k4
  go_wp2_with fail
  have ka := below_alloc w4 (.cells #[.int .u8 122] 5 (1, 2))
  refine (same_any _ _ _ _ _ _ [122] [122] _ (I4.out.keep ka).rd (isB_const w4 _ _ _ rfl (by decide) _ _ rfl rfl).rd rfl rfl (by decide) (by decide)).mono ?_
  rintro e w5 ⟨rfl, d5, rfl⟩
  have K5 := hide (below_drewN (K4.out.trans (ka.mono K4.out.size)) d5)
  have D5 := hide ((D4.out.below ka).below (below_drewN (Below.refl _ _) d5))
  clear ka
  go_wp2_with fail
  refine (list_any F3 d 1000 _ _ D5.out).mono ?_
  rintro e w6 ⟨v6, rfl, o6, k6⟩
  obtain ⟨A6, c6, rfl, l6, m6, _⟩ := o6.rows (n := 1) rfl
  have K6 := hide (K5.out.trans (k6.mono K5.out.size))
  clear o6 k6
  go_wp2_with fail
  go_ret
  exact ⟨rfl, K6.out⟩
end Go.Proofs.Ytmledochidefeaa
