/- The contract of the law's own 'known': the document's examples of a number's bytes, of a sum and of a turn. No condition. -/
import Derived.Test.YtndkdfbcbofnkaaTurn
import Derived.Test.YtndkdfbcbofnkaaSum
import Derived.Test.YtndkdfbcbofnkaaUvarint
import Derived.Lib.SlBytesConst
namespace Go.Proofs.Ytndkdfbcbofnkaa
open Go.RowKit
theorem uvl_300 : uvl 300 = [172, 2] := by
  rw [uvl_high (by decide), uvl_low (by decide)]
theorem rot_known : rot 2147483649 (turnBy 1) = 3 := by decide +kernel
theorem uvarint_300 (w : World) : Calls Try.prog 12 #[.int .u64 300] w fun e w' => ∃ A c, e = .returned (.slice A 2 c) ∧ Rd w' A [172, 2] ∧ Below w.heap.size w w' := by
  refine (uvarint_any 300 w (by decide)).mono ?_
  rintro e w' ⟨s, rfl, hown, hb⟩
  rw [uvl_300] at hown
  obtain ⟨A, c, rfl, hrd⟩ := hown.form
  exact ⟨A, c, rfl, hrd, hb⟩
theorem sum_known (A : Option Addr) (ca : Nat) (w : World) (hA : Rd w A [49, 50, 51, 52, 53, 54, 55, 56, 57]) : Calls Try.prog 30 #[.slice A 9 ca] w fun e w' => e = .returned (.int .u32 3421780262) ∧ w = w' := by
  refine (sum_any A 9 ca _ w hA rfl (by decide) (by decide)).mono ?_
  rintro e w' ⟨rfl, rfl⟩
  rw [sumS_known]
  exact ⟨rfl, rfl⟩
theorem turn_known (w : World) : Calls Try.prog 31 #[.int .u32 2147483649, .int .i64 1] w fun e w' => e = .returned (.int .u32 3) ∧ w = w' := by
  refine (turn_any 2147483649 1 w (by decide)).mono ?_
  rintro e w' ⟨rfl, rfl⟩
  rw [rot_known]
  exact ⟨rfl, rfl⟩
theorem const_bytes (w : World) (C : Array Value) (n c b : Nat) (hb : b = w.heap.size) :
    (convert 23 23 (.slice (some ⟨b, 0, none⟩) n c)).run Try.prog (w.alloc (.cells C 5)) = .ok (.slice (some ⟨b, 0, none⟩) n c) (w.alloc (.cells C 5 (C.size, C.size + 1))) := by
  subst hb
  exact Lib.run_convert_bytes_const (P := Try.prog) w 23 5 C n c Try.underlying23 Try.underlying5
set_option maxHeartbeats 400000 in
theorem known_any (w : World) : Calls Try.prog 16 #[] w fun e w' => e = .returned (.bool true) ∧ Below w.heap.size w w' := by
  have kc := const_bytes
  go_enter Try.func16, Try.ntmps16
  go_wp2_with fail
  refine (uvarint_300 _).mono ?_
  rintro e w1 ⟨A, c, rfl, hrd, hb⟩
  go_wp2_with fail
  refine (same_any _ _ _ _ _ _ [172, 2] [172, 2] _ (hrd.below ((Below.refl _ _).alloc (Nat.le_refl _) _)) (rd_new _ _ _ _ _ _ rfl rfl) rfl rfl (by decide) (by decide)).mono ?_
  rintro e w2 ⟨rfl, d, rfl⟩
  go_wp2_with fail
  refine (sum_known _ _ _ (rd_new _ _ _ _ _ _ (by simp) rfl)).mono ?_
  rintro e w3 ⟨rfl, rfl⟩
  go_wp2_with fail
  refine (turn_known _).mono ?_
  rintro e w4 ⟨rfl, rfl⟩
  go_wp2_with fail
  go_ret
  exact ⟨rfl, (below_drewN (hb.alloc hb.size _) d).alloc (by simp; have := hb.size; omega) _⟩
end Go.Proofs.Ytndkdfbcbofnkaa
