/- Of chapter 15's law: known() is true. No condition. -/
import Derived.Test.YtdchgjniepdhfaaFdParse
namespace Go.Proofs.Ytdchgjniepdhfaa
open Go.RowKit
theorem known_text : textL ⟨3, 255, 1⟩ = [51, 44, 102, 102, 44, 48, 48, 48, 48, 48, 48, 48, 49] := by decide +kernel
set_option maxHeartbeats 1600000 in
theorem known_any (w : World) :
    Calls Try.prog 9 #[] w fun e w' => e = .returned (.bool true) ∧ Below w.heap.size w w' := by
  have HT := hide (fun W => text_ok ⟨3, 255, 1⟩ W ⟨by decide, by decide, by decide, by decide, by decide⟩)
  have hs : mkS (textL ⟨3, 255, 1⟩) = ⟨#[51, 44, 102, 102, 44, 48, 48, 48, 48, 48, 48, 48, 49]⟩ := by rw [known_text]; rfl
  rw [hs] at HT
  have HT2 : Hid (∀ W, Calls Try.prog 7 #[.agg #[.int .i64 3, .int .u64 255, .int .u32 1]] W fun e w' => e = .returned (.tuple #[.string ⟨#[51, 44, 102, 102, 44, 48, 48, 48, 48, 48, 48, 48, 49]⟩, .int .i64 0]) ∧ Below W.heap.size W w') := hide HT.out
  clear HT hs
  go_enter Try.func9, Try.ntmps9
  go_wp2_with fail
  refine (HT2.out _).mono ?_
  rintro e w1 ⟨rfl, k1⟩
  go_wp2_with fail
  go_ret
  exact ⟨rfl, k1⟩
end Go.Proofs.Ytdchgjniepdhfaa
