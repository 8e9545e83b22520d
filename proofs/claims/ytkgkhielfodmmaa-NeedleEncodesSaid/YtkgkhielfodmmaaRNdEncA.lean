/- The contract of the document's own Encode of needles, all ways joined. No condition but the widths. -/
import Derived.Test.YtkgkhielfodmmaaRNdEnc
namespace Go.Proofs.Ytkgkhielfodmmaa
open Go.RowKit
theorem rndenc_bad (er : Nat) (key cook : Nat) (d : Bool) (A : Option Addr) (n c : Nat) (w : World) (hm : n ≤ 9223372036854775807) (h : er = 1 ∧ d = true ∧ 0 < n ∨ er = 5 ∧ d = false ∧ 65536 < n) :
    Calls Try.prog 10 #[.agg #[.int .u64 (key : Int), .int .u32 (cook : Int), .bool d, .slice A n c]] w fun e w' => e = .returned (.tuple #[.slice none 0 0, .int .i64 (er : Int)]) ∧ Below w.heap.size w w' := by
  have kw := below_alloc w (.cells #[.int .u64 (key : Int), .int .u32 (cook : Int), .bool d, .slice A n c] 26)
  rcases h with ⟨rfl, rfl, h⟩ | ⟨rfl, rfl, h⟩
  all_goals
    have hz : (0 : Int) < (n : Int) := by omega
    go_enter Try.func10, Try.ntmps10
    go_wp2_with fail
    go_ret2
    exact ⟨rfl, kw⟩
/-- Of any needle: its bytes, or the error. -/
theorem rndenc_any (key cook : Nat) (d : Bool) (A : Option Addr) (n c : Nat) (data : List Nat) (w : World) (hA : IsB w (.slice A n c) data) (hn : data.length = n) (hb : ∀ x ∈ data, x < 256) (hk : key < 18446744073709551616) (hc : cook < 4294967296) :
    Calls Try.prog 10 #[.agg #[.int .u64 (key : Int), .int .u32 (cook : Int), .bool d, .slice A n c]] w fun e w' => ∃ s, e = .returned (.tuple #[s, .int .i64 ((encN key cook d data).2 : Nat)]) ∧ Own w' w.heap.size s (encN key cook d data).1 ∧ Below w.heap.size w w' := by
  have hm := (isB_len hA).2
  by_cases h1 : d = true ∧ 0 < n
  · have e : encN key cook d data = ([], 1) := by unfold encN; rw [if_pos (by rw [hn]; exact h1)]
    rw [e]
    refine (rndenc_bad 1 key cook d A n c w (by omega) (.inl ⟨rfl, h1⟩)).mono ?_
    rintro e w' ⟨rfl, k⟩
    exact ⟨_, rfl, World.ownsRow_nil _ _ _ _, k⟩
  · by_cases h2 : 65536 < n
    · have e : encN key cook d data = ([], 5) := by unfold encN; rw [if_neg (by rw [hn]; exact h1), if_pos (by rw [hn]; exact h2)]
      rw [e]
      refine (rndenc_bad 5 key cook d A n c w (by omega) (.inr ⟨rfl, ?_, h2⟩)).mono ?_
      · rcases d
        · rfl
        · exact absurd ⟨rfl, by omega⟩ h1
      · rintro e w' ⟨rfl, k⟩
        exact ⟨_, rfl, World.ownsRow_nil _ _ _ _, k⟩
    · have e : encN key cook d data = (needleL key cook d data, 0) := by unfold encN; rw [if_neg (by rw [hn]; exact h1), if_neg (by rw [hn]; exact h2)]
      rw [e]
      exact rndenc_ok key cook d A n c data w hA hn hb hk hc (by omega) h1
end Go.Proofs.Ytkgkhielfodmmaa
