/- The walk of the law DiskOfNothing. No conditions but the widths. -/
import Derived.Test.YtgbfmhjnalfnbaaDNil
import Derived.Test.YtgbfmhjnalfnbaaKnown
namespace Go.Proofs.Ytgbfmhjnalfnbaa
open Go.RowKit Go.Maps
set_option maxRecDepth 100000 in
set_option maxHeartbeats 1600000 in
theorem diskOfNothing_core (s : ByteArray) (A1 : Option Addr) (n1 c1 : Nat) (z : Int) (w : World) (h : n1 + s.size ≤ 8000) :
    Calls Try.prog 7 #[.string s, .slice A1 n1 c1, .int .i64 z] w fun e w' => e = .returned (.bool true) ∧ Below w.heap.size w w' := by
  go_enter Try.func7, Try.ntmps7
  go_wp2_with fail
  refine (read_nilD s w).mono ?_
  rintro e w1 ⟨rfl, k1⟩
  have K1 := hide k1
  clear k1
  go_wp2_with fail
  refine (size_nilD s w1).mono ?_
  rintro e w2 ⟨rfl, k2⟩
  have K2 := hide (below_step K1.out k2)
  clear k2
  go_wp2_with fail
  refine (crash_nilD z w2).mono ?_
  rintro e w3 ⟨rfl, rfl⟩
  go_wp2_with fail
  refine (append_nilD s _ w2).mono ?_
  rintro e w3 ⟨rfl, rfl⟩
  go_wp2_with fail
  refine (sync_nilD s w2).mono ?_
  rintro e w3 ⟨rfl, k3⟩
  have K3 := hide (below_step K2.out k3)
  clear k3
  go_wp2_with fail
  refine (rename_nilD s s w3).mono ?_
  rintro e w4 ⟨rfl, rfl⟩
  go_wp2_with fail
  refine (remove_nilD s w3).mono ?_
  rintro e w4 ⟨rfl, k4⟩
  have K4 := hide (below_step K3.out k4)
  clear k4
  go_wp2_with fail
  refine (cut_nilD s z w4).mono ?_
  rintro e w5 ⟨rfl, rfl⟩
  go_wp2_with fail
  refine (list_nilD w4).mono ?_
  rintro e w5 ⟨rfl, rfl⟩
  go_wp2_with fail
  refine (used_nilD w4).mono ?_
  rintro e w5 ⟨rfl, rfl⟩
  go_wp2_with fail
  refine (rot_nilD s z 1 w4).mono ?_
  rintro e w5 ⟨rfl, k5⟩
  have K5 := hide (below_step K4.out k5)
  clear k5
  go_wp2_with fail
  refine (copy_nilD w5).mono ?_
  rintro e w6 ⟨rfl, rfl⟩
  go_wp2_with fail
  refine (known_any _).mono ?_
  rintro e w7 ⟨rfl, k7⟩
  go_wp2_with fail
  go_ret
  exact ⟨rfl, below_step K5.out k7⟩
theorem diskOfNothing_out (s : ByteArray) (A1 : Option Addr) (n1 c1 : Nat) (z : Int) (w : World) (hb : n1 ≤ 140737488351232) (hs : s.size ≤ 140737488351232) (h : 8000 < n1 + s.size) :
    Calls Try.prog 7 #[.string s, .slice A1 n1 c1, .int .i64 z] w fun e w' => e = .returned (.bool true) ∧ Below w.heap.size w w' := by
  go_enter Try.func7, Try.ntmps7
  go_wp2_with fail
  go_ret
  exact ⟨rfl, Below.refl _ _⟩
theorem diskOfNothing_walk (a0 : ByteArray) (a1 : Option Addr) (len1 cap1 : Nat) (z1 : List Int) (a2 : Int) (w : World) (_w0 : a0.size ≤ maxLen) (_w1 : IsRow .u8 w a1 len1 cap1 z1) (_w2 : (Lit.int .i64 a2).wf = true) (b0 : a0.size ≤ 140737488351232) (b1 : len1 ≤ 140737488351232) :
    Calls Try.prog 7 #[.string a0, .slice a1 len1 cap1, .int .i64 a2] w fun e w' => e = .returned (.bool true) ∧ Below w.heap.size w w' := by
  by_cases h : 8000 < len1 + a0.size
  · exact diskOfNothing_out a0 a1 len1 cap1 a2 w b1 b0 h
  · exact diskOfNothing_core a0 a1 len1 cap1 a2 w (by omega)
end Go.Proofs.Ytgbfmhjnalfnbaa
