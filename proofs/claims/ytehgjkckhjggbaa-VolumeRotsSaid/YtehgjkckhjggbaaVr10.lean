/- The bytes of a constant string. No condition. -/
import Derived.Test.YtehgjkckhjggbaaVr6
import Derived.Lib.SlBytesConst
namespace Go.Proofs.Ytehgjkckhjggbaa
open Go.RowKit
theorem const_bytes (w : World) (C : Array Value) (n c b : Nat) (hb : b = w.heap.size) :
    (convert 23 23 (.slice (some ⟨b, 0, none⟩) n c)).run Try.prog (w.alloc (.cells C 5)) = .ok (.slice (some ⟨b, 0, none⟩) n c) (w.alloc (.cells C 5 (C.size, C.size + 1))) := by
  subst hb
  exact Lib.run_convert_bytes_const (P := Try.prog) w 23 5 C n c Try.underlying23 Try.underlying5
theorem isB_const (w : World) (cs : Array Value) (fr : Nat × Nat) (xs : List Nat) (hl : cs.toList = xs.map fun x : Nat => Value.int .u8 (x : Int)) (h : xs.length ≤ 140737488355328) (b n : Nat) (hb : b = w.heap.size) (hn : n = xs.length) :
    IsB (w.alloc (.cells cs 5 fr)) (.slice (some ⟨b, 0, none⟩) n n) xs := by
  subst hb; subst hn
  exact ⟨_, _, rfl, rd_new _ _ _ _ _ _ rfl hl, (fun h => by cases h), Nat.le_refl _, by omega⟩
end Go.Proofs.Ytehgjkckhjggbaa
