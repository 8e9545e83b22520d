/- Rows of rows of bytes that came in read as a matrix's rows. No condition. -/
import Derived.Test.YteebdlliaipnlaaRowsIn
import Derived.Test.YteebdlliaipnlaaMRead
namespace Go.Proofs.Yteebdlliaipnlaa
open Go.RowKit
theorem rows_inM {H : Type} {enc : TypeId × Value → H} {W : World} {fuel : Nat} {a0 : Option Addr} {len0 cap0 : Nat} {x : DataW H × List MemPlace}
    (h : DataW.trod enc Try.prog W 0 (fun _ => true) true fuel 22 [.slice a0 len0 cap0] = some x) :
    ∃ xss : List (List Nat), IsM W a0 xss ∧ xss.length = len0 ∧ len0 ≤ 9223372036854775807 ∧ ∀ r ∈ xss, ∀ x ∈ r, x < 256 := by
  obtain ⟨vs, xss, g1, g2, g3, g4, -, g5, g6⟩ := rows_in h
  exact ⟨xss, ⟨vs, g2, g3⟩, by rw [← g3.1, g1], by omega, g4⟩
end Go.Proofs.Yteebdlliaipnlaa
