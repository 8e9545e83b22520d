/- The walks of ShardSums and ShardAdds in the order in which the rows hand them their facts, once the project's Sums answers as ShardC asks. -/
import Derived.Test.YtpjocddeiehckaaAa5
import Derived.Test.YtpjocddeiehckaaAa6
import Derived.ProofKit
namespace Go.Proofs.Ytpjocddeiehckaa
open Go.RowKit
theorem wfI {z : Int} (h : (Lit.int .i64 z).wf = true) : I64 z := bounds_i64 h
theorem shardSums_all (hS : SumsC) (A : Option Addr) (n c : Nat) (D : ML) (m : Int) (w : World) (hA : IsM w A D) (hn : D.length = n) (h47 : n ≤ 140737488351232) (bD : ∀ r ∈ D, ∀ x ∈ r, x < 256) (rD : ∀ r ∈ D, r.length ≤ 140737488351232) (m1 : (Lit.int .i64 m).wf = true) :
    Calls Try.prog 3 #[.slice A n c, .int .i64 m] w fun e w' => e = .returned (.bool true) ∧ Below w.heap.size w w' := shardSums_by hS A n c m D w hA hn h47 bD rD (wfI m1)
theorem shardAdds_all (hS : SumsC) (A : Option Addr) (n c : Nat) (D : ML) (A' : Option Addr) (n' c' : Nat) (D' : ML) (m : Int) (w : World) (hA : IsM w A D) (hn : D.length = n) (h47 : n ≤ 140737488351232) (bD : ∀ r ∈ D, ∀ x ∈ r, x < 256) (rD : ∀ r ∈ D, r.length ≤ 140737488351232)
    (hA' : IsM w A' D') (hn' : D'.length = n') (h47' : n' ≤ 140737488351232) (bD' : ∀ r ∈ D', ∀ x ∈ r, x < 256) (rD' : ∀ r ∈ D', r.length ≤ 140737488351232) (m1 : (Lit.int .i64 m).wf = true) :
    Calls Try.prog 4 #[.slice A n c, .slice A' n' c', .int .i64 m] w fun e w' => e = .returned (.bool true) ∧ Below w.heap.size w w' := shardAdds_by hS A A' n c n' c' m D D' w hA hn h47 bD rD hA' hn' h47' bD' rD' (wfI m1)
end Go.Proofs.Ytpjocddeiehckaa
