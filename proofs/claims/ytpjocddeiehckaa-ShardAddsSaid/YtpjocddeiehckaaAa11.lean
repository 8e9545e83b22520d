/- The walks of ShardSums and ShardAdds. Condition: the form's reach. -/
import Derived.Test.YtpjocddeiehckaaAa9
import Derived.Test.YtpjocddeiehckaaAa10
namespace Go.Proofs.Ytpjocddeiehckaa
open Go.RowKit
theorem shardSums_walk (A : Option Addr) (n c : Nat) (D : ML) (m : Int) (w : World) (hA : IsM w A D) (hn : D.length = n) (h47 : n ≤ 140737488351232) (bD : ∀ r ∈ D, ∀ x ∈ r, x < 256) (rD : ∀ r ∈ D, r.length ≤ 140737488351232) (m1 : (Lit.int .i64 m).wf = true) :
    Calls Try.prog 3 #[.slice A n c, .int .i64 m] w fun e w' => e = .returned (.bool true) ∧ Below w.heap.size w w' := shardSums_all sumsC A n c D m w hA hn h47 bD rD m1
theorem shardAdds_walk (A : Option Addr) (n c : Nat) (D : ML) (A' : Option Addr) (n' c' : Nat) (D' : ML) (m : Int) (w : World) (hA : IsM w A D) (hn : D.length = n) (h47 : n ≤ 140737488351232) (bD : ∀ r ∈ D, ∀ x ∈ r, x < 256) (rD : ∀ r ∈ D, r.length ≤ 140737488351232)
    (hA' : IsM w A' D') (hn' : D'.length = n') (h47' : n' ≤ 140737488351232) (bD' : ∀ r ∈ D', ∀ x ∈ r, x < 256) (rD' : ∀ r ∈ D', r.length ≤ 140737488351232) (m1 : (Lit.int .i64 m).wf = true) :
    Calls Try.prog 4 #[.slice A n c, .slice A' n' c', .int .i64 m] w fun e w' => e = .returned (.bool true) ∧ Below w.heap.size w w' := shardAdds_all sumsC A n c D A' n' c' D' m w hA hn h47 bD rD hA' hn' h47' bD' rD' m1
end Go.Proofs.Ytpjocddeiehckaa
