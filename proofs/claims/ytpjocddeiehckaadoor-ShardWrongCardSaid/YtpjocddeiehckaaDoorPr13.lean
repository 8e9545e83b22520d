/- The walks of the door's laws in the order in which the rows hand them their facts, once the project's calls answer as ShardC and ShardD ask. -/
import Derived.Test.YtpjocddeiehckaaDoorPr8
import Derived.ProofKit
namespace Go.Proofs.YtpjocddeiehckaaDoor
open Go.RowKit
theorem wfI {z : Int} (h : (Lit.int .i64 z).wf = true) : I64 z := bounds_i64 h
theorem shardMends_all (hS : SumsC) (hM : MendC) (A : Option Addr) (n c : Nat) (D : ML) (k m : Int) (w : World) (hA : IsM w A D) (hn : D.length = n) (h47 : n ≤ 140737488351232) (bD : ∀ r ∈ D, ∀ x ∈ r, x < 256) (rD : ∀ r ∈ D, r.length ≤ 140737488351232) (k1 : (Lit.int .i64 k).wf = true) (m1 : (Lit.int .i64 m).wf = true) (hT : TabW w) :
    Calls Tryd.prog 3 #[.slice A n c, .int .i64 k, .int .i64 m] w fun e w' => e = .returned (.bool true) ∧ Below w.heap.size w w' := shardMends_by hS hM A n c k m D w hA hn h47 bD rD (wfI k1) (wfI m1) hT
theorem shardRights_all (hS : SumsC) (hR : RightC) (hW : WrongC) (A : Option Addr) (n c : Nat) (D : ML) (k m : Int) (w : World) (hA : IsM w A D) (hn : D.length = n) (h47 : n ≤ 140737488351232) (bD : ∀ r ∈ D, ∀ x ∈ r, x < 256) (rD : ∀ r ∈ D, r.length ≤ 140737488351232) (k1 : (Lit.int .i64 k).wf = true) (m1 : (Lit.int .i64 m).wf = true) (hT : TabW w) :
    Calls Tryd.prog 5 #[.slice A n c, .int .i64 k, .int .i64 m] w fun e w' => e = .returned (.bool true) ∧ Below w.heap.size w w' := shardRights_by hS hR hW A n c k m D w hA hn h47 bD rD (wfI k1) (wfI m1) hT
theorem shardTooFew_all (hS : SumsC) (hM : MendC) (A : Option Addr) (n c : Nat) (D : ML) (m z : Int) (w : World) (hA : IsM w A D) (hn : D.length = n) (h47 : n ≤ 140737488351232) (bD : ∀ r ∈ D, ∀ x ∈ r, x < 256) (rD : ∀ r ∈ D, r.length ≤ 140737488351232) (m1 : (Lit.int .i64 m).wf = true) (z1 : (Lit.int .i64 z).wf = true) (hT : TabW w) :
    Calls Tryd.prog 7 #[.slice A n c, .int .i64 m, .int .i64 z] w fun e w' => e = .returned (.bool true) ∧ Below w.heap.size w w' := shardTooFew_by hS hM A n c m z D w hA hn h47 bD rD (wfI m1) (wfI z1) hT
theorem shardLost_all (hS : SumsC) (hM : MendC) (A : Option Addr) (n c : Nat) (D : ML) (m : Int) (Q : Option Addr) (nq cq : Nat) (zs : List Int) (w : World) (hA : IsM w A D) (hn : D.length = n) (h47 : n ≤ 140737488351232) (bD : ∀ r ∈ D, ∀ x ∈ r, x < 256) (rD : ∀ r ∈ D, r.length ≤ 140737488351232) (m1 : (Lit.int .i64 m).wf = true) (hQ : IsRow .i64 w Q nq cq zs) (hT : TabW w) :
    Calls Tryd.prog 4 #[.slice A n c, .int .i64 m, .slice Q nq cq] w fun e w' => e = .returned (.bool true) ∧ Below w.heap.size w w' := shardLost_by hS hM A n c m Q nq cq zs D w hA hn h47 bD rD (wfI m1) hQ hT
theorem shardWrong_all (hS : SumsC) (hR : RightC) (hW : WrongC) (A : Option Addr) (n c : Nat) (D : ML) (m z y : Int) (w : World) (hA : IsM w A D) (hn : D.length = n) (h47 : n ≤ 140737488351232) (bD : ∀ r ∈ D, ∀ x ∈ r, x < 256) (rD : ∀ r ∈ D, r.length ≤ 140737488351232) (m1 : (Lit.int .i64 m).wf = true) (z1 : (Lit.int .i64 z).wf = true) (y1 : (Lit.int .u8 y).wf = true) (hT : TabW w) :
    Calls Tryd.prog 6 #[.slice A n c, .int .i64 m, .int .i64 z, .int .u8 y] w fun e w' => e = .returned (.bool true) ∧ Below w.heap.size w w' := by
  have := bounds_u8 y1
  obtain ⟨b, rfl⟩ : ∃ b : Nat, y = (b : Int) := ⟨y.toNat, by omega⟩
  exact shardWrong_by hS hR hW A n c m z b D w hA hn h47 bD rD (wfI m1) (wfI z1) (by omega) hT
end Go.Proofs.YtpjocddeiehckaaDoor
