/- What bytes begin with, case by case. It names nothing of the program. -/
import Derived.Test.YtkgkhielfodmmaaNdL
namespace Go.Proofs.Ytkgkhielfodmmaa
open Go.RowKit
/-- Are the bytes behind Data what Encode lays there? -/
def TailOk (b : List Nat) : Prop := (b.drop (24 + hLen b)).take (ndSize (hLen b) - 24 - hLen b) = ndTail ((b.drop 24).take (hLen b))
instance (b : List Nat) : Decidable (TailOk b) := by unfold TailOk; infer_instance
theorem ndDec_short {b : List Nat} (h : b.length < 24) : ndDec b = ((0, 0, false, []), 0, 2) := by unfold ndDec; rw [if_pos h]
theorem ndDec_form {b : List Nat} (h : 24 ≤ b.length) (hno : ¬ HeadOk b) : ndDec b = ((0, 0, false, []), 0, 3) := by unfold ndDec; rw [if_neg (by omega), if_pos hno]
theorem ndDec_short2 {b : List Nat} (h : 24 ≤ b.length) (hok : HeadOk b) (hs : b.length < ndSize (hLen b)) : ndDec b = ((0, 0, false, []), 0, 2) := by unfold ndDec; rw [if_neg (by omega), if_neg (fun h => h hok), if_pos hs]
theorem ndDec_sum {b : List Nat} (h : 24 ≤ b.length) (hok : HeadOk b) (hs : ndSize (hLen b) ≤ b.length) (ht : ¬ TailOk b) : ndDec b = ((hKey b, hCook b, hDead b, []), ndSize (hLen b), 4) := by unfold ndDec; rw [if_neg (by omega), if_neg (fun h => h hok), if_neg (by omega)]; exact if_pos (fun e => ht e)
theorem ndDec_ok {b : List Nat} (h : 24 ≤ b.length) (hok : HeadOk b) (hs : ndSize (hLen b) ≤ b.length) (ht : TailOk b) : ndDec b = ((hKey b, hCook b, hDead b, (b.drop 24).take (hLen b)), ndSize (hLen b), 0) := by unfold ndDec; rw [if_neg (by omega), if_neg (fun h => h hok), if_neg (by omega), if_neg (fun h => h ht)]
end Go.Proofs.Ytkgkhielfodmmaa
