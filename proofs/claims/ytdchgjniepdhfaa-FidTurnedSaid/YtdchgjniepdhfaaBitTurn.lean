/- The contracts of bits.Turn, bits.Count and of the document's own: digits turned to the left. No conditions but the widths. -/
import Derived.Test.YtdchgjniepdhfaaNums
import Derived.WalkSpells
import Derived.WalkLawsBesides
namespace Go.Proofs.Ytdchgjniepdhfaa
open Go.RowKit
set_option maxHeartbeats 400000 in
theorem turn_any (v : Nat) (n : Int) (w : World) (hv : v < 4294967296) :
    Calls Try.prog 21 #[.int .u32 (v : Int), .int .i64 n] w fun e w' => e = .returned (.int .u32 (rot v (turnBy n) : Nat)) ∧ w = w' := by
  have hm := turn_mask n
  have hlt := turnBy_lt n
  have HR := hide (rot_walk v (turnBy n) hv)
  obtain ⟨m, hmm⟩ : ∃ m, m = turnBy n := ⟨_, rfl⟩
  rw [← hmm] at hm hlt HR ⊢
  clear hmm
  go_enter Try.func21, Try.ntmps21
  go_wp2
  go_ret
  exact ⟨ret_int HR.out, rfl⟩
set_option maxHeartbeats 400000 in
theorem rturn_any (v : Nat) (n : Int) (w : World) (hv : v < 4294967296) :
    Calls Try.prog 22 #[.int .u32 (v : Int), .int .i64 n] w fun e w' => e = .returned (.int .u32 (rot v (turnBy n) : Nat)) ∧ w = w' := by
  have hlt := turnBy_lt n
  have HR := hide (rot_walk v (turnBy n) hv)
  by_cases hneg : n.tmod 32 < 0
  · have h := turn_neg n hneg
    obtain ⟨m, hmm⟩ : ∃ m, m = turnBy n := ⟨_, rfl⟩
    rw [← hmm] at h hlt HR ⊢
    have hm : n.tmod 32 = (m : Int) - 32 := by omega
    clear hmm h hneg
    go_enter Try.func22, Try.ntmps22
    go_wp2
    go_ret
    exact ⟨ret_int HR.out, rfl⟩
  · have h := turn_pos n hneg
    obtain ⟨m, hmm⟩ : ∃ m, m = turnBy n := ⟨_, rfl⟩
    rw [← hmm] at h hlt HR ⊢
    have hm : n.tmod 32 = (m : Int) := by omega
    clear hmm h hneg
    go_enter Try.func22, Try.ntmps22
    go_wp2
    go_ret
    exact ⟨ret_int HR.out, rfl⟩
end Go.Proofs.Ytdchgjniepdhfaa
