/- The contracts of bits.Turn, bits.Count and of the document's own: digits turned to the left, digits counted. No conditions but the widths. -/
import Derived.Test.YtndkdfbcbofnkaaNums
import Derived.WalkSpells
import Derived.WalkLawsBesides
namespace Go.Proofs.Ytndkdfbcbofnkaa
open Go.RowKit
set_option maxHeartbeats 400000 in
theorem turn_any (v : Nat) (n : Int) (w : World) (hv : v < 4294967296) :
    Calls Try.prog 31 #[.int .u32 (v : Int), .int .i64 n] w fun e w' => e = .returned (.int .u32 (rot v (turnBy n) : Nat)) ∧ w = w' := by
  have hm := turn_mask n
  have hlt := turnBy_lt n
  have HR := hide (rot_walk v (turnBy n) hv)
  obtain ⟨m, hmm⟩ : ∃ m, m = turnBy n := ⟨_, rfl⟩
  rw [← hmm] at hm hlt HR ⊢
  clear hmm
  go_enter Try.func31, Try.ntmps31
  go_wp2
  go_ret
  exact ⟨ret_int HR.out, rfl⟩
set_option maxHeartbeats 400000 in
theorem rturn_any (v : Nat) (n : Int) (w : World) (hv : v < 4294967296) :
    Calls Try.prog 32 #[.int .u32 (v : Int), .int .i64 n] w fun e w' => e = .returned (.int .u32 (rot v (turnBy n) : Nat)) ∧ w = w' := by
  have hlt := turnBy_lt n
  have HR := hide (rot_walk v (turnBy n) hv)
  by_cases hneg : n.tmod 32 < 0
  · have h := turn_neg n hneg
    obtain ⟨m, hmm⟩ : ∃ m, m = turnBy n := ⟨_, rfl⟩
    rw [← hmm] at h hlt HR ⊢
    have hm : n.tmod 32 = (m : Int) - 32 := by omega
    clear hmm h hneg
    go_enter Try.func32, Try.ntmps32
    go_wp2
    go_ret
    exact ⟨ret_int HR.out, rfl⟩
  · have h := turn_pos n hneg
    obtain ⟨m, hmm⟩ : ∃ m, m = turnBy n := ⟨_, rfl⟩
    rw [← hmm] at h hlt HR ⊢
    have hm : n.tmod 32 = (m : Int) := by omega
    clear hmm h hneg
    go_enter Try.func32, Try.ntmps32
    go_wp2
    go_ret
    exact ⟨ret_int HR.out, rfl⟩
theorem and_one (x : Nat) (hx : x < 18446744073709551616) : bits .and .u64 (x : Int) 1 = ((x % 2 : Nat) : Int) := by
  rw [u64_and _ _ (by omega) (by omega) (by decide) (by decide)]
  have : (1 : Int).toNat = 1 := rfl
  rw [this, nat_mask1, Int.toNat_natCast]
set_option maxHeartbeats 400000 in
theorem count_any (v : Nat) (w : World) (hv : v < 18446744073709551616) :
    Calls Try.prog 33 #[.int .u64 (v : Int)] w fun e w' => e = .returned (.int .i64 (pc v : Nat)) ∧ w = w' := by
  have hp : pc v ≤ 64 := pc_le 64 v (by simpa using hv)
  obtain ⟨p, hpv⟩ : ∃ p, p = pc v := ⟨_, rfl⟩
  rw [← hpv] at hp ⊢
  have HP := hide hpv
  clear hpv
  have HV : Hid (v < 18446744073709551616) := hide hv
  clear hv
  go_enter Try.func33, Try.ntmps33
  go_wp2
  go_loop [0, 3] (fun x c => ∃ y k : Nat, y ≤ v ∧ k ≤ 64 ∧ k + pc y = p ∧ x = .int .u64 (y : Int) ∧ c = .int .i64 (k : Int)) (fun x _ => (intOf x).toNat)
  case atStart => exact ⟨v, 0, Nat.le_refl _, by omega, by rw [HP.out]; omega, rfl, rfl⟩
  case round =>
    obtain ⟨y, k, hy, hk, hs, rfl, rfl⟩ := hrel
    have hst := pc_step y
    have ha := and_one y (by have := HV.out; omega)
    have HS := hide hs
    have HST := hide hst
    clear hs hst
    by_cases h0 : y = 0
    · subst h0
      go_wp2
      go_ret
      exact ⟨ret_int (by have := HS.out; rw [pc_zero] at this; omega), rfl⟩
    · have hne : ((y : Int) != 0) = true := by simp; omega
      have hm2 : y % 2 ≤ 1 := by omega
      have hle : k + 1 ≤ 64 ∨ y % 2 = 0 := by
        have := HS.out; have := HST.out
        omega
      go_wp2
      go_round
      case rel =>
        have e1 := HS.out
        have e2 := HST.out
        exact ⟨y / 2, k + y % 2, by omega, by omega, by omega, by go_num, by go_num⟩
      case measure => simp [intOf]; omega
set_option maxHeartbeats 400000 in
theorem rcount_any (v : Nat) (w : World) (hv : v < 18446744073709551616) :
    Calls Try.prog 34 #[.int .u64 (v : Int)] w fun e w' => e = .returned (.int .i64 (pc v : Nat)) ∧ w = w' := by
  have hp : pc v ≤ 64 := pc_le 64 v (by simpa using hv)
  obtain ⟨p, hpv⟩ : ∃ p, p = pc v := ⟨_, rfl⟩
  rw [← hpv] at hp ⊢
  have HP := hide hpv
  clear hpv
  go_enter Try.func34, Try.ntmps34
  go_wp2
  go_loop [0, 3] (fun x c => ∃ y k : Nat, y ≤ v ∧ k ≤ 64 ∧ k + pc y = p ∧ x = .int .u64 (y : Int) ∧ c = .int .i64 (k : Int)) (fun x _ => (intOf x).toNat)
  case atStart => exact ⟨v, 0, Nat.le_refl _, by omega, by rw [HP.out]; omega, rfl, rfl⟩
  case round =>
    obtain ⟨y, k, hy, hk, hs, rfl, rfl⟩ := hrel
    have hst := pc_step y
    have HS := hide hs
    have HST := hide hst
    clear hs hst
    by_cases h0 : y = 0
    · subst h0
      go_wp2
      go_ret
      exact ⟨ret_int (by have := HS.out; rw [pc_zero] at this; omega), rfl⟩
    · have hne : ((y : Int) != 0) = true := by simp; omega
      have hm2 : y % 2 ≤ 1 := by omega
      have hle : k + 1 ≤ 64 ∨ y % 2 = 0 := by
        have := HS.out; have := HST.out
        omega
      go_wp2
      go_round
      case rel =>
        have e1 := HS.out
        have e2 := HST.out
        exact ⟨y / 2, k + y % 2, by omega, by omega, by omega, by go_num, by go_num⟩
      case measure => simp [intOf]; omega
end Go.Proofs.Ytndkdfbcbofnkaa
