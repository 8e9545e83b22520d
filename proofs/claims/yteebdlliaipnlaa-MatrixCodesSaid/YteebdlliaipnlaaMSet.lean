/- The contracts of matrix's set of rows: firstRows, has, without; of lead. Condition: at most 64 rows. -/
import Derived.Test.YteebdlliaipnlaaMMul
import Derived.Test.YteebdlliaipnlaaGInv
namespace Go.Proofs.Yteebdlliaipnlaa
open Go.RowKit
/-- The rows from j to n - 1, as digits. -/
def setS (n j : Nat) : Nat := 2 ^ n - 2 ^ j
theorem setS_first : ∀ n < 65, 1 ≤ n → (18446744073709551615 : Nat) / 2 ^ (64 - n) = setS n 0 := by decide +kernel
theorem setS_has : ∀ n < 65, ∀ j < n + 1, ∀ i < n, setS n j / 2 ^ i % 2 = if j ≤ i then 1 else 0 := by decide +kernel
theorem setS_less : ∀ n < 65, ∀ j < n, setS n j &&& (18446744073709551615 - 2 ^ j) = setS n (j + 1) := by decide +kernel
theorem setS_lt : ∀ n < 65, ∀ j < n + 1, setS n j < 18446744073709551616 := by decide +kernel
theorem div_cast (a k : Nat) : (a : Int) / 2 ^ k = ((a / 2 ^ k : Nat) : Int) := by simp
theorem first_any (n : Nat) (w : World) (h1 : 1 ≤ n) (h2 : n ≤ 64) :
    Calls Try.prog 28 #[.int .i64 (n : Int)] w fun e w' => e = .returned (.int .u64 (setS n 0 : Nat)) ∧ w = w' := by
  go_enter Try.func28, Try.ntmps28
  go_wp2
  go_ret
  refine ⟨ret_int ?_, rfl⟩
  rw [← setS_first n (by omega) h1, ← div_cast]
  rfl
theorem has_any (n j i : Nat) (w : World) (h1 : i < n) (h2 : n ≤ 64) (h3 : j ≤ n) :
    Calls Try.prog 41 #[.int .u64 (setS n j : Nat), .int .i64 (i : Int)] w fun e w' => e = .returned (.bool (decide (j ≤ i))) ∧ w = w' := by
  obtain ⟨s, hs⟩ : ∃ s, s = setS n j := ⟨_, rfl⟩
  rw [← hs]
  go_enter Try.func41, Try.ntmps41
  go_wp2
  go_ret
  refine ⟨ret_bool ?_, rfl⟩
  have h := setS_has n (by omega) j (by omega) i h1
  have hl := setS_lt n (by omega) j (by omega)
  rw [div_cast, and_one64 _ (Nat.lt_of_le_of_lt (Nat.div_le_self _ _) hl), h]
  split
  · rename_i e; simp [e]
  · rename_i e; simp [e]
theorem without_any (n j : Nat) (w : World) (h1 : j < n) (h2 : n ≤ 64) :
    Calls Try.prog 30 #[.int .u64 (setS n j : Nat), .int .i64 (j : Int)] w fun e w' => e = .returned (.int .u64 (setS n (j + 1) : Nat)) ∧ w = w' := by
  obtain ⟨s, hs⟩ : ∃ s, s = setS n j := ⟨_, rfl⟩
  rw [← hs]
  go_enter Try.func30, Try.ntmps30
  go_wp2
  go_ret
  refine ⟨ret_int ?_, rfl⟩
  have h := setS_less n (by omega) j h1
  have hl := setS_lt n (by omega) j (by omega)
  have hp : ∀ j < 64, 2 ^ j < 18446744073709551616 := by decide +kernel
  have hp := hp j (by omega)
  have hw : IntKind.u64.wrap (2 ^ j) = ((2 ^ j : Nat) : Int) := by
    rw [show (2 : Int) ^ j = ((2 ^ j : Nat) : Int) by simp, IntKind.wrap_u64]
    exact Int.emod_eq_of_lt (Int.natCast_nonneg _) (Int.ofNat_lt.2 hp)
  rw [hw, u64_andNot_nat _ _ hl hp, h]
/-- The first row from j on that has something at the place j, if there is one. -/
def leadS (n j : Nat) (W : ML) (v : Value) : Prop := (∃ i : Nat, v = .tuple #[.int .i64 (i : Int), .bool true] ∧ j ≤ i ∧ i < n ∧ en W i j ≠ G.zero) ∨ (v = .tuple #[.int .i64 0, .bool false] ∧ ∀ i, j ≤ i → i < n → en W i j = G.zero)
set_option maxHeartbeats 1600000 in
theorem lead_any (A : Option Addr) (n m c j : Nat) (W : ML) (w : World) (hA : IsM w A W) (hs : Shape W n m) (h1 : j < n) (h2 : n ≤ 64) (h3 : n ≤ m) (h4 : m ≤ 128) :
    Calls Try.prog 29 #[.int .u64 (setS n j : Nat), .slice A n c, .int .i64 (j : Int)] w fun e w' => ∃ v, e = .returned v ∧ leadS n j W v ∧ w' = w := by
  have HA := hide hA
  have HS := hide hs
  have HH := hide (fun i (hi : i < n) => has_any n j i w hi h2 (by omega))
  obtain ⟨s, hsv⟩ : ∃ s, s = setS n j := ⟨_, rfl⟩
  rw [← hsv] at HH ⊢
  clear hA hs hsv
  go_enter Try.func29, Try.ntmps29
  go_wp2_with fail
  go_loop [12] (fun i => ∃ k : Nat, k ≤ n ∧ i = .int .i64 (k : Int) ∧ Hid (∀ i, j ≤ i → i < k → en W i j = G.zero)) (fun i => n - (intOf i).toNat)
  case atStart => exact ⟨0, Nat.zero_le _, rfl, hide (fun i _ h => absurd h (Nat.not_lt_zero _))⟩
  case round =>
    obtain ⟨k, hk, rfl, hno⟩ := hrel
    by_cases hlt : k < n
    · obtain ⟨b, off, A', c', rfl, ck, ib, l1, m1⟩ := HA.out.at_ k (by rw [HS.out.high]; exact hlt)
      have hrow := HS.out.row hlt
      rw [hrow.1] at ck ib l1
      obtain ⟨b3, off3, rfl, cx, hx⟩ := at_place ib.rd hrow.1 hrow.2 j (by omega)
      rw [HS.out.num k j hlt] at cx hx
      have HK := hide (HH.out k hlt)
      have hjm : (j : Int) < (m : Int) := by omega
      clear hrow ib
      by_cases hjk : j ≤ k
      · rw [decide_eq_true hjk] at HK
        by_cases hz : en W k j = G.zero
        · have hz0 : ((en W k j).n : Int) = 0 := by rw [hz]; rfl
          rw [hz0] at cx
          have HZ := hide hz
          clear hz0 hz hx
          go_wp2_with fail
          refine HK.out.mono ?_
          rintro e w1 ⟨rfl, rfl⟩
          go_wp2_with fail
          go_round
          case rel =>
            refine ⟨k + 1, by omega, by go_num, hide (fun i h0 h => ?_)⟩
            by_cases e : i = k
            · subst e; exact HZ.out
            · exact hno.out i h0 (by omega)
          case measure => simp [intOf]; omega
        · have HZ := hide hz
          obtain ⟨x, hxe⟩ : ∃ x, x = (en W k j).n := ⟨_, rfl⟩
          have hx0 : x ≠ 0 := fun e => hz (G.ext (by rw [← hxe, e]; rfl))
          rw [← hxe] at cx
          have hne : ((x : Int) != 0) = true := by simp; omega
          clear hz hxe hx
          go_wp2_with fail
          refine HK.out.mono ?_
          rintro e w1 ⟨rfl, rfl⟩
          go_wp2_with fail
          go_ret2
          exact ⟨_, rfl, .inl ⟨k, rfl, hjk, hlt, HZ.out⟩, rfl⟩
      · rw [decide_eq_false hjk] at HK
        clear cx hx
        go_wp2_with fail
        refine HK.out.mono ?_
        rintro e w1 ⟨rfl, rfl⟩
        go_wp2_with fail
        go_round
        case rel =>
          refine ⟨k + 1, by omega, by go_num, hide (fun i h0 h => ?_)⟩
          exact hno.out i h0 (by omega)
        case measure => simp [intOf]; omega
    · obtain rfl : k = n := by omega
      go_wp2_with fail
      go_ret2
      exact ⟨_, rfl, .inr ⟨rfl, hno.out⟩, rfl⟩
end Go.Proofs.Yteebdlliaipnlaa
