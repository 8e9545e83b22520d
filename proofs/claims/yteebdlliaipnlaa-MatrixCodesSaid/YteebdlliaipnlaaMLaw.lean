/- The contracts of the law's own 'known' and 'great'. No condition but the widths. -/
import Derived.Test.YteebdlliaipnlaaMCode
namespace Go.Proofs.Yteebdlliaipnlaa
open Go.RowKit
set_option maxHeartbeats 800000 in
theorem known_any (w : World) : Calls Try.prog 12 #[] w fun e w' => e = .returned (.bool true) ∧ Below w.heap.size w w' := by
  have HC := code_any 2 1 w (by omega) (by omega)
  rw [show ((2 : Nat) : Int) = 2 from rfl, show ((1 : Nat) : Int) = 1 from rfl] at HC
  have HC := hide HC
  have HK := hide code_known
  go_enter Try.func12, Try.ntmps12
  go_wp2_with fail
  refine HC.out.mono ?_
  rintro e w1 ⟨v, rfl, o1, k1⟩
  rw [HK.out] at o1
  obtain ⟨A, c, rfl, im, _⟩ := o1.form (n := 3) rfl
  obtain ⟨b, off, A2, c2, rfl, ck, ib, l2, m2⟩ := im.at_ 2 (by decide)
  have e2 : ([[1, 0], [0, 1], [142, 244]] : ML).getD 2 [] = [142, 244] := rfl
  rw [e2, show ([142, 244] : List Nat).length = 2 from rfl] at ck ib l2
  have K1 := hide k1
  have ka := below_alloc w1 (.cells #[.int .u8 142, .int .u8 244] 5)
  have HS := hide (same_any A2 (some ⟨w1.heap.size, 0, none⟩) 2 2 c2 2 [142, 244] [142, 244] (w1.alloc (.cells #[.int .u8 142, .int .u8 244] 5)) (ib.keep ka).rd (isB_new w1 _ [142, 244] rfl (by decide) _ 2 rfl rfl).rd rfl rfl (by omega) (by omega))
  have KA := hide (K1.out.trans (ka.mono K1.out.size))
  clear o1 im e2 ka k1 ib
  go_wp2_with fail
  refine HS.out.mono ?_
  rintro e w2 ⟨rfl, d, rfl⟩
  go_wp2_with fail
  go_ret
  exact ⟨rfl, below_draw KA.out d⟩
/-- Yes or no. -/
def ABool (v : Value) : Prop := ∃ t, v = .bool t
set_option maxHeartbeats 800000 in
theorem great_any (A : Option Addr) (n c : Nat) (xss : ML) (w : World) (hA : IsM w A xss) (hn : xss.length = n) (h63 : n ≤ 9223372036854775807) :
    Calls Try.prog 8 #[.slice A n c] w fun e w' => ∃ v, e = .returned v ∧ ABool v ∧ w' = w := by
  have HA := hide hA
  have HN := hide hn
  clear hA hn
  go_enter Try.func8, Try.ntmps8
  go_wp2_with fail
  go_loop [3, 4] (fun s i => ∃ (k : Nat) (z : Int), k ≤ n ∧ i = .int .i64 (k : Int) ∧ s = .int .i64 z) (fun _ i => n - (intOf i).toNat)
  case atStart => exact ⟨0, 0, Nat.zero_le _, rfl, rfl⟩
  case round =>
    obtain ⟨k, z, hk, rfl, rfl⟩ := hrel
    by_cases hlt : k < n
    · by_cases hz : z ≤ 1200
      · obtain ⟨b, off, A', c', rfl, ck, -, l1, m1⟩ := HA.out.at_ k (by rw [HN.out]; exact hlt)
        obtain ⟨l, hl⟩ : ∃ l, l = (xss.getD k []).length := ⟨_, rfl⟩
        rw [← hl] at ck l1
        clear hl
        go_wp2_with fail
        go_round
        case rel => exact ⟨k + 1, _, by omega, by go_num, rfl⟩
        case measure => simp [intOf]; omega
      · go_wp2_with fail
        go_ret
        exact ⟨_, rfl, ⟨_, rfl⟩, rfl⟩
    · obtain rfl : k = n := by omega
      go_wp2_with fail
      go_ret
      exact ⟨_, rfl, ⟨_, rfl⟩, rfl⟩
theorem rows_same (A B : Option Addr) (n ca cb : Nat) (xss : ML) (w : World) (hA : IsM w A xss) (hB : IsM w B xss) (hn : xss.length = n) (h63 : n ≤ 9223372036854775807) :
    Calls Try.prog 11 #[.slice A n ca, .slice B n cb] w fun e w' => e = .returned (.bool true) ∧ ∃ d, w' = w.drewN d := by
  obtain ⟨vs, h1, h2⟩ := hA
  obtain ⟨us, h3, h4⟩ := hB
  exact rows_any A B n ca cb vs us xss w h1 h3 (by rw [h2.1, hn]) h2 h4 h63
/-! ### what is answered, also where it is refused -/
def oneR (n : Int) : ML := if 1 ≤ n ∧ n ≤ 64 then oneL n.toNat else []
def oneE (n : Int) : Int := if 1 ≤ n ∧ n ≤ 64 then 0 else 1
theorem one_all (n : Int) (w : World) : Calls Try.prog 15 #[.int .i64 n] w fun e w' => ∃ v, e = .returned (.tuple #[v, .int .i64 (oneE n)]) ∧ OwnMt w' w.heap.size v (oneR n) ∧ Below w.heap.size w w' := by
  unfold oneE oneR
  by_cases h : 1 ≤ n ∧ n ≤ 64
  · rw [if_pos h, if_pos h]
    obtain ⟨k, rfl⟩ : ∃ k : Nat, n = (k : Int) := ⟨n.toNat, by omega⟩
    rw [Int.toNat_natCast]
    exact (one_any k w (by omega) (by omega)).mono fun e w' ⟨g, h1, h2, h3⟩ => ⟨_, h1, h2, h3⟩
  · rw [if_neg h, if_neg h]
    refine (one_bad n w (by omega)).mono ?_
    rintro e w' ⟨rfl, rfl⟩
    exact ⟨_, rfl, OwnMt.nil _ _, Below.refl _ _⟩
theorem rone_all (n : Int) (w : World) : Calls Try.prog 16 #[.int .i64 n] w fun e w' => ∃ v, e = .returned (.tuple #[v, .int .i64 (oneE n)]) ∧ OwnMt w' w.heap.size v (oneR n) ∧ Below w.heap.size w w' := by
  unfold oneE oneR
  by_cases h : 1 ≤ n ∧ n ≤ 64
  · rw [if_pos h, if_pos h]
    obtain ⟨k, rfl⟩ : ∃ k : Nat, n = (k : Int) := ⟨n.toNat, by omega⟩
    rw [Int.toNat_natCast]
    exact rone_any k w (by omega) (by omega)
  · rw [if_neg h, if_neg h]
    refine (rone_bad n w (by omega)).mono ?_
    rintro e w' ⟨rfl, rfl⟩
    exact ⟨_, rfl, OwnMt.nil _ _, Below.refl _ _⟩
def codeR (k m : Int) : ML := if k < 1 ∨ m < 0 ∨ 14 < k + m then [] else codeL k.toNat m.toNat
def codeE (k m : Int) : Int := if k < 1 ∨ m < 0 ∨ 14 < k + m then 1 else 0
theorem code_all (k m : Int) (w : World) (k1 : -9223372036854775808 ≤ k) (k2 : k ≤ 9223372036854775807) (m1 : -9223372036854775808 ≤ m) (m2 : m ≤ 9223372036854775807) :
    Calls Try.prog 18 #[.int .i64 k, .int .i64 m] w fun e w' => ∃ v, e = .returned (.tuple #[v, .int .i64 (codeE k m)]) ∧ OwnMt w' w.heap.size v (codeR k m) ∧ Below w.heap.size w w' := by
  unfold codeE codeR
  by_cases h : k < 1 ∨ m < 0 ∨ 14 < k + m
  · rw [if_pos h, if_pos h]
    refine (code_bad k m w k1 k2 m1 m2 h).mono ?_
    rintro e w' ⟨rfl, rfl⟩
    exact ⟨_, rfl, OwnMt.nil _ _, Below.refl _ _⟩
  · rw [if_neg h, if_neg h]
    obtain ⟨a, rfl⟩ : ∃ a : Nat, k = (a : Int) := ⟨k.toNat, by omega⟩
    obtain ⟨b, rfl⟩ : ∃ b : Nat, m = (b : Int) := ⟨m.toNat, by omega⟩
    rw [Int.toNat_natCast, Int.toNat_natCast]
    exact code_any a b w (by omega) (by omega)
theorem rcode_all (k m : Int) (w : World) (k1 : -9223372036854775808 ≤ k) (k2 : k ≤ 9223372036854775807) (m1 : -9223372036854775808 ≤ m) (m2 : m ≤ 9223372036854775807) :
    Calls Try.prog 19 #[.int .i64 k, .int .i64 m] w fun e w' => ∃ v, e = .returned (.tuple #[v, .int .i64 (codeE k m)]) ∧ OwnMt w' w.heap.size v (codeR k m) ∧ Below w.heap.size w w' := by
  unfold codeE codeR
  by_cases h : k < 1 ∨ m < 0 ∨ 14 < k + m
  · rw [if_pos h, if_pos h]
    refine (rcode_bad k m w k1 k2 m1 m2 h).mono ?_
    rintro e w' ⟨rfl, rfl⟩
    exact ⟨_, rfl, OwnMt.nil _ _, Below.refl _ _⟩
  · rw [if_neg h, if_neg h]
    obtain ⟨a, rfl⟩ : ∃ a : Nat, k = (a : Int) := ⟨k.toNat, by omega⟩
    obtain ⟨b, rfl⟩ : ∃ b : Nat, m = (b : Int) := ⟨m.toNat, by omega⟩
    rw [Int.toNat_natCast, Int.toNat_natCast]
    exact rcode_any a b w (by omega) (by omega)
open Classical in
noncomputable def mulR (A B : ML) : ML := if mulBad A B then [] else mulL A B A.length B.length (B.getD 0 []).length
open Classical in
noncomputable def mulE (A B : ML) : Int := if mulBad A B then 1 else 0
theorem mul_fit {A B : ML} (h : ¬ mulBad A B) (hA : ∀ r ∈ A, ∀ x ∈ r, x < 256) (hB : ∀ r ∈ B, ∀ x ∈ r, x < 256) :
    1 ≤ A.length ∧ A.length ≤ 64 ∧ 1 ≤ B.length ∧ B.length ≤ 64 ∧ 1 ≤ (B.getD 0 []).length ∧ (B.getD 0 []).length ≤ 64 ∧ Shape A A.length B.length ∧ Shape B B.length (B.getD 0 []).length := by
  have h1 : isMt A = true := by
    rcases e : isMt A with _ | _
    · exact absurd (.inl e) h
    · rfl
  have h2 : isMt B = true := by
    rcases e : isMt B with _ | _
    · exact absurd (.inr (.inl e)) h
    · rfl
  have h3 : (A.getD 0 []).length = B.length := by
    rcases Decidable.em ((A.getD 0 []).length = B.length) with e | e
    · exact e
    · exact absurd (.inr (.inr e)) h
  have d1 := of_decide_eq_true h1
  have d2 := of_decide_eq_true h2
  refine ⟨d1.1, d1.2.1, d2.1, d2.2.1, d2.2.2.1, d2.2.2.2.1, ⟨rfl, ?_, hA⟩, ⟨rfl, d2.2.2.2.2, hB⟩⟩
  rw [← h3]
  exact d1.2.2.2.2
theorem mul_all (A B : Option Addr) (n n2 c c2 : Nat) (xss yss : ML) (w : World) (hA : IsM w A xss) (hB : IsM w B yss) (hn : xss.length = n) (hn2 : yss.length = n2) (h63 : n ≤ 9223372036854775807) (h632 : n2 ≤ 9223372036854775807)
    (bA : ∀ r ∈ xss, ∀ x ∈ r, x < 256) (bB : ∀ r ∈ yss, ∀ x ∈ r, x < 256) :
    Calls Try.prog 9 #[.slice A n c, .slice B n2 c2] w fun e w' => ∃ v, e = .returned (.tuple #[v, .int .i64 (mulE xss yss)]) ∧ OwnMt w' w.heap.size v (mulR xss yss) ∧ Below w.heap.size w w' := by
  unfold mulE mulR
  by_cases h : mulBad xss yss
  · rw [if_pos h, if_pos h]
    refine (mul_bad A B n n2 c c2 xss yss w hA hB hn hn2 h63 h632 h).mono ?_
    rintro e w' ⟨rfl, hb⟩
    exact ⟨_, rfl, OwnMt.nil _ _, hb⟩
  · rw [if_neg h, if_neg h]
    obtain ⟨h1, h2, h3, h4, h5, h6, sA, sB⟩ := mul_fit h bA bB
    rw [hn] at h1 h2 sA ⊢
    rw [hn2] at h3 h4 sA sB ⊢
    exact (mul_mat A B n n2 _ c c2 xss yss w hA hB sA sB h1 h2 h3 h4 h5 h6).mono fun e w' ⟨g, k1, k2, k3⟩ => ⟨_, k1, k2, k3⟩
theorem rmul_all (A B : Option Addr) (n n2 c c2 : Nat) (xss yss : ML) (w : World) (hA : IsM w A xss) (hB : IsM w B yss) (hn : xss.length = n) (hn2 : yss.length = n2) (h63 : n ≤ 9223372036854775807) (h632 : n2 ≤ 9223372036854775807)
    (bA : ∀ r ∈ xss, ∀ x ∈ r, x < 256) (bB : ∀ r ∈ yss, ∀ x ∈ r, x < 256) :
    Calls Try.prog 10 #[.slice A n c, .slice B n2 c2] w fun e w' => ∃ v, e = .returned (.tuple #[v, .int .i64 (mulE xss yss)]) ∧ OwnMt w' w.heap.size v (mulR xss yss) ∧ Below w.heap.size w w' := by
  unfold mulE mulR
  by_cases h : mulBad xss yss
  · rw [if_pos h, if_pos h]
    refine (rmul_bad A B n n2 c c2 xss yss w hA hB hn hn2 h63 h632 h).mono ?_
    rintro e w' ⟨rfl, hb⟩
    exact ⟨_, rfl, OwnMt.nil _ _, hb⟩
  · rw [if_neg h, if_neg h]
    obtain ⟨h1, h2, h3, h4, h5, h6, sA, sB⟩ := mul_fit h bA bB
    rw [hn] at h1 h2 sA ⊢
    rw [hn2] at h3 h4 sA sB ⊢
    exact rmul_mat A B n n2 _ c c2 xss yss w hA hB sA sB h1 h2 h3 h4 h5 h6
end Go.Proofs.Yteebdlliaipnlaa
