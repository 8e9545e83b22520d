/- The walk of the law WireBounds: it returns true for any two numbers, and writes nothing that was there. No conditions but the widths. -/
import Derived.Test.YtjchpnmipmplkaaSameM
import Derived.Test.YtjchpnmipmplkaaREnc
import Derived.Test.YtjchpnmipmplkaaMessage
namespace Go.Proofs.Ytjchpnmipmplkaa
open Go.RowKit
/-- Of a message of so many noughts: which error. -/
theorem wenc_noughts (n : Nat) (w : World) (hn : n ≤ 200) (N : Value) (hN : ∃ A c, N = .slice A n c ∧ IsI w N (List.replicate n 0)) :
    Calls Try.prog 9 #[.agg #[.int .i64 0, .int .i64 0, .int .i64 0, N, .slice none 0 0]] w fun e w' => (∃ s, e = .returned (.tuple #[s, .int .i64 (if 64 < n then 1 else 0)])) ∧ Below w.heap.size w w' := by
  obtain ⟨A, c, rfl, hI⟩ := hN
  by_cases h : 64 < n
  · rw [if_pos h]
    refine (wenc_bad 0 0 0 A none n c 0 0 w (by unfold BadM; omega)).mono ?_
    rintro e w' ⟨rfl, k⟩
    exact ⟨⟨_, rfl⟩, k⟩
  · rw [if_neg h]
    refine (wenc_ok 0 0 0 A none n c 0 0 (List.replicate n 0) [] w hI ⟨none, 0, rfl, fun h => absurd rfl h, fun _ => rfl, Nat.zero_le _, by decide⟩ rfl (by simp) ⟨Nat.zero_le _, Nat.zero_le _, Nat.zero_le _, by simp; omega, by intro z hz; rw [List.eq_of_mem_replicate hz]; decide, Nat.zero_le _⟩).mono ?_
    rintro e w' ⟨s, rfl, _, k⟩
    exact ⟨⟨s, rfl⟩, k⟩
theorem wenc_from (x : Int) (w : World) :
    Calls Try.prog 9 #[.agg #[.int .i64 x, .int .i64 0, .int .i64 0, .slice none 0 0, .slice none 0 0]] w fun e w' => (∃ s, e = .returned (.tuple #[s, .int .i64 (if x < 0 ∨ 2147483647 < x then 1 else 0)])) ∧ Below w.heap.size w w' := by
  by_cases h : x < 0 ∨ 2147483647 < x
  · rw [if_pos h]
    refine (wenc_bad x 0 0 none none 0 0 0 0 w (by unfold BadM; exact Or.inl h)).mono ?_
    rintro e w' ⟨rfl, k⟩
    exact ⟨⟨_, rfl⟩, k⟩
  · rw [if_neg h]
    obtain ⟨y, rfl⟩ : ∃ y : Nat, x = (y : Int) := ⟨x.toNat, by omega⟩
    refine (wenc_ok y 0 0 none none 0 0 0 0 [] [] w (isI_nil w) ⟨none, 0, rfl, fun h => absurd rfl h, fun _ => rfl, Nat.zero_le _, by decide⟩ rfl (by simp) ⟨by show y ≤ 2147483647; omega, Nat.zero_le _, Nat.zero_le _, Nat.zero_le _, by simp, Nat.zero_le _⟩).mono ?_
    rintro e w' ⟨s, rfl, _, k⟩
    exact ⟨⟨s, rfl⟩, k⟩
set_option maxHeartbeats 1600000 in
theorem wireBounds_out (n x : Int) (w : World) (h : n < 0 ∨ 200 < n) :
    Calls Try.prog 7 #[.int .i64 n, .int .i64 x] w fun e w' => e = .returned (.bool true) ∧ Below w.heap.size w w' := by
  have hall : n < 0 ∨ ¬ n < 0 ∧ 200 < n := by omega
  clear h
  rcases hall with h | ⟨h, h2⟩
  all_goals
    go_enter Try.func7, Try.ntmps7
    go_wp2_with fail
    refine (known_any _).mono ?_
    rintro e w7 ⟨rfl, k7⟩
    go_wp2_with fail
    go_ret
    exact ⟨rfl, k7⟩
set_option maxHeartbeats 3200000 in
theorem wireBounds_core (n : Nat) (x : Int) (w : World) (h : n ≤ 200) :
    Calls Try.prog 7 #[.int .i64 (n : Int), .int .i64 x] w fun e w' => e = .returned (.bool true) ∧ Below w.heap.size w w' := by
  have hmk := run_make_row' (P := Try.prog) 22 3 (.int .i64 0) 8 Try.underlying22 Try.info_int rfl .i64 .i64 n (by omega) (by omega)
  have ka : Below w.heap.size w (w.alloc (.cells (madeCells #[.int .i64 0] n) 3)) := (Below.refl _ _).alloc (Nat.le_refl _) _
  have iN : IsI (w.alloc (.cells (madeCells #[.int .i64 0] n) 3)) (.slice (some ⟨w.heap.size, 0, none⟩) n n) (List.replicate n 0) :=
    isI_new w _ _ (0, 0) (List.replicate n 0) _ n rfl (by simp) (by rw [toList_madeCells_one]; simp) (by omega)
  have h1 := wenc_noughts n _ h _ ⟨_, _, rfl, iN⟩
  have H1 := hide h1
  have KA := hide ka
  have hn : decide ((64 : Int) < (n : Int)) = true ∧ Hid ((if 64 < n then (1 : Int) else 0) = 1) ∨ decide ((64 : Int) < (n : Int)) = false ∧ Hid ((if 64 < n then (1 : Int) else 0) = 0) := by
    by_cases e : 64 < n
    · left; exact ⟨by simp; omega, if_pos e⟩
    · right; exact ⟨by simp; omega, if_neg e⟩
  have hx : decide (x < 0) = true ∧ Hid ((if x < 0 ∨ 2147483647 < x then (1 : Int) else 0) = 1) ∨ decide (x < 0) = false ∧ (decide (2147483647 < x) = true ∧ Hid ((if x < 0 ∨ 2147483647 < x then (1 : Int) else 0) = 1) ∨ decide (2147483647 < x) = false ∧ Hid ((if x < 0 ∨ 2147483647 < x then (1 : Int) else 0) = 0)) := by
    by_cases e : x < 0
    · left; exact ⟨by simp; omega, if_pos (Or.inl e)⟩
    · right
      refine ⟨by simp; omega, ?_⟩
      by_cases e2 : 2147483647 < x
      · left; exact ⟨by simp; omega, if_pos (Or.inr e2)⟩
      · right; exact ⟨by simp; omega, if_neg (by omega)⟩
  have HX := hide (fun w => wenc_from x w)
  clear h1 iN ka
  rcases hn with ⟨hn, E1⟩ | ⟨hn, E1⟩ <;> rcases hx with ⟨hx, E2⟩ | ⟨hx, ⟨hx2, E2⟩ | ⟨hx2, E2⟩⟩
  all_goals
    go_enter Try.func7, Try.ntmps7
    go_wp2_with fail
    refine H1.out.mono ?_
    rintro e w2 ⟨⟨s2, rfl⟩, k2⟩
    rw [E1.out]
    have K2 := hide (below_step KA.out k2)
    clear k2
    go_wp2_with fail
    refine (HX.out _).mono ?_
    rintro e w3 ⟨⟨s3, rfl⟩, k3⟩
    rw [E2.out]
    have K3 := hide (below_step K2.out k3)
    clear k3
    go_wp2_with fail
    refine (known_any _).mono ?_
    rintro e w7 ⟨rfl, k7⟩
    go_wp2_with fail
    go_ret
    exact ⟨rfl, below_step K3.out k7⟩
theorem wireBounds_walk (a0 : Int) (a1 : Int) (_w0 : (Lit.int .i64 a0).wf = true) (_w1 : (Lit.int .i64 a1).wf = true) (w : World) :
    Calls Try.prog 7 #[.int .i64 a0, .int .i64 a1] w fun e w' => e = .returned (.bool true) ∧ Below w.heap.size w w' := by
  by_cases h : a0 < 0 ∨ 200 < a0
  · exact wireBounds_out a0 a1 w h
  · obtain ⟨n, rfl⟩ : ∃ n : Nat, a0 = (n : Int) := ⟨a0.toNat, by omega⟩
    exact wireBounds_core n a1 w (by omega)
end Go.Proofs.Ytjchpnmipmplkaa
