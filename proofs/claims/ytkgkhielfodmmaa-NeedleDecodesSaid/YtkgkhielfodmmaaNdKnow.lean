/- The law's own comparison of needles, and what it knows of them. No condition but the widths. -/
import Derived.Test.YtkgkhielfodmmaaNdEnc
import Derived.Test.YtkgkhielfodmmaaSame
import Derived.Test.YtkgkhielfodmmaaConstB
namespace Go.Proofs.Ytkgkhielfodmmaa
open Go.RowKit
set_option maxRecDepth 100000 in
set_option maxHeartbeats 1600000 in
theorem needles_same (k c : Nat) (d : Bool) (A B : Option Addr) (n ca cb : Nat) (xs : List Nat) (w : World) (hA : IsB w (.slice A n ca) xs) (hB : IsB w (.slice B n cb) xs) :
    Calls Try.prog 17 #[.agg #[.int .u64 (k : Int), .int .u32 (c : Int), .bool d, .slice A n ca], .agg #[.int .u64 (k : Int), .int .u32 (c : Int), .bool d, .slice B n cb]] w fun e w' => e = .returned (.bool true) ∧ Below w.heap.size w w' := by
  have hl := (isB_len hA).1
  have hm := (isB_len hA).2
  have k1 := below_alloc w (.cells #[.int .u64 (k : Int), .int .u32 (c : Int), .bool d, .slice A n ca] 26)
  have k2 := below_alloc (w.alloc (.cells #[.int .u64 (k : Int), .int .u32 (c : Int), .bool d, .slice A n ca] 26)) (.cells #[.int .u64 (k : Int), .int .u32 (c : Int), .bool d, .slice B n cb] 26)
  have kk := below_step k1 k2
  have IA := hide (hA.keep kk)
  have IB := hide (hB.keep kk)
  have KK := hide kk
  have HL := hide hl
  have e1 : ((k : Int) == (k : Int)) = true := by simp
  have e2 : ((c : Int) == (c : Int)) = true := by simp
  clear hA hB k1 k2 kk hl
  rcases d
  all_goals
    go_enter Try.func17, Try.ntmps17
    go_wp2_with fail
    refine (same_any A B n n ca cb xs xs _ IA.out.rd IB.out.rd HL.out.symm HL.out.symm (by omega) (by omega)).mono ?_
    rintro e w9 ⟨rfl, d9, rfl⟩
    rw [decide_eq_true rfl]
    go_wp2_with fail
    go_ret
    exact ⟨rfl, below_drewN KK.out d9⟩
theorem needleL_first (k c : Nat) (d : Bool) (data : List Nat) : (needleL k c d data).getD 0 0 = 110 := rfl
set_option maxRecDepth 100000 in
set_option maxHeartbeats 1600000 in
theorem known_any (w : World) : Calls Try.prog 14 #[] w fun e w' => e = .returned (.bool true) ∧ Below w.heap.size w w' := by
  have kc := fun (w : World) (C : Array Value) (n c : Nat) => const_bytes w C n c _ rfl
  have IC := hide (fun (cs : Array Value) (fr : Nat × Nat) (hl : cs.toList = [97, 98, 99, 100, 101].map fun x : Nat => Value.int .u8 (x : Int)) => isB_const w cs fr [97, 98, 99, 100, 101] hl (by decide) _ 5 rfl rfl)
  have KC := hide (fun (cs : Array Value) (fr : Nat × Nat) => below_alloc w (.cells cs 5 fr))
  obtain ⟨R, hR⟩ : ∃ R, R = needleL 1 2 false [97, 98, 99, 100, 101] := ⟨_, rfl⟩
  have hRl : R.length = 40 := by rw [hR, needleL_len _ _ _ _ (by decide)]; decide
  have hR0 : R.getD 0 0 = 110 := by rw [hR]; exact needleL_first _ _ _ _
  have HR := hide (And.intro hR (And.intro hRl hR0))
  clear hR hRl hR0
  go_enter Try.func14, Try.ntmps14
  go_wp2_with fail
  refine (ndenc_ok 1 2 false _ 5 5 [97, 98, 99, 100, 101] _ (IC.out _ _ rfl) rfl (by decide) (by decide) (by decide) (by decide) (by decide)).mono ?_
  rw [← HR.out.1]
  rintro e w1 ⟨s1, rfl, o1, k1⟩
  obtain ⟨A1, c1, rfl, i1, l1, m1⟩ := o1.isB.form (n := 40) HR.out.2.1
  obtain ⟨g, off, rfl, hc⟩ := i1.rd (by intro e; have := HR.out.2.1; rw [e] at this; simp at this)
  have h0 := hc 0 (by rw [HR.out.2.1]; decide)
  rw [HR.out.2.2, Nat.add_zero] at h0
  have h0 : w1.cell? ⟨g, off, none⟩ = some (.int .u8 110) := h0
  have K1 := hide (below_step (KC.out _ _) k1)
  clear o1 k1 i1 hc kc
  go_wp2_with fail
  refine (ndsize_any 4 _ (by decide) (by decide)).mono ?_
  rintro e w2 ⟨rfl, rfl⟩
  have e4 : ndSize (4 : Int).toNat = 32 := by decide
  rw [e4]
  go_wp2_with fail
  go_ret
  exact ⟨rfl, K1.out⟩
end Go.Proofs.Ytkgkhielfodmmaa
