/- The contract of the net's Twice. No condition but the widths. -/
import Derived.Test.YtdhamhaadclhkaaRNAt
namespace Go.Proofs.Ytdhamhaadclhkaa
open Go.RowKit
theorem twice_no (F : Nat → Prop) (g : Nat) (v : Value) (X : List Itm) (i : Int) (w : World) (h : NShell PN w F g v X) (hi : ¬ (0 ≤ i ∧ i < (X.length : Int)) ∨ X.length = 4096) :
    Calls Try.prog 28 #[.pointer (some ⟨g, 0, none⟩), .int .i64 i] w fun e w' => e = .returned (.bool false) ∧ Below w.heap.size w w' := by
  have HH := hide (has_any F g v X i w h)
  have HF := hide (isFull_any F g v X w h)
  by_cases h1 : 0 ≤ i ∧ i < (X.length : Int)
  · have h2 : X.length = 4096 := hi.resolve_left (fun h => h h1)
    rw [decide_eq_true h1] at HH
    rw [decide_eq_true h2] at HF
    clear h hi h1 h2
    go_enter Try.func28, Try.ntmps28
    go_wp2_with fail
    refine HH.out.mono ?_
    rintro e w' ⟨rfl, rfl⟩
    go_wp2_with fail
    refine HF.out.mono ?_
    rintro e w' ⟨rfl, rfl⟩
    go_wp2_with fail
    go_ret
    exact ⟨rfl, Below.refl _ _⟩
  · rw [decide_eq_false h1] at HH
    clear h hi h1
    go_enter Try.func28, Try.ntmps28
    go_wp2_with fail
    refine HH.out.mono ?_
    rintro e w' ⟨rfl, rfl⟩
    go_wp2_with fail
    go_ret
    exact ⟨rfl, Below.refl _ _⟩
set_option maxRecDepth 100000 in
set_option maxHeartbeats 3200000 in
theorem twice_ok (F : Nat → Prop) (g : Nat) (v : Value) (X : List Itm) (i : Nat) (w : World) (h : NShell PN w F g v X) (hi : i < X.length) (hf : X.length < 4096) :
    Calls Try.prog 28 #[.pointer (some ⟨g, 0, none⟩), .int .i64 (i : Int)] w fun e w' => e = .returned (.bool true) ∧ ∃ v', NShell PN w' (andNew F w w') g v' (X ++ [X[i]]) ∧ Turn F w w' := by
  have HH := hide (has_any F g v X i w h)
  have HF := hide (isFull_any F g v X w h)
  rw [decide_eq_true (show 0 ≤ (i : Int) ∧ (i : Int) < (X.length : Int) from ⟨by omega, by omega⟩)] at HH
  rw [decide_eq_false (by omega)] at HF
  have gd := h.each X[i] (List.getElem_mem hi)
  obtain ⟨A, c, D, cp, hq, hA⟩ := five_form gd
  have HM := hide (List.getElem_mem hi)
  obtain ⟨A0, c0, rfl, hlc, hc63, -, hcl⟩ := h.row.form
  obtain ⟨b, rfl, -, hbl, x0, x1, x2, x3, x4, -⟩ := hcl i hi
  have q0 : w.cell? ⟨g, 0, none⟩ = some (.slice (some ⟨b, 0, none⟩) X.length c0) := h.cells.cell 0
  have hgl : g < w.heap.size := h.cells.lt
  obtain ⟨f, t, k, U, V, zs, d, hx⟩ : ∃ f t k U V zs d, X[i] = ⟨f, t, k, U, V, zs, d⟩ := ⟨_, _, _, _, _, _, _, rfl⟩
  rw [hx] at x0 x1 x2 x3 x4 hq gd HM ⊢
  simp only [Itm.mk.injEq, true_and, and_true] at hq
  obtain ⟨rfl, rfl⟩ := hq
  obtain ⟨N, hN⟩ : ∃ N, N = X.length := ⟨_, rfl⟩
  rw [← hN] at q0 hi hlc hf
  have HN := hide hN
  have hii : (i : Int) < (N : Int) := by omega
  have hi0 : (0 : Int) ≤ (i : Int) := by omega
  have HX := hide h
  clear h hcl gd hx hN
  go_enter Try.func28, Try.ntmps28
  go_wp2_with fail
  refine HH.out.mono ?_
  rintro e w' ⟨rfl, rfl⟩
  go_wp2_with fail
  refine HF.out.mono ?_
  rintro e w' ⟨rfl, rfl⟩
  go_wp2_with fail
  have KA := below_alloc w (.cells #[.int .i64 f, .int .i64 t, .int .i64 k, .slice A zs.length c, .slice D d.length cp] 45)
  go_region_law (first
      | (refine step_append_msgs rfl (.tmp 17) (.tmp 25) rfl 0 (.slice (some ⟨b, 0, none⟩) X.length c0) X (by rw [← HN.out]; rfl) ((HX.out.below ⟨KA.os, KA.tape, KA.output, KA.size, KA.block⟩).row) (.slice (some ⟨w.heap.size, 0, none⟩) 1 1) [⟨f, t, k, .slice A zs.length c, .slice D d.length cp, zs, d⟩] rfl (isM_one _ f t k A _ c D _ cp zs d _ rfl) (by rw [← HN.out, List.length_singleton]; omega) (Nat.zero_le _) ?_; intro v4 w4 o4 g4 l4; obtain ⟨b4, s4, t4⟩ := HX.out.appended (by decide) (by decide) (by decide) (by exact ⟨KA.os, KA.tape, KA.output, KA.size, KA.block⟩) o4 g4 l4 (len_app HN.out hf) (by intro q hq; exact .inl ((List.mem_append.1 hq).elim id (fun e => by rw [List.mem_singleton.1 e]; exact HM.out))); obtain ⟨A4, c4, e4, -⟩ := o4.form; rw [List.length_append, List.length_singleton] at e4; subst e4; have q4 : w4.cell? ⟨g, 0, none⟩ = some (.slice (some ⟨b, 0, none⟩) X.length c0) := (by exact b4.cell 0); have f4 := b4.frozen 0; have S4 := hide s4; have T4 := hide t4; clear s4 t4 o4 g4 l4 b4))
  all_goals
    go_wp2_with fail
    go_ret
    exact ⟨rfl, _, S4.out, T4.out⟩
/-- The net's Twice. -/
def twiceL (i : Int) (L : List (Int × Int × Int × List Int × List Nat)) : List (Int × Int × Int × List Int × List Nat) × Bool :=
  if 0 ≤ i ∧ i < (L.length : Int) ∧ L.length < 4096 then (L ++ [L.getD i.toNat (0, 0, 0, [], [])], true) else (L, false)
theorem twice_any (F : Nat → Prop) (g : Nat) (L : List (Int × Int × Int × List Int × List Nat)) (i : Int) (w : World) (h : NetAt PN w F g L) :
    Calls Try.prog 28 #[.pointer (some ⟨g, 0, none⟩), .int .i64 i] w fun e w' => e = .returned (.bool (twiceL i L).2) ∧ ∃ F', NetAt PN w' F' g (twiceL i L).1 ∧ Next F w F' w' := by
  obtain ⟨v, X, rfl, hS⟩ := h
  have hm := hS.most
  unfold twiceL
  rw [List.length_map]
  by_cases hi : 0 ≤ i ∧ i < (X.length : Int) ∧ X.length < 4096
  · rw [if_pos hi]
    obtain ⟨j, rfl⟩ : ∃ j : Nat, i = (j : Int) := ⟨i.toNat, by omega⟩
    have hj : j < X.length := by omega
    refine (twice_ok F g v X j w hS hj hi.2.2).mono ?_
    rintro e w' ⟨rfl, v', h', t'⟩
    refine ⟨rfl, _, ⟨v', _, ?_, h'⟩, andNew.next t'⟩
    rw [List.map_append]
    simp [hj]
  · rw [if_neg hi]
    refine (twice_no F g v X i w hS (by omega)).mono ?_
    rintro e w' ⟨rfl, k⟩
    exact ⟨rfl, F, ⟨v, X, rfl, hS.below k⟩, Next.of_below F k⟩
end Go.Proofs.Ytdhamhaadclhkaa
