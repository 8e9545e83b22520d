/- The contract of the net's Drop. No condition but the widths. -/
import Derived.Test.YtdhamhaadclhkaaRNTake
namespace Go.Proofs.Ytdhamhaadclhkaa
open Go.RowKit
def hit (node : Int) (q : Itm) : Bool := decide (q.f = node ∨ q.t = node)
theorem drop1_any (node : Int) (p : Nat) (f t k : Int) (U V : Value) (w : World) (hc : w.cell? ⟨p, 0, none⟩ = some (.int .i64 node)) :
    Calls Try.prog 69 #[.agg #[.int .i64 f, .int .i64 t, .int .i64 k, U, V], .pointer (some ⟨p, 0, none⟩)] w fun e w' => e = .returned (.bool (decide (f = node ∨ t = node))) ∧ Below w.heap.size w w' := by
  have ka := below_alloc w (.cells #[.int .i64 f, .int .i64 t, .int .i64 k, U, V] 45)
  have hpl : p < w.heap.size := cell_lt hc
  by_cases h1 : f = node
  · have e1 : (f == node) = true := by simp [h1]
    rw [decide_eq_true (.inl h1)]
    clear h1
    go_enter Try.func69, Try.ntmps69
    go_wp2_with fail
    go_ret
    exact ⟨rfl, ka⟩
  · have e1 : (f == node) = false := by simp [h1]
    by_cases h2 : t = node
    · have e2 : (t == node) = true := by simp [h2]
      rw [decide_eq_true (.inr h2)]
      clear h1 h2
      go_enter Try.func69, Try.ntmps69
      go_wp2_with fail
      go_ret
      exact ⟨rfl, ka⟩
    · have e2 : (t == node) = false := by simp [h2]
      rw [decide_eq_false (fun h => h.elim h1 h2)]
      clear h1 h2
      go_enter Try.func69, Try.ntmps69
      go_wp2_with fail
      go_ret
      exact ⟨rfl, ka⟩
abbrev dropF (p : Nat) : Value := .func (.func 69) #[] #[.pointer (some ⟨p, 0, none⟩)]
/-- Where the first one stands that goes. -/
def firstAt (node : Int) (X : List Itm) (r : Int) : Prop := (r = -1 ∧ ∀ (i : Nat) (h : i < X.length), hit node X[i] = false) ∨ ∃ j : Nat, r = (j : Int) ∧ ∃ h : j < X.length, hit node X[j] = true ∧ ∀ (i : Nat) (h : i < X.length), i < j → hit node X[i] = false
set_option maxRecDepth 100000 in
set_option maxHeartbeats 1600000 in
theorem indexFunc_any (node : Int) (p : Nat) (v : Value) (X : List Itm) (F : Nat → Prop) (w : World) (hown : OwnM w 0 v X) (hG : ∀ q ∈ X, Good w F q) (hm : X.length ≤ 4096) (hp : w.cell? ⟨p, 0, none⟩ = some (.int .i64 node)) :
    Calls Try.prog 78 #[v, dropF p] w fun e w' => ∃ r, e = .returned (.int .i64 r) ∧ firstAt node X r ∧ Below w.heap.size w w' := by
  obtain ⟨A0, c0, rfl, hlc, hc63, -, hcl⟩ := hown.form
  have HC := hide hcl
  obtain ⟨N, hN⟩ : ∃ N, N = X.length := ⟨_, rfl⟩
  rw [← hN] at hlc hm ⊢
  have HN := hide hN
  have HG := hide hG
  have HP := hide hp
  clear hown hN hG hcl hp
  go_enter Try.func78, Try.ntmps78
  go_wp2_with fail
  go_loopw [8] (fun i wr => ∃ j : Nat, j ≤ N ∧ i = .int .i64 (j : Int) ∧ Hid (∀ i (h : i < X.length), i < j → hit node X[i] = false) ∧ Hid (Below w.heap.size w wr)) (fun i _ => N - (intOf i).toNat)
  case atStart => exact ⟨0, Nat.zero_le _, rfl, (fun i _ h => absurd h (Nat.not_lt_zero _)), Below.refl _ _⟩
  case round =>
    obtain ⟨j, hj, rfl, hno, hb⟩ := hrel
    by_cases hlt : j < N
    · have hjX : j < X.length := by rw [← HN.out]; exact hlt
      obtain ⟨b, rfl, -, hbl, y0, y1, y2, y3, y4, -⟩ := HC.out j hjX
      obtain ⟨A, c, D, cp, hq, -⟩ := five_form (HG.out X[j] (List.getElem_mem hjX))
      have HH := hide (show ∀ h : j < X.length, hit node X[j] = decide (X[j].f = node ∨ X[j].t = node) from fun _ => rfl)
      obtain ⟨f, t, k, U, V, zs, d, hx⟩ : ∃ f t k U V zs d, X[j] = ⟨f, t, k, U, V, zs, d⟩ := ⟨_, _, _, _, _, _, _, rfl⟩
      have HJ : Hid (hit node X[j] = decide (f = node ∨ t = node)) := by unfold Hid; rw [hx]; rfl
      rw [hx] at y0 y1 y2 y3 y4 hq
      simp only [Itm.mk.injEq, true_and, and_true] at hq
      obtain ⟨rfl, rfl⟩ := hq
      have x0 := (hb.out.cell (p := ⟨b, j * 5, none⟩) hbl).trans y0
      have x1 := (hb.out.cell (p := ⟨b, j * 5 + 1, none⟩) hbl).trans y1
      have x2 := (hb.out.cell (p := ⟨b, j * 5 + 2, none⟩) hbl).trans y2
      have x3 := (hb.out.cell (p := ⟨b, j * 5 + 3, none⟩) hbl).trans y3
      have x4 := (hb.out.cell (p := ⟨b, j * 5 + 4, none⟩) hbl).trans y4
      have hd := drop1_any node p f t k (.slice A zs.length c) (.slice D d.length cp) wr ((hb.out.cell (cell_lt HP.out)).trans HP.out)
      have hlt2 : (j : Int) < (N : Int) := by omega
      have hj0 : 0 ≤ (j : Int) := by omega
      have HD := hide hd
      clear y0 y1 y2 y3 y4 hx HH hd
      obtain ⟨t0, ht0⟩ : ∃ t0, t0 = decide (f = node ∨ t = node) := ⟨_, rfl⟩
      rw [← ht0] at HJ HD
      clear ht0
      rcases t0 with _ | _
      · go_wp2_with fail
        refine HD.out.mono ?_
        rintro e w2 ⟨rfl, k2⟩
        have K2 := hide (hb.out.trans (k2.mono hb.out.size))
        clear k2
        go_wp2_with fail
        refine ⟨⟨j + 1, by omega, by go_num, ?_, K2⟩, by simp [intOf]; omega⟩
        intro i h hi
        by_cases e : i = j
        · subst e
          exact HJ.out
        · exact hno.out i h (by omega)
      · go_wp2_with fail
        refine HD.out.mono ?_
        rintro e w2 ⟨rfl, k2⟩
        have K2 := hide (hb.out.trans (k2.mono hb.out.size))
        clear k2
        go_wp2_with fail
        go_ret
        exact ⟨_, rfl, .inr ⟨j, rfl, hjX, HJ.out, hno.out⟩, K2.out⟩
    · obtain rfl : j = N := by omega
      have hnl : ¬ ((j : Int) < (j : Int)) := by omega
      go_wp2_with fail
      go_ret
      exact ⟨_, rfl, .inl ⟨rfl, fun i h => hno.out i h (by rw [HN.out]; exact h)⟩, hb.out⟩
/-- A message is laid into a place of a row. -/
def setAt (w : World) (b o : Nat) (f t k : Int) (U V : Value) : World :=
  ((((w.setCell ⟨b, o, none⟩ (.int .i64 f)).setCell ⟨b, o + 1, none⟩ (.int .i64 t)).setCell ⟨b, o + 2, none⟩ (.int .i64 k)).setCell ⟨b, o + 3, none⟩ U).setCell ⟨b, o + 4, none⟩ V
theorem cellsM_set : ∀ (X : List Itm) (i : Nat) (_ : i < X.length) (q : Itm), (((((cellsM X).set (i * 5) (.int .i64 q.f)).set (i * 5 + 1) (.int .i64 q.t)).set (i * 5 + 2) (.int .i64 q.k)).set (i * 5 + 3) q.u).set (i * 5 + 4) q.v = cellsM (X.set i q)
  | p :: r, 0, _, q => by simp [cellsM]
  | p :: r, i + 1, h, q => by
    have h' : i < r.length := by simpa using h
    have ih := cellsM_set r i h' q
    have e : ∀ j, (i + 1) * 5 + j = i * 5 + j + 1 + 1 + 1 + 1 + 1 := by intro j; omega
    have e0 : (i + 1) * 5 = i * 5 + 1 + 1 + 1 + 1 + 1 := by omega
    rw [e 1, e 2, e 3, e 4, e0]
    simp only [cellsM, List.set_cons_succ, ih]
theorem OwnM.set5 {w : World} {b N c : Nat} {X : List Itm} (h : OwnM w 0 (.slice (some ⟨b, 0, none⟩) N c) X) (i : Nat) (hi : i < X.length) (q : Itm) : OwnM (setAt w b (i * 5) q.f q.t q.k q.u q.v) 0 (.slice (some ⟨b, 0, none⟩) N c) (X.set i q) ∧ w.grownBy (setAt w b (i * 5) q.f q.t q.k q.u q.v) (some b) := by
  unfold OwnM at h ⊢
  have hN : X.length = N := by
    rcases h.2 with ⟨e, _⟩ | ⟨g, cap, cur, e, _⟩
    · simp at e
    · simp only [Value.slice.injEq] at e
      exact e.2.1.symm
  have h1 := (World.ownsRow.stored (by rw [hN] at h; exact h) (i * 5) (.int .i64 q.f)).1
  have h2 := (World.ownsRow.stored h1 (i * 5 + 1) (.int .i64 q.t)).1
  have h3 := (World.ownsRow.stored h2 (i * 5 + 2) (.int .i64 q.k)).1
  have h4 := (World.ownsRow.stored h3 (i * 5 + 3) q.u).1
  have h5 := (World.ownsRow.stored h4 (i * 5 + 4) q.v).1
  rw [cellsM_set X i hi q] at h5
  refine ⟨?_, ((((grown_set w b _ _).trans (grown_set _ b _ _)).trans (grown_set _ b _ _)).trans (grown_set _ b _ _)).trans (grown_set _ b _ _)⟩
  rw [List.length_set, hN]
  exact h5
theorem List.step_keep {α : Type} (X Y : List α) (P : α → Bool) (i j : Nat) (hj : j < X.length) (hi : i ≤ j) (h1 : Y.take i = (X.take j).filter P) (h2 : Y.drop j = X.drop j) (hp : P X[j] = true) (hij : i < Y.length) :
    (Y.set i X[j]).take (i + 1) = (X.take (j + 1)).filter P ∧ (Y.set i X[j]).drop (j + 1) = X.drop (j + 1) := by
  constructor
  · rw [List.take_succ_eq_append_getElem hj, List.filter_append, ← h1, List.take_succ_eq_append_getElem (by rw [List.length_set]; exact hij)]
    simp [hp, List.take_set_of_le]
  · rw [List.drop_set_of_lt (by omega)]
    have e := congrArg (List.drop 1) h2
    simpa [List.drop_drop, Nat.add_comm] using e
theorem List.step_drop {α : Type} (X Y : List α) (P : α → Bool) (i j : Nat) (hj : j < X.length) (h1 : Y.take i = (X.take j).filter P) (h2 : Y.drop j = X.drop j) (hp : P X[j] = false) :
    Y.take i = (X.take (j + 1)).filter P ∧ Y.drop (j + 1) = X.drop (j + 1) := by
  constructor
  · rw [List.take_succ_eq_append_getElem hj, List.filter_append, ← h1]
    simp [hp]
  · have e := congrArg (List.drop 1) h2
    simpa [List.drop_drop, Nat.add_comm] using e
theorem List.at_same {α : Type} {X Y : List α} {j : Nat} (hj : j < X.length) (hjY : j < Y.length) (h2 : Y.drop j = X.drop j) : Y[j] = X[j] := by
  have e := congrArg (fun l => l[0]?) h2
  simpa [hj, hjY] using e
end Go.Proofs.Ytdhamhaadclhkaa
