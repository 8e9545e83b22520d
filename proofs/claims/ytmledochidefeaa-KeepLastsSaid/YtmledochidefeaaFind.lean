/- The contracts of the disk's own isName and find. Condition: a name is no longer than a string may be. -/
import Derived.Test.YtmledochidefeaaDisk
namespace Go.Proofs.Ytmledochidefeaa
open Go.RowKit Go.Maps
theorem wpList_lookup_run {P : Program} {w : World} {ops : Array Oper} {rest : List Oper} {o : Oper} {a : Act} {Q : Exit → Act → World → Prop}
    (hg : o.guard = none) (m x : Operand) (t : TypeId) (c : Bool) (hop : o.op = Op.lookup t m x c) (mv key v : Value) (hm : a.eval m = mv) (hx : a.eval x = key)
    (hrun : (Instr.lookup t mv key c).run P w = .ok v w) (hK : wpList P ops Q rest (a.put o.dst v) w) : wpList P ops Q (o :: rest) a w := by
  refine wpList_plain hg fun K' hK' => ?_
  unfold Oper.wp
  simp [execOp, hop, hm, hx, hrun, Result.andThen]
  exact hK' _ _ hK
theorem isName_any (s : ByteArray) (w : World) (_hs : s.size ≤ 9223372036854775807) :
    Calls Try.prog 50 #[.string s] w fun e w' => e = .returned (.bool (decide (1 ≤ s.size ∧ s.size ≤ 64))) ∧ w' = w := by
  by_cases h1 : 1 ≤ s.size
  · have e : decide (1 ≤ s.size ∧ s.size ≤ 64) = decide ((s.size : Int) ≤ 64) := by
      rw [decide_eq_decide]
      omega
    rw [e]
    clear e
    go_enter Try.func50, Try.ntmps50
    go_wp2
    go_ret
    exact ⟨rfl, rfl⟩
  · have e : decide (1 ≤ s.size ∧ s.size ≤ 64) = false := decide_eq_false (fun h => h1 h.1)
    rw [e]
    clear e
    go_enter Try.func50, Try.ntmps50
    go_wp2
    go_ret
    exact ⟨rfl, rfl⟩
theorem find_nil (s : ByteArray) (w : World) :
    Calls Try.prog 38 #[.pointer none, .string s] w fun e w' => e = .returned (.tuple #[noFil, .bool false]) ∧ Below w.heap.size w w' := by
  go_enter Try.func38, Try.ntmps38
  go_wp2_with fail
  refine bodyPost_ret (v := .tuple #[noFil, .bool false]) (by simp [results, Try.results38, go_sem, noFil]) rfl ⟨rfl, below_alloc _ _⟩
/-- The form of what is found. -/
theorem found_form {w : World} {F : Nat → Prop} {d room : Nat} {X : List (Str × Fil)} (h : Shell w F d room X) (k : Str) : ∃ A n c l, foundV (getK k X) = .agg #[.slice A n c, .int .i64 (l : Nat)] ∧ n = ((getK k X).map filL).getD 0 ∧ (getK k X = none → A = none ∧ c = 0 ∧ l = 0) ∧
    ∀ a, getK k X = some a → a.1 = .slice A n c ∧ a.2.1.length = n ∧ a.2.2 = l := by
  unfold foundV
  rcases hg : getK k X with _ | a
  · exact ⟨none, 0, 0, 0, rfl, rfl, fun _ => ⟨rfl, rfl, rfl⟩, fun a e => by cases e⟩
  · obtain ⟨A, c, e⟩ := (h.shape _ (getK_mem hg)).1
    simp only at e
    refine ⟨A, a.2.1.length, c, a.2.2, ?_, rfl, fun e => (by cases e), fun b e' => ?_⟩
    · simp only [Option.map_some, Option.getD_some, filV]
      rw [e]
    · cases e'
      exact ⟨e, rfl, rfl⟩
theorem find_any (F : Nat → Prop) (d room : Nat) (X : List (Str × Fil)) (s : ByteArray) (w : World) (hS : Shell w F d room X) (hs : s.size ≤ maxLen) :
    Calls Try.prog 38 #[.pointer (some ⟨d, 0, none⟩), .string s] w fun e w' => e = .returned (.tuple #[foundV (getK s.data.toList X), .bool (getK s.data.toList X).isSome]) ∧ Below w.heap.size w w' := by
  obtain ⟨mv, hB, hm⟩ := hS.cells
  have c2 : w.cell? ⟨d, 2, none⟩ = some (.map mv) := hB.cell 2
  have hd : d < w.heap.size := hB.lt
  have hlook : ∀ W, Below w.heap.size w W → (Instr.lookup 52 (.map mv) (.string s) true).run Try.prog W = .ok (.tuple #[foundV (getK s.data.toList X), .bool (getK s.data.toList X).isSome]) W := by
    intro W hW
    rcases hm with ⟨rfl, rfl⟩ | ⟨b, rfl, _, hm⟩
    · exact look_nil_ok W s hs
    · exact look_ok (ownsMap_turn (S := fun _ => False) hm (Turn.of_below _ hW) id) s hs
  obtain ⟨A, n, c, l, hf, hrest⟩ := found_form hS s.data.toList
  clear hrest
  rw [hf] at hlook ⊢
  obtain ⟨is, his⟩ : ∃ is, is = (getK s.data.toList X).isSome := ⟨_, rfl⟩
  rw [← his] at hlook ⊢
  have HL := hide hlook
  clear hlook hf his hm
  go_enter Try.func38, Try.ntmps38
  go_wp2_with (at_lookup; refine halt ?_)
  refine ⟨?_⟩
  refine wpList_lookup_run rfl _ _ _ _ rfl _ _ _ rfl rfl (HL.out _ (below_alloc _ _)) ?_
  go_wp2_with fail
  refine bodyPost_ret (v := .tuple #[.agg #[.slice A n c, .int .i64 l], .bool is]) (by simp [results, Try.results38, go_sem]) rfl ⟨rfl, ?_⟩
  exact (below_alloc _ _).alloc (Nat.le_of_lt (by simp)) _
end Go.Proofs.Ytmledochidefeaa
