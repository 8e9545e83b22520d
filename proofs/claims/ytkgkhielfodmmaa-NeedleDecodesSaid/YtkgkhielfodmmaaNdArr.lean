/- Arrays of bytes: held against one another, loaded out of a row. No condition. -/
import Derived.Test.YtkgkhielfodmmaaNdHead
import Derived.ChangeKeysEq
namespace Go.Proofs.Ytkgkhielfodmmaa
open Go.RowKit
theorem u8s_at (xs : List Nat) (i : Nat) (h : i < xs.length) : (u8s xs).toArray[i]? = some (.int .u8 ((xs.getD i 0 : Nat) : Int)) := by simp [u8s, h]
theorem run_eqItems_u8 {P : Program} (w : World) (d : Nat) {e : TypeId} (hu : P.underlying e = some (.int .u8)) (he : P.plainKey e = true) (xs ys : List Nat) : ∀ is : List Nat, (∀ i ∈ is, i < xs.length ∧ i < ys.length) →
    (Op.eqItems (d + 1) e 1 (u8s xs).toArray (u8s ys).toArray is).run P w = .ok (is.all fun i => xs.getD i 0 == ys.getD i 0) w
  | [], _ => by simp [Op.eqItems]
  | i :: is, h => by
    obtain ⟨h1, h2⟩ := h i (by simp)
    have ih := run_eqItems_u8 w d hu he xs ys is (fun j hj => h j (by simp [hj]))
    have p1 := run_part_plain w (P := P) he (u8s_at xs i h1)
    have p2 := run_part_plain w (P := P) he (u8s_at ys i h2)
    have p3 := run_equalIn_int w (P := P) d e .u8 .u8 ((xs.getD i 0 : Nat) : Int) ((ys.getD i 0 : Nat) : Int) hu
    simp only [Op.eqItems, Nat.mul_one, Sem.run_bind, p1, p2, p3, Result.andThen_ok]
    by_cases hx : xs.getD i 0 = ys.getD i 0
    · have e1 : (((xs.getD i 0 : Nat) : Int) == ((ys.getD i 0 : Nat) : Int)) = true := by rw [hx]; simp
      rw [e1]
      simp only [Bool.not_true, Bool.false_eq_true, if_false]
      rw [ih, List.all_cons, hx]
      simp
    · have e1 : (((xs.getD i 0 : Nat) : Int) == ((ys.getD i 0 : Nat) : Int)) = false := by simp only [beq_eq_false_iff_ne, ne_eq]; omega
      have e2 : (xs.getD i 0 == ys.getD i 0) = false := by simpa using hx
      rw [e1, List.all_cons, e2]
      simp
theorem all_eq {xs ys : List Nat} {n : Nat} (h1 : xs.length = n) (h2 : ys.length = n) : ((List.range n).all fun i => xs.getD i 0 == ys.getD i 0) = decide (xs = ys) := by
  rw [Bool.eq_iff_iff, decide_eq_true_iff, List.all_eq_true]
  constructor
  · intro h
    refine List.ext_getElem (by rw [h1, h2]) fun i a b => ?_
    have := h i (List.mem_range.2 (by omega))
    simpa [a, b] using this
  · rintro rfl i _
    simp
theorem Try.plain_u8 : Try.prog.plainKey 5 = true := by kernel_rfl
theorem Try.cells_u8a : Try.prog.cellsOf 5 = 1 := by kernel_rfl
/-- Two arrays of bytes held against one another. -/
theorem run_equal_arr {w : World} {T : TypeId} {n : Nat} (hu : Try.prog.underlying T = some (.array n 5)) {xs ys : List Nat} (h1 : xs.length = n) (h2 : ys.length = n) :
    (Op.equal T (.agg (u8s xs).toArray) (.agg (u8s ys).toArray)).run Try.prog w = .ok (decide (xs = ys)) w := by
  obtain ⟨i0, hi, _⟩ := info_parts Try.info_u8'
  unfold Op.equal Op.maxDepth
  rw [run_equalIn_array w 9999 _ _ hu hi, Try.cells_u8a, run_eqItems_u8 w 9998 Try.underlying5 Try.plain_u8 xs ys _ (fun i hi => by have := List.mem_range.1 hi; omega), all_eq h1 h2]
theorem run_eql_arr {w : World} {T : TypeId} {n : Nat} (hu : Try.prog.underlying T = some (.array n 5)) {xs ys : List Nat} (h1 : xs.length = n) (h2 : ys.length = n) :
    (binOp .eql T (.agg (u8s xs).toArray) (.agg (u8s ys).toArray)).run Try.prog w = .ok (.bool (decide (xs = ys))) w := by
  simp [binOp, run_equal_arr hu h1 h2]
/-- A whole array loaded out of cells that are known. -/
theorem run_loadVar_cells {P : Program} (w : World) (ad : Addr) (ty : TypeId) (cs : List Value) (d : TypeDesc) (hc : ∀ j v, cs[j]? = some v → w.cell? (ad.add j) = some v)
    (hu : P.underlying ty = some d) (hd : (match d with | .struct _ | .array _ _ => true | _ => false) = true) (hi : (P.info? ty).map (·.size) = some cs.length) :
    (loadVar ty ad).run P w = .ok (.agg cs.toArray) w := by
  have hl : (loadCells ad cs.length).run P w = .ok cs.toArray w := run_loadCells_list (P := P) w ad cs hc
  cases hq : P.info? ty with
  | none => simp [hq] at hi
  | some i =>
    have hs : i.size = cs.length := by simpa [hq] using hi
    have hagg : (isAgg ty).run P w = .ok true w := by
      unfold isAgg
      rw [Sem.run_bind, run_underlying hu w]
      cases d <;> simp_all
    simp [loadVar, Sem.run_bind, hagg, sizeOf, typeInfo, hq, hs, hl]
theorem wpList_load_cells {P : Program} {ops : Array Oper} {rest : List Oper} {o : Oper} {a : Act} {w : World} {Q : Exit → Act → World → Prop} (hgd : o.guard = none) (ty : TypeId) (x : Operand) (ho : o.op = .load ty x)
    (ad : Addr) (hx : a.eval x = .pointer (some ad)) (cs : List Value) (d : TypeDesc) (hc : ∀ j v, cs[j]? = some v → w.cell? (ad.add j) = some v)
    (hu : P.underlying ty = some d) (hd : (match d with | .struct _ | .array _ _ => true | _ => false) = true) (hi : (P.info? ty).map (·.size) = some cs.length)
    (h : wpList P ops Q rest (a.put o.dst (.agg cs.toArray)) w) : wpList P ops Q (o :: rest) a w :=
  wpList_plain hgd fun _ hK => by
    unfold Oper.wp execOp
    simp only [ho, hx, Instr.loadAt, Instr.sureAddr, Sem.run_bind, Sem.run_pure, Result.andThen_ok, run_loadVar_cells w ad ty cs d hc hu hd hi]
    exact hK _ _ h
end Go.Proofs.Ytkgkhielfodmmaa
