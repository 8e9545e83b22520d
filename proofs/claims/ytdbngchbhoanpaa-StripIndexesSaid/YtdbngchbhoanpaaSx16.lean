/- Places that came in: read as such. No condition. -/
import Derived.Test.YtdbngchbhoanpaaSx6
import Derived.ProofKit
import Derived.OpenShut
import Derived.Deep.Slices
import Derived.Lib.SmallJoins
namespace Go.Proofs.Ytdbngchbhoanpaa
open Go.RowKit Go.Deep Go.ChangeShapes Go.WideShapes Go.ChangeAt Go.Joins
section
variable {H : Type} {enc : TypeId × Value → H} {P : Program} {w : World}
theorem trod_struct5P {t : TypeId} {f0 f1 f2 f3 f4 : Field} {fuel : Nat} {cs : List Value} {x : DataW H × List MemPlace} (ht : P.underlying t = some (.struct #[f0, f1, f2, f3, f4])) (h : DataW.trod enc P w 0 (fun _ => true) true fuel t cs = some x) :
    ∃ y0 y1 y2 y3 y4 n, x = (.agg [y0.1, y1.1, y2.1, y3.1, y4.1], y0.2 ++ (y1.2 ++ (y2.2 ++ (y3.2 ++ y4.2)))) ∧ DataW.trod enc P w 0 (fun _ => true) true n f0.type ((cs.drop f0.offset).take (P.cellsOf f0.type)) = some y0 ∧
      DataW.trod enc P w 0 (fun _ => true) true n f1.type ((cs.drop f1.offset).take (P.cellsOf f1.type)) = some y1 ∧ DataW.trod enc P w 0 (fun _ => true) true n f2.type ((cs.drop f2.offset).take (P.cellsOf f2.type)) = some y2 ∧
      DataW.trod enc P w 0 (fun _ => true) true n f3.type ((cs.drop f3.offset).take (P.cellsOf f3.type)) = some y3 ∧ DataW.trod enc P w 0 (fun _ => true) true n f4.type ((cs.drop f4.offset).take (P.cellsOf f4.type)) = some y4 := by
  obtain ⟨xs, n, _, rfl, _, hlen, hf⟩ := DataW.trod_struct ht h
  match xs, hlen with
  | [y0, y1, y2, y3, y4], _ => exact ⟨y0, y1, y2, y3, y4, n, by simp, by simpa using hf 0 f0 rfl, by simpa using hf 1 f1 rfl, by simpa using hf 2 f2 rfl, by simpa using hf 3 f3 rfl, by simpa using hf 4 f4 rfl⟩
end
theorem Try.cells_plcP : Try.prog.cellsOf 36 = 5 := by kernel_rfl
theorem Try.cells_intP : Try.prog.cellsOf 3 = 1 := by kernel_rfl
theorem Try.cells_u64P : Try.prog.cellsOf 23 = 1 := by kernel_rfl
theorem Try.cells_u32P : Try.prog.cellsOf 34 = 1 := by kernel_rfl
theorem Try.cells_boolP : Try.prog.cellsOf 4 = 1 := by kernel_rfl
theorem place_in {H : Type} {enc : TypeId × Value → H} {W : World} {n : Nat} {v0 v1 v2 v3 v4 : Value} {x : DataW H × List MemPlace}
    (h : DataW.trod enc Try.prog W 0 (fun _ => true) true n 36 [v0, v1, v2, v3, v4] = some x) :
    ∃ q : Plc, q.Fit ∧ v0 = .int .u64 (q.key : Int) ∧ v1 = .int .i64 q.at_ ∧ v2 = .int .i64 q.n ∧ v3 = .int .u32 (q.cook : Int) ∧ v4 = .bool q.dead := by
  obtain ⟨y0, y1, y2, y3, y4, n1, rfl, h0, h1, h2, h3, h4⟩ := trod_struct5P Try.underlying36 h
  simp only [Try.cells_intP, Try.cells_u64P, Try.cells_u32P, Try.cells_boolP, List.drop_zero, List.take_succ_cons, List.take_zero, List.drop_succ_cons] at h0 h1 h2 h3 h4
  obtain ⟨a, e0, _, k0⟩ := DataW.trod_int Try.underlying23 h0
  obtain ⟨b, e1, _, k1⟩ := DataW.trod_int Try.underlying3 h1
  obtain ⟨c, e2, _, k2⟩ := DataW.trod_int Try.underlying3 h2
  obtain ⟨d, e3, _, k3⟩ := DataW.trod_int Try.underlying34 h3
  obtain ⟨f, e4, _⟩ := DataW.trod_bool Try.underlying4 h4
  simp only [List.cons.injEq, and_true] at e0 e1 e2 e3 e4
  have b0 : 0 ≤ a ∧ a ≤ 18446744073709551615 := bounds_u64 k0
  have b1 := bounds_i64 k1
  have b2 := bounds_i64 k2
  have b3 : 0 ≤ d ∧ d ≤ 4294967295 := bounds_u32 k3
  have x0 : ((a.toNat : Nat) : Int) = a := by omega
  have x3 : ((d.toNat : Nat) : Int) = d := by omega
  refine ⟨⟨a.toNat, b, c, d.toNat, f⟩, ⟨by simp only; omega, by simp only; omega, by simp only; omega, by simp only; omega⟩, ?_, e1, e2, ?_, e4⟩
  · rw [e0, x0]
  · rw [e3, x3]
theorem places_in {H : Type} {enc : TypeId × Value → H} {W : World} {fuel : Nat} {a0 : Option Addr} {len0 cap0 : Nat} {x : DataW H × List MemPlace}
    (h : DataW.trod enc Try.prog W 0 (fun _ => true) true fuel 22 [.slice a0 len0 cap0] = some x) : ∃ X : List Plc, X.length = len0 ∧ IsP W a0 X ∧ ∀ p ∈ X, p.Fit := by
  rcases open_slice Try.underlying22 h with ⟨hcs, _⟩ | ⟨a, len, cap, m, n, D, Pl, hcs, _, hl, _, hm, rfl, hr⟩
  · simp only [List.cons.injEq, and_true, Value.slice.injEq] at hcs
    obtain ⟨rfl, rfl, rfl⟩ := hcs
    exact ⟨[], rfl, fun j hj => by simp at hj, by simp⟩
  · simp only [List.cons.injEq, and_true, Value.slice.injEq] at hcs
    obtain ⟨rfl, rfl, rfl⟩ := hcs
    have hlm : len0 ≤ m := by rw [hm]; split <;> omega
    have each : ∀ i, ∃ q : Plc, i < len0 → q.Fit ∧ W.cell? (a.add (i * 5)) = some (.int .u64 (q.key : Int)) ∧ W.cell? (a.add (i * 5 + 1)) = some (.int .i64 q.at_) ∧ W.cell? (a.add (i * 5 + 2)) = some (.int .i64 q.n) ∧ W.cell? (a.add (i * 5 + 3)) = some (.int .u32 (q.cook : Int)) ∧ W.cell? (a.add (i * 5 + 4)) = some (.bool q.dead) := by
      intro i
      by_cases hi : i < len0
      · obtain ⟨cs', h1, h2⟩ := hr i (by omega)
        rw [Try.cells_plcP] at h1
        obtain ⟨_, hlen, hcell⟩ := World.cells?_some h1
        match cs', hlen with
        | [v0, v1, v2, v3, v4], _ =>
          obtain ⟨q, hq, e0, e1, e2, e3, e4⟩ := place_in h2
          have c0 := hcell 0 (by omega)
          have c1 := hcell 1 (by omega)
          have c2 := hcell 2 (by omega)
          have c3 := hcell 3 (by omega)
          have c4 := hcell 4 (by omega)
          rw [add_add] at c0 c1 c2 c3 c4
          subst e0; subst e1; subst e2; subst e3; subst e4
          exact ⟨q, fun _ => ⟨hq, by simpa using c0, by simpa using c1, by simpa using c2, by simpa using c3, by simpa using c4⟩⟩
      · exact ⟨noPlc, fun h => absurd h hi⟩
    obtain ⟨Q, hQ⟩ := Classical.axiomOfChoice each
    refine ⟨(List.range len0).map Q, by simp, fun j hj => ?_, fun p hp => ?_⟩
    · have hj2 : j < len0 := by simpa using hj
      obtain ⟨_, c0, c1, c2, c3, c4⟩ := hQ j hj2
      obtain ⟨b, off, sp⟩ := a
      have hsp : sp = none := by simpa [Addr.add] using World.cell?_spot (hQ 0 (by omega)).2.1
      subst hsp
      rw [add_off] at c0 c1 c2 c3 c4
      have ej : ((List.range len0).map Q).getD j noPlc = Q j := by simp [List.getD_eq_getElem?_getD, hj2]
      rw [ej]
      exact ⟨b, off, rfl, c0, by rw [Nat.add_assoc]; exact c1, by rw [Nat.add_assoc]; exact c2, by rw [Nat.add_assoc]; exact c3, by rw [Nat.add_assoc]; exact c4⟩
    · obtain ⟨i, hi, rfl⟩ := List.mem_map.1 hp
      exact (hQ i (List.mem_range.1 hi)).1
end Go.Proofs.Ytdbngchbhoanpaa
