/- Steps that came in: read as such; no list is longer than the bulk of what was read. No condition. -/
import Derived.Test.YtdhamhaadclhkaaNTwo
import Derived.Deep.Matrix
import Derived.Deep.Slices
import Derived.ProofKit
import Derived.OpenShut
import Derived.SizedLaws
import Derived.Lib.SmallJoins
namespace Go.Proofs.Ytdhamhaadclhkaa
open Go.RowKit Go.Deep Go.ChangeShapes Go.WideShapes Go.ChangeAt Go.Joins
theorem bulk_inU {H : Type} : ∀ (l : List (DataW H)) (d : DataW H), d ∈ l → Rows.uptoBulk d ≤ Rows.uptoBulkAll l
  | [], _, h => absurd h (by simp)
  | x :: r, d, h => by
    show Rows.uptoBulk d ≤ Rows.uptoBulk x + Rows.uptoBulkAll r
    rcases List.mem_cons.1 h with rfl | h'
    · exact Nat.le_add_right _ _
    · exact Nat.le_trans (bulk_inU r d h') (Nat.le_add_left _ _)
theorem bulk_litsU {H : Type} (k : IntKind) (zs : List Int) : Rows.uptoBulkAll (lits (H := H) k zs) = zs.length := by
  unfold lits
  induction zs with
  | nil => rfl
  | cons z zs ih =>
    show 1 + Rows.uptoBulkAll (zs.map fun n => DataW.lit (H := H) (.int k n)) = zs.length + 1
    rw [ih, Nat.add_comm]
theorem bulk_sliceU {H : Type} (elems spare : List (DataW H)) : Rows.uptoBulkAll elems ≤ Rows.uptoBulk (.slice elems spare) := by
  show Rows.uptoBulkAll elems ≤ Rows.uptoBulkAll elems + Rows.uptoBulkAll spare + 1
  omega
theorem bulk_aggU {H : Type} (parts : List (DataW H)) (d : DataW H) (h : d ∈ parts) : Rows.uptoBulk d ≤ Rows.uptoBulk (.agg parts) := by
  show Rows.uptoBulk d ≤ Rows.uptoBulkAll parts + 1
  have := bulk_inU parts d h
  omega
section
variable {H : Type} {enc : TypeId × Value → H} {P : Program} {w : World}
theorem open_rowU {t e : TypeId} {k : IntKind} {n : Nat} {v : Value} {y : DataW H × List MemPlace} (ht : P.underlying t = some (.slice e)) (he : P.underlying e = some (.int k)) (hc : P.cellsOf e = 1)
    (hf : DataW.trod enc P w 0 (fun _ => true) true n t [v] = some y) : ∃ a len cap zs, v = .slice a len cap ∧ IsRow k w a len cap zs ∧ len ≤ Rows.uptoBulk y.1 := by
  rcases open_ints ht he hc hf with ⟨hcs, _⟩ | ⟨x, l, c, zs, hcs, _, hl, hm, hz, hx, hcell, hwz⟩
  · simp only [List.cons.injEq, and_true] at hcs
    exact ⟨none, 0, 0, [], hcs, .inl ⟨rfl, rfl, rfl, rfl⟩, Nat.zero_le _⟩
  · simp only [List.cons.injEq, and_true] at hcs
    have hz' : zs.length = c := by simpa using hz
    refine ⟨some x, l, c, zs, hcs, .inr ⟨x, rfl, hl, hm, hz', hcell, hwz⟩, ?_⟩
    subst hx
    refine Nat.le_trans ?_ (bulk_sliceU _ _)
    rw [bulk_litsU, List.length_take]
    omega
theorem trod_struct3 {t : TypeId} {f0 f1 f2 : Field} {fuel : Nat} {cs : List Value} {x : DataW H × List MemPlace} (ht : P.underlying t = some (.struct #[f0, f1, f2])) (h : DataW.trod enc P w 0 (fun _ => true) true fuel t cs = some x) :
    ∃ y0 y1 y2 n, x = (.agg [y0.1, y1.1, y2.1], y0.2 ++ (y1.2 ++ y2.2)) ∧ DataW.trod enc P w 0 (fun _ => true) true n f0.type ((cs.drop f0.offset).take (P.cellsOf f0.type)) = some y0 ∧
      DataW.trod enc P w 0 (fun _ => true) true n f1.type ((cs.drop f1.offset).take (P.cellsOf f1.type)) = some y1 ∧ DataW.trod enc P w 0 (fun _ => true) true n f2.type ((cs.drop f2.offset).take (P.cellsOf f2.type)) = some y2 := by
  obtain ⟨xs, n, _, rfl, _, hlen, hf⟩ := DataW.trod_struct ht h
  match xs, hlen with
  | [y0, y1, y2], _ => exact ⟨y0, y1, y2, n, by simp, by simpa using hf 0 f0 rfl, by simpa using hf 1 f1 rfl, by simpa using hf 2 f2 rfl⟩
theorem trod_struct5U {t : TypeId} {f0 f1 f2 f3 f4 : Field} {fuel : Nat} {cs : List Value} {x : DataW H × List MemPlace} (ht : P.underlying t = some (.struct #[f0, f1, f2, f3, f4])) (h : DataW.trod enc P w 0 (fun _ => true) true fuel t cs = some x) :
    ∃ y0 y1 y2 y3 y4 n, x = (.agg [y0.1, y1.1, y2.1, y3.1, y4.1], y0.2 ++ (y1.2 ++ (y2.2 ++ (y3.2 ++ y4.2)))) ∧ DataW.trod enc P w 0 (fun _ => true) true n f0.type ((cs.drop f0.offset).take (P.cellsOf f0.type)) = some y0 ∧
      DataW.trod enc P w 0 (fun _ => true) true n f1.type ((cs.drop f1.offset).take (P.cellsOf f1.type)) = some y1 ∧ DataW.trod enc P w 0 (fun _ => true) true n f2.type ((cs.drop f2.offset).take (P.cellsOf f2.type)) = some y2 ∧
      DataW.trod enc P w 0 (fun _ => true) true n f3.type ((cs.drop f3.offset).take (P.cellsOf f3.type)) = some y3 ∧ DataW.trod enc P w 0 (fun _ => true) true n f4.type ((cs.drop f4.offset).take (P.cellsOf f4.type)) = some y4 := by
  obtain ⟨xs, n, _, rfl, _, hlen, hf⟩ := DataW.trod_struct ht h
  match xs, hlen with
  | [y0, y1, y2, y3, y4], _ => exact ⟨y0, y1, y2, y3, y4, n, by simp, by simpa using hf 0 f0 rfl, by simpa using hf 1 f1 rfl, by simpa using hf 2 f2 rfl, by simpa using hf 3 f3 rfl, by simpa using hf 4 f4 rfl⟩
end
instance : Inhabited St := ⟨⟨0, 0, 0, 0, 0, none, 0, [], none, 0, []⟩⟩
theorem Try.cells_step : Try.prog.cellsOf 47 = 7 := by kernel_rfl
theorem Try.cells_msgU : Try.prog.cellsOf 45 = 5 := by kernel_rfl
theorem Try.cells_intU : Try.prog.cellsOf 3 = 1 := by kernel_rfl
theorem Try.cells_numsU : Try.prog.cellsOf 43 = 1 := by kernel_rfl
theorem Try.cells_bytesU : Try.prog.cellsOf 32 = 1 := by kernel_rfl
theorem IsRow.nilcap {k : IntKind} {w : World} {a : Option Addr} {len cap : Nat} {zs : List Int} (h : IsRow k w a len cap zs) : a = none → cap = 0 := fun e => by
  rcases h with ⟨_, _, hc, _⟩ | ⟨x, hx, _⟩
  · exact hc
  · rw [e] at hx; cases hx
theorem step_in {H : Type} {enc : TypeId × Value → H} {W : World} {n : Nat} {v0 v1 v2 v3 v4 v5 v6 : Value} {x : DataW H × List MemPlace}
    (h : DataW.trod enc Try.prog W 0 (fun _ => true) true n 47 [v0, v1, v2, v3, v4, v5, v6] = some x) :
    ∃ q : St, v0 = .int .i64 q.kind ∧ v1 = .int .i64 q.i ∧ v2 = .int .i64 q.f ∧ v3 = .int .i64 q.t ∧ v4 = .int .i64 q.k ∧ v5 = .slice q.a3 q.zs.length q.c3 ∧ v6 = .slice q.a4 q.d.length q.c4 ∧ IsI W (.slice q.a3 q.zs.length q.c3) q.zs ∧ (q.a3 = none → q.c3 = 0) ∧ IsB W (.slice q.a4 q.d.length q.c4) q.d ∧ q.zs.length ≤ Rows.uptoBulk x.1 ∧ q.d.length ≤ Rows.uptoBulk x.1 := by
  obtain ⟨y0, y1, y2, n1, rfl, h0, h1, h2⟩ := trod_struct3 Try.underlying47 h
  simp only [Try.cells_intU, Try.cells_msgU, List.drop_zero, List.take_succ_cons, List.take_zero, List.drop_succ_cons] at h0 h1 h2
  obtain ⟨z0, z1, z2, z3, z4, n2, hz, g0, g1, g2, g3, g4⟩ := trod_struct5U Try.underlying45 h2
  simp only [Try.cells_intU, Try.cells_numsU, Try.cells_bytesU, List.drop_zero, List.take_succ_cons, List.take_zero, List.drop_succ_cons] at g0 g1 g2 g3 g4
  obtain ⟨kd, e0, _, _⟩ := DataW.trod_int Try.underlying3 h0
  obtain ⟨ii, e1, _, _⟩ := DataW.trod_int Try.underlying3 h1
  obtain ⟨f, e2, _, _⟩ := DataW.trod_int Try.underlying3 g0
  obtain ⟨t, e3, _, _⟩ := DataW.trod_int Try.underlying3 g1
  obtain ⟨k, e4, _, _⟩ := DataW.trod_int Try.underlying3 g2
  simp only [List.cons.injEq, and_true] at e0 e1 e2 e3 e4
  obtain ⟨a3, len3, cap3, s3, rfl, w3, b3⟩ := open_rowU Try.underlying43 Try.underlying3 (by kernel_rfl) g3
  obtain ⟨a4, len4, cap4, s4, rfl, w4, b4⟩ := open_rowU Try.underlying32 Try.underlying5 (by kernel_rfl) g4
  obtain ⟨zs, l3, _, i3, _⟩ := w3.isI
  obtain ⟨d, l4, _, i4, _⟩ := w4.isB
  subst l3; subst l4
  have hb : ∀ y, y ∈ [z0.1, z1.1, z2.1, z3.1, z4.1] → Rows.uptoBulk y ≤ Rows.uptoBulk (.agg [y0.1, y1.1, y2.1]) := fun y hy => by
    refine Nat.le_trans (bulk_aggU _ y hy) ?_
    have e : y2.1 = .agg [z0.1, z1.1, z2.1, z3.1, z4.1] := by rw [hz]
    rw [← e]
    exact bulk_aggU _ _ (by simp)
  exact ⟨⟨kd, ii, f, t, k, a3, cap3, zs, a4, cap4, d⟩, e0, e1, e2, e3, e4, rfl, rfl, i3, w3.nilcap, i4, Nat.le_trans b3 (hb _ (by simp)), Nat.le_trans b4 (hb _ (by simp))⟩
theorem steps_in {H : Type} {enc : TypeId × Value → H} {W : World} {fuel : Nat} {a0 : Option Addr} {len0 cap0 : Nat} {x : DataW H × List MemPlace}
    (h : DataW.trod enc Try.prog W 0 (fun _ => true) true fuel 42 [.slice a0 len0 cap0] = some x) (hx : Rows.uptoBulk x.1 ≤ 1048576) : ∃ X : List St, X.length = len0 ∧ IsSteps W a0 X := by
  rcases open_slice Try.underlying42 h with ⟨hcs, _⟩ | ⟨a, len, cap, m, n, D, Pl, hcs, _, hl, _, hm, rfl, hr⟩
  · simp only [List.cons.injEq, and_true, Value.slice.injEq] at hcs
    obtain ⟨rfl, rfl, rfl⟩ := hcs
    exact ⟨[], rfl, fun j hj => by simp at hj⟩
  · simp only [List.cons.injEq, and_true, Value.slice.injEq] at hcs
    obtain ⟨rfl, rfl, rfl⟩ := hcs
    have hlm : len0 ≤ m := by rw [hm]; split <;> omega
    have each : ∀ i, i < len0 → ∃ q : St, W.cell? (a.add (i * 7)) = some (.int .i64 q.kind) ∧ W.cell? (a.add (i * 7 + 1)) = some (.int .i64 q.i) ∧ W.cell? (a.add (i * 7 + 2)) = some (.int .i64 q.f) ∧ W.cell? (a.add (i * 7 + 3)) = some (.int .i64 q.t) ∧ W.cell? (a.add (i * 7 + 4)) = some (.int .i64 q.k) ∧ W.cell? (a.add (i * 7 + 5)) = some (.slice q.a3 q.zs.length q.c3) ∧ W.cell? (a.add (i * 7 + 6)) = some (.slice q.a4 q.d.length q.c4) ∧
        IsI W (.slice q.a3 q.zs.length q.c3) q.zs ∧ (q.a3 = none → q.c3 = 0) ∧ IsB W (.slice q.a4 q.d.length q.c4) q.d ∧ q.zs.length ≤ 1048576 ∧ q.d.length ≤ 1048576 := by
      intro i hi
      obtain ⟨cs', h1, h2⟩ := hr i (by omega)
      rw [Try.cells_step] at h1
      obtain ⟨_, hlen, hcell⟩ := World.cells?_some h1
      match cs', hlen with
      | [v0, v1, v2, v3, v4, v5, v6], _ =>
        obtain ⟨q, e0, e1, e2, e3, e4, e5, e6, r1, r2, r3, r4, r5⟩ := step_in h2
        have hD : Rows.uptoBulk (D i) ≤ 1048576 := by
          refine Nat.le_trans ?_ hx
          refine Nat.le_trans (bulk_inU ((List.range len0).map D) (D i) (List.mem_map.2 ⟨i, List.mem_range.2 hi, rfl⟩)) (bulk_sliceU _ _)
        have c0 := hcell 0 (by omega)
        have c1 := hcell 1 (by omega)
        have c2 := hcell 2 (by omega)
        have c3 := hcell 3 (by omega)
        have c4 := hcell 4 (by omega)
        have c5 := hcell 5 (by omega)
        have c6 := hcell 6 (by omega)
        rw [add_add] at c0 c1 c2 c3 c4 c5 c6
        subst e0; subst e1; subst e2; subst e3; subst e4; subst e5; subst e6
        exact ⟨q, by simpa using c0, by simpa using c1, by simpa using c2, by simpa using c3, by simpa using c4, by simpa using c5, by simpa using c6, r1, r2, r3, Nat.le_trans r4 hD, Nat.le_trans r5 hD⟩
    obtain ⟨Q, hQ⟩ := choose_lt each
    refine ⟨(List.range len0).map Q, by simp, fun j hj => ?_⟩
    have hj2 : j < len0 := by simpa using hj
    obtain ⟨c0, c1, c2, c3, c4, c5, c6, r⟩ := hQ j hj2
    obtain ⟨b, off, sp⟩ := a
    have hsp : sp = none := by simpa [Addr.add] using World.cell?_spot (hQ 0 (by omega)).1
    subst hsp
    rw [add_off] at c0 c1 c2 c3 c4 c5 c6
    have ej : ((List.range len0).map Q)[j] = Q j := by simp
    rw [ej]
    exact ⟨b, off, rfl, c0, by rw [Nat.add_assoc]; exact c1, by rw [Nat.add_assoc]; exact c2, by rw [Nat.add_assoc]; exact c3, by rw [Nat.add_assoc]; exact c4, by rw [Nat.add_assoc]; exact c5, by rw [Nat.add_assoc]; exact c6, r⟩
end Go.Proofs.Ytdhamhaadclhkaa
