/- How a message that came in is opened: three numbers, a slice of numbers, a slice of bytes, each no longer than the form's reach. A list of messages that came in -/
import Derived.Test.YtedlibkkeegnaaaGreatRv7
import Derived.Lib.SmallJoins
namespace Go.Proofs.YtedlibkkeegnaaaGreat
open Go.ChangeShapes Go.WideShapes Go.ChangeAt Go.RowKit Go.Joins Go.Deep
section
variable {H : Type} {enc : TypeId × Value -> H} {P : Program} {w : World} {base : Nat} {spare : Nat -> Bool} {held : Bool}
theorem trod_struct5 {t : TypeId} {f0 f1 f2 f3 f4 : Field} {fuel : Nat} {cs : List Value} {x : DataW H × List MemPlace} (ht : P.underlying t = some (.struct #[f0, f1, f2, f3, f4])) (h : DataW.trod enc P w base spare held fuel t cs = some x) :
  ∃ y0 y1 y2 y3 y4 n, x = (.agg [y0.1, y1.1, y2.1, y3.1, y4.1], y0.2 ++ (y1.2 ++ (y2.2 ++ (y3.2 ++ y4.2)))) /\ DataW.trod enc P w base spare held n f0.type ((cs.drop f0.offset).take (P.cellsOf f0.type)) = some y0 /\
   DataW.trod enc P w base spare held n f1.type ((cs.drop f1.offset).take (P.cellsOf f1.type)) = some y1 /\ DataW.trod enc P w base spare held n f2.type ((cs.drop f2.offset).take (P.cellsOf f2.type)) = some y2 /\
   DataW.trod enc P w base spare held n f3.type ((cs.drop f3.offset).take (P.cellsOf f3.type)) = some y3 /\ DataW.trod enc P w base spare held n f4.type ((cs.drop f4.offset).take (P.cellsOf f4.type)) = some y4 := by
 obtain ⟨xs, n, _, rfl, _, hlen, hf⟩ := DataW.trod_struct ht h
 match xs, hlen with
 | [y0, y1, y2, y3, y4], _ => exact ⟨y0, y1, y2, y3, y4, n, by simp, by simpa using hf 0 f0 rfl, by simpa using hf 1 f1 rfl, by simpa using hf 2 f2 rfl, by simpa using hf 3 f3 rfl, by simpa using hf 4 f4 rfl⟩
end
theorem Tryz.cells_msg : Tryz.prog.cellsOf 34 = 5 := by kernel_rfl
end Go.Proofs.YtedlibkkeegnaaaGreat
namespace Go.Proofs.YtedlibkkeegnaaaGreat
open Go.RowKit Go.Deep Go.ChangeShapes Go.WideShapes Go.ChangeAt Go.Joins
variable {w w' W : World} {n b : Nat}
structure Mq where
 f : Int
 t : Int
 k : Int
 a3 : Option Addr
 c3 : Nat
 zs : List Int
 a4 : Option Addr
 c4 : Nat
 d : List Nat
def noMq : Mq := ⟨0, 0, 0, none, 0, [], none, 0, []⟩
def MqAt (w : World) (b o : Nat) (q : Mq) : Prop :=
 w.cell? ⟨b, o, none⟩ = some (.int .i64 q.f) /\ w.cell? ⟨b, o + 1, none⟩ = some (.int .i64 q.t) /\ w.cell? ⟨b, o + 2, none⟩ = some (.int .i64 q.k) /\ w.cell? ⟨b, o + 3, none⟩ = some (.slice q.a3 q.zs.length q.c3) /\ w.cell? ⟨b, o + 4, none⟩ = some (.slice q.a4 q.d.length q.c4) /\ IsI w (.slice q.a3 q.zs.length q.c3) q.zs /\ IsB w (.slice q.a4 q.d.length q.c4) q.d
theorem MqAt.keep {o : Nat} {q : Mq} (h : MqAt w b o q) (k : Below w.heap.size w w') : MqAt w' b o q := by
 obtain ⟨h0, h1, h2, h3, h4, h5, h6⟩ := h;exact ⟨(k.cell (cell_lt h0)).trans h0, (k.cell (cell_lt h1)).trans h1, (k.cell (cell_lt h2)).trans h2, (k.cell (cell_lt h3)).trans h3, (k.cell (cell_lt h4)).trans h4, h5.keep k, h6.keep k⟩
def IsMsgs (w : World) (A : Option Addr) (X : List Mq) : Prop := ∀ i, i < X.length -> ∃ b o, A = some ⟨b, o, none⟩ /\ MqAt w b (o + i * 5) (X.getD i noMq)
theorem IsMsgs.keep {A : Option Addr} {X : List Mq} (h : IsMsgs w A X) (k : Below w.heap.size w w') : IsMsgs w' A X := fun i hi => by
 obtain ⟨b, o, e, g⟩ := h i hi;exact ⟨b, o, e, g.keep k⟩
theorem Tryz.cells_intMs : Tryz.prog.cellsOf 3 = 1 := by kernel_rfl
theorem Tryz.cells_numsMs : Tryz.prog.cellsOf 31 = 1 := by kernel_rfl
theorem Tryz.cells_bytesMs : Tryz.prog.cellsOf 32 = 1 := by kernel_rfl
theorem open_rowMs {H : Type} {enc : TypeId × Value -> H} {P : Program} {t e : TypeId} {k : IntKind} {v : Value} {y : DataW H × List MemPlace} (ht : P.underlying t = some (.slice e)) (he : P.underlying e = some (.int k)) (hc : P.cellsOf e = 1)
  (hf : DataW.trod enc P w 0 (fun _ => true) true n t [v] = some y) : ∃ a len cap zs, v = .slice a len cap /\ IsRow k w a len cap zs := by
 rcases open_ints ht he hc hf with ⟨hcs, _⟩ | ⟨x, l, c, zs, hcs, _, hl, hm, hz, hx, hcell, hwz⟩
 ·simp only [List.cons.injEq, and_true] at hcs;exact ⟨none, 0, 0, [], hcs, .inl ⟨rfl, rfl, rfl, rfl⟩⟩
 ·simp only [List.cons.injEq, and_true] at hcs;exact ⟨some x, l, c, zs, hcs, .inr ⟨x, rfl, hl, hm, by simpa using hz, hcell, hwz⟩⟩
theorem msg_in {H : Type} {enc : TypeId × Value -> H} {v0 v1 v2 v3 v4 : Value} {x : DataW H × List MemPlace}
  (h : DataW.trod enc Tryz.prog W 0 (fun _ => true) true n 34 [v0, v1, v2, v3, v4] = some x) :
  ∃ q : Mq, v0 = .int .i64 q.f /\ v1 = .int .i64 q.t /\ v2 = .int .i64 q.k /\ v3 = .slice q.a3 q.zs.length q.c3 /\ v4 = .slice q.a4 q.d.length q.c4 /\ IsI W (.slice q.a3 q.zs.length q.c3) q.zs /\ IsB W (.slice q.a4 q.d.length q.c4) q.d := by
 obtain ⟨z0, z1, z2, z3, z4, n2, hz, g0, g1, g2, g3, g4⟩ := trod_struct5 Tryz.underlying34 h;simp only [Tryz.cells_intMs, Tryz.cells_numsMs, Tryz.cells_bytesMs, List.drop_zero, List.take_succ_cons, List.take_zero, List.drop_succ_cons] at g0 g1 g2 g3 g4;obtain ⟨f, e2, _, _⟩ := DataW.trod_int Tryz.underlying3 g0;obtain ⟨t, e3, _, _⟩ := DataW.trod_int Tryz.underlying3 g1;obtain ⟨k, e4, _, _⟩ := DataW.trod_int Tryz.underlying3 g2;simp only [List.cons.injEq, and_true] at e2 e3 e4;obtain ⟨a3, len3, cap3, s3, rfl, w3⟩ := open_rowMs Tryz.underlying31 Tryz.underlying3 (by kernel_rfl) g3;obtain ⟨a4, len4, cap4, s4, rfl, w4⟩ := open_rowMs Tryz.underlying32 Tryz.underlying5 (by kernel_rfl) g4;obtain ⟨zs, l3, _, i3, _⟩ := w3.isI;obtain ⟨d, l4, _, i4, _⟩ := w4.isB;subst l3; subst l4;exact ⟨⟨f, t, k, a3, cap3, zs, a4, cap4, d⟩, e2, e3, e4, rfl, rfl, i3, i4⟩
theorem msgs_in {H : Type} {enc : TypeId × Value -> H} {fuel : Nat} {a0 : Option Addr} {len0 cap0 : Nat} {x : DataW H × List MemPlace}
  (h : DataW.trod enc Tryz.prog W 0 (fun _ => true) true fuel 22 [.slice a0 len0 cap0] = some x) : ∃ X : List Mq, X.length = len0 /\ IsMsgs W a0 X := by
 rcases open_slice Tryz.underlying22 h with ⟨hcs, _⟩ | ⟨a, len, cap, m, n, D, Pl, hcs, _, hl, _, hm, rfl, hr⟩
 ·simp only [List.cons.injEq, and_true, Value.slice.injEq] at hcs;obtain ⟨rfl, rfl, rfl⟩ := hcs;exact ⟨[], rfl, fun j hj => by simp at hj⟩
 ·simp only [List.cons.injEq, and_true, Value.slice.injEq] at hcs;obtain ⟨rfl, rfl, rfl⟩ := hcs;have hlm : len0 <= m := by rw [hm]; split <;> omega
  have each : ∀ i, ∃ q : Mq, i < len0 -> W.cell? (a.add (i * 5)) = some (.int .i64 q.f) /\ W.cell? (a.add (i * 5 + 1)) = some (.int .i64 q.t) /\ W.cell? (a.add (i * 5 + 2)) = some (.int .i64 q.k) /\ W.cell? (a.add (i * 5 + 3)) = some (.slice q.a3 q.zs.length q.c3) /\ W.cell? (a.add (i * 5 + 4)) = some (.slice q.a4 q.d.length q.c4) /\ IsI W (.slice q.a3 q.zs.length q.c3) q.zs /\ IsB W (.slice q.a4 q.d.length q.c4) q.d := by
   intro i;by_cases hi : i < len0
   ·obtain ⟨cs', h1, h2⟩ := hr i (by omega);rw [Tryz.cells_msg] at h1;obtain ⟨_, hlen, hcell⟩ := World.cells?_some h1
    match cs', hlen with
    | [v0, v1, v2, v3, v4], _ =>
     obtain ⟨q, e0, e1, e2, e3, e4, i3, i4⟩ := msg_in h2;have c0 := hcell 0 (by omega);have c1 := hcell 1 (by omega);have c2 := hcell 2 (by omega);have c3 := hcell 3 (by omega);have c4 := hcell 4 (by omega);rw [add_add] at c0 c1 c2 c3 c4;subst e0; subst e1; subst e2; subst e3; subst e4;exact ⟨q, fun _ => ⟨by simpa using c0, by simpa using c1, by simpa using c2, by simpa using c3, by simpa using c4, i3, i4⟩⟩
   ·exact ⟨noMq, fun h => absurd h hi⟩
  obtain ⟨Q, hQ⟩ := Classical.axiomOfChoice each;refine ⟨(List.range len0).map Q, by simp, fun j hj => ?_⟩;have hj2 : j < len0 := by simpa using hj
  obtain ⟨c0, c1, c2, c3, c4, i3, i4⟩ := hQ j hj2;obtain ⟨b, off, sp⟩ := a;have hsp : sp = none := by simpa [Addr.add] using World.cell?_spot (hQ 0 (by omega)).1
  subst hsp;rw [add_off] at c0 c1 c2 c3 c4;have ej : ((List.range len0).map Q).getD j noMq = Q j := by simp [List.getD_eq_getElem?_getD, hj2]
  rw [ej];exact ⟨b, off, rfl, c0, by rw [Nat.add_assoc]; exact c1, by rw [Nat.add_assoc]; exact c2, by rw [Nat.add_assoc]; exact c3, by rw [Nat.add_assoc]; exact c4, i3, i4⟩
end Go.Proofs.YtedlibkkeegnaaaGreat
