/- What the document's log is in memory: a block of five cells, a row of segments, each with rows of bytes. No condition but the widths. Lists of rows of bytes tha -/
import Derived.Test.YtbmhfnhfhdgdgaaGreatW25
import Derived.Test.YtbmhfnhfhdgdgaaGreatW15
import Derived.Test.YtbmhfnhfhdgdgaaGreatW12
namespace Go.Proofs.YtbmhfnhfhdgdgaaGreat
open Go.RowKit Go.Maps
variable {w w' : World} {G : Nat -> Prop} {s : ByteArray} {M : LogL} {B dp l n c : Nat}
def RowE (E : Nat -> Prop) (w : World) (u : Value) (xs : List Nat) : Prop := IsB w u xs /\ (xs ≠ [] -> ∀ g, u.ownBlock = some g -> E g)
def RowsE (E : Nat -> Prop) (w : World) (v : Value) (xss : List (List Nat)) : Prop :=
 ∃ A c us, v = .slice A xss.length c /\ (A = none -> c = 0) /\ xss.length <= c /\ c <= 9223372036854775807 /\ RdV w A us /\ us.length = xss.length /\ (xss ≠ [] -> ∀ g, v.ownBlock = some g -> E g) /\
  ∀ i, i < us.length -> RowE E w (us.getD i (.slice none 0 0)) (xss.getD i [])
theorem RowE.turn {E S : Nat -> Prop} {u : Value} {xs : List Nat} (h : RowE E w u xs) (t : Turn S w w') (hE : ∀ g, E g -> ¬ S g) : RowE E w' u xs :=
 ⟨h.1.turnE t (fun hne g hg hs => hE g (h.2 hne g hg) hs), h.2⟩
theorem RowE.mono {E E' : Nat -> Prop} {u : Value} {xs : List Nat} (h : RowE E w u xs) (hE : ∀ g, E g -> E' g) : RowE E' w u xs := ⟨h.1, fun hne g hg => hE g (h.2 hne g hg)⟩
theorem rdV_turn {S : Nat -> Prop} {A : Option Addr} {vs : List Value} (h : RdV w A vs) (t : Turn S w w') (hA : vs ≠ [] -> ∀ b off, A = some ⟨b, off, none⟩ -> ¬ S b) : RdV w' A vs := by
 intro hne;obtain ⟨b, off, e, hc⟩ := h hne;refine ⟨b, off, e, fun i hi => ?_⟩;have h1 := hc i hi;have hb := t.block b (cell_lt h1) (hA hne b off e);rw [<- h1];exact World.cell?_of_block hb
theorem RowsE.turn {E S : Nat -> Prop} {v : Value} {xss : List (List Nat)} (h : RowsE E w v xss) (t : Turn S w w') (hE : ∀ g, E g -> ¬ S g) : RowsE E w' v xss := by
 obtain ⟨A, c, us, rfl, h1, h2, h3, h4, h5, h6, h7⟩ := h;refine ⟨A, c, us, rfl, h1, h2, h3, rdV_turn h4 t (fun hne b off e hs => ?_), h5, h6, fun i hi => (h7 i hi).turn t hE⟩;have hx : xss ≠ [] := fun e2 => hne (List.length_eq_zero_iff.1 (by rw [h5, e2]; rfl))
 exact hE b (h6 hx b (by rw [e]; rfl)) hs
theorem RowsE.mono {E E' : Nat -> Prop} {v : Value} {xss : List (List Nat)} (h : RowsE E w v xss) (hE : ∀ g, E g -> E' g) : RowsE E' w v xss := by
 obtain ⟨A, c, us, e, h1, h2, h3, h4, h5, h6, h7⟩ := h;exact ⟨A, c, us, e, h1, h2, h3, h4, h5, fun hne g hg => hE g (h6 hne g hg), fun i hi => (h7 i hi).mono hE⟩
theorem RowsE.nil (E : Nat -> Prop) (w : World) : RowsE E w (.slice none 0 0) [] := ⟨none, 0, [], rfl, fun _ => rfl, Nat.le_refl _, by decide, fun h => absurd rfl h, rfl, fun h => absurd rfl h, fun i hi => absurd hi (by simp)⟩
theorem RowsE.at_ {E : Nat -> Prop} {A : Option Addr} {xss : List (List Nat)} (h : RowsE E w (.slice A n c) xss) (k : Nat) (hk : k < n) :
  ∃ b off A' c', A = some ⟨b, off, none⟩ /\ w.cell? ⟨b, off + k, none⟩ = some (.slice A' (xss.getD k []).length c') /\ RowE E w (.slice A' (xss.getD k []).length c') (xss.getD k []) /\ (xss.getD k []).length <= c' /\ c' <= 9223372036854775807 := by
 obtain ⟨A0, c0, us, e, _, _, _, h4, h5, _, h7⟩ := h;cases e
 obtain ⟨b, off, e, hc⟩ := h4 (by intro e; rw [e] at h5; simp at h5; omega);have hv := h7 k (by omega);have ck := hc k (by omega);obtain ⟨A', c', e1, i1, l1, m1⟩ := hv.1.form rfl;rw [e1] at ck hv;exact ⟨b, off, A', c', e, ck, hv, l1, m1⟩
theorem RowsE.len {E : Nat -> Prop} {v : Value} {xss : List (List Nat)} (h : RowsE E w v xss) : ∃ A c, v = .slice A xss.length c /\ (A = none -> c = 0) /\ xss.length <= c /\ c <= 9223372036854775807 := by
 obtain ⟨A, c, us, e, h1, h2, h3, _⟩ := h;exact ⟨A, c, e, h1, h2, h3⟩
abbrev Sgx := Nat × Value × List (List Nat)
def cellsG : List Sgx -> List Value
 | [] => []
 | x :: r => .int .i64 (x.1 : Int) :: x.2.1 :: cellsG r
theorem cellsG_append : ∀ X Y : List Sgx, cellsG (X ++ Y) = cellsG X ++ cellsG Y
 | [], _ => rfl
 | x :: r, Y => by simp [cellsG, cellsG_append r Y]
theorem cellsG_at : ∀ (X : List Sgx) (i : Nat) (h : i < X.length), (cellsG X)[i * 2]? = some (.int .i64 (X[i].1 : Int)) /\ (cellsG X)[i * 2 + 1]? = some X[i].2.1
 | x :: r, 0, _ => by simp [cellsG]
 | x :: r, i + 1, h => by
  have h' : i < r.length := by simpa using h
  obtain ⟨h1, h2⟩ := cellsG_at r i h';have e1 : (i + 1) * 2 = i * 2 + 2 := by omega
  have e2 : (i + 1) * 2 + 1 = i * 2 + 1 + 2 := by omega
  rw [e2, e1];refine ⟨?_, ?_⟩
  ·simpa [cellsG] using h1
  ·show (cellsG (x :: r))[i * 2 + 1 + 2]? = _
   simpa [cellsG] using h2
def OwnG (w : World) (B : Nat) (v : Value) (X : List Sgx) : Prop := w.ownsRow B 156 2 v X.length (cellsG X)
structure RLogW (w : World) (G E : Nat -> Prop) (l dp : Nat) (s : ByteArray) (vS vD : Value) (X : List Sgx) (nx : Nat) (dy : List Nat) : Prop where
 cells : Blk w 0 152 l [.pointer (some ⟨dp, 0, none⟩), .string s, vS, .int .i64 (nx : Int), vD]
 row : OwnG w 0 vS X
 dirt : OwnN w 0 vD (dy.map fun n : Nat => (n : Int))
 each : ∀ x ∈ X, RowsE E w x.2.1 x.2.2
 own : G l
 mineS : ∀ g, vS.ownBlock = some g -> G g
 mineD : ∀ g, vD.ownBlock = some g -> G g
 mineE : ∀ g, E g -> G g
 offE : ∀ g, E g -> g ≠ l /\ vS.ownBlock ≠ some g /\ vD.ownBlock ≠ some g
 low : ∀ g, G g -> g < w.heap.size
def RLogAt (w : World) (G : Nat -> Prop) (l dp : Nat) (s : ByteArray) (M : LogL) : Prop := ∃ E vS vD X, M.segs = X.map (fun x : Sgx => (x.1, x.2.2)) /\ RLogW w G E l dp s vS vD X M.next M.dirty
theorem RLogW.turn {S : Nat -> Prop} {E : Nat -> Prop} {vS vD : Value} {X : List Sgx} {nx : Nat} {dy : List Nat} (h : RLogW w G E l dp s vS vD X nx dy) (t : Turn S w w') (hS : ∀ g, G g -> ¬ S g) : RLogW w' G E l dp s vS vD X nx dy :=
 ⟨h.cells.turn t (hS l h.own), ownsRow_turn h.row t (fun g hg => hS g (h.mineS g hg)), ownsRow_turn h.dirt t (fun g hg => hS g (h.mineD g hg)), fun x hx => (h.each x hx).turn t (fun g hg => hS g (h.mineE g hg)), h.own, h.mineS, h.mineD, h.mineE, h.offE, fun g hg => Nat.lt_of_lt_of_le (h.low g hg) t.size⟩
theorem RLogW.below {E : Nat -> Prop} {vS vD : Value} {X : List Sgx} {nx : Nat} {dy : List Nat} (h : RLogW w G E l dp s vS vD X nx dy) (k : Below w.heap.size w w') : RLogW w' G E l dp s vS vD X nx dy := h.turn (S := fun _ => False) (Turn.of_below _ k) (fun _ _ => id)
theorem RLogAt.turn {S : Nat -> Prop} (h : RLogAt w G l dp s M) (t : Turn S w w') (hS : ∀ g, G g -> ¬ S g) : RLogAt w' G l dp s M := by
 obtain ⟨E, vS, vD, X, e, h⟩ := h;exact ⟨E, vS, vD, X, e, h.turn t hS⟩
theorem RLogAt.below (h : RLogAt w G l dp s M) (k : Below w.heap.size w w') : RLogAt w' G l dp s M := h.turn (S := fun _ => False) (Turn.of_below _ k) (fun _ _ => id)
theorem RLogAt.low (h : RLogAt w G l dp s M) : ∀ g, G g -> g < w.heap.size := by
 obtain ⟨E, vS, vD, X, e, h⟩ := h;exact h.low
theorem OwnG.form {v : Value} {X : List Sgx} (h : OwnG w B v X) : ∃ A c, v = .slice A X.length c /\ X.length <= c /\ c <= 9223372036854775807 /\ (A = none -> c = 0) /\
  ∀ i (hi : i < X.length), ∃ g, A = some ⟨g, 0, none⟩ /\ B <= g /\ g < w.heap.size /\ w.cell? ⟨g, i * 2, none⟩ = some (.int .i64 (X[i].1 : Int)) /\ w.cell? ⟨g, i * 2 + 1, none⟩ = some X[i].2.1 /\ ∀ j, w.frozen? ⟨g, j, none⟩ = false := by
 unfold OwnG at h;rcases h.2 with ⟨rfl, hn⟩ | ⟨g, cap, cur, rfl, hb, hg, h1, h2, _⟩
 ·exact ⟨none, 0, by rw [hn], by omega, by decide, fun _ => rfl, fun i hi => by omega⟩
 ·refine ⟨_, cap, rfl, h1, by unfold maxLen at h2; omega, (fun e => by cases e), fun i hi => ⟨g, rfl, hb, heap_lt hg, ?_, ?_, fun j => World.ownsRow.frozenAt h j⟩⟩
  ·rw [World.ownsRow.cellAt h (i * 2) (by omega)];exact (cellsG_at X i hi).1
  ·rw [World.ownsRow.cellAt h (i * 2 + 1) (by omega)];exact (cellsG_at X i hi).2
end Go.Proofs.YtbmhfnhfhdgdgaaGreat
namespace Go.Proofs.YtbmhfnhfhdgdgaaGreat
open Go.RowKit
variable {w w' : World} {B n c b : Nat}
def RowP (Pr : Nat -> Prop) (w : World) (B : Nat) (u : Value) (xs : List Nat) : Prop :=
 IsB w u xs /\ (xs ≠ [] -> ∀ b, u.ownBlock = some b -> Pr b /\ (b < B \/ ∃ cur fr, w.heap[b]? = some (.cells cur 5 fr)))
theorem isB_lt {u : Value} {xs : List Nat} (h : IsB w u xs) (hne : xs ≠ []) : ∀ b, u.ownBlock = some b -> b < w.heap.size := by
 obtain ⟨A, c, rfl, hr, _⟩ := h;obtain ⟨b, off, rfl, hc⟩ := hr hne;intro b' e;have e' : b = b' := by simpa [Value.ownBlock] using e
 subst e';exact cell_lt (hc 0 (List.length_pos_iff.2 hne))
theorem RowP.keep {Pr : Nat -> Prop} {u : Value} {xs : List Nat} (h : RowP Pr w B u xs) (hb : Below w.heap.size w w') : RowP Pr w' B u xs := by
 refine ⟨h.1.keep hb, fun hne b e => ?_⟩;obtain ⟨h0, h1 | ⟨cur, fr, h1⟩⟩ := h.2 hne b e
 ·exact ⟨h0, .inl h1⟩
 ·exact ⟨h0, .inr ⟨cur, fr, by rw [hb.block b (heap_lt h1)]; exact h1⟩⟩
theorem RowP.ne {Pr : Nat -> Prop} {u v : Value} {vs : List Value} {xs : List Nat} (h : RowP Pr w B u xs) (hv : OwnV w B v vs) (hne : xs ≠ []) : ∀ b, u.ownBlock = some b -> v.ownBlock ≠ some b := by
 intro b e q;obtain ⟨_, h1 | ⟨cur, fr, h1⟩⟩ := h.2 hne b e
 ·have := (World.ownsRow.lt hv b q).1;omega
 ·rcases hv.2 with ⟨rfl, _⟩ | ⟨g, cap, cur', rfl, _, hh, _⟩
  ·cases q
  ·have e' : g = b := by simpa [Value.ownBlock] using q
   subst e';rw [hh] at h1;simp only [Option.some.injEq, Obj.cells.injEq] at h1;exact absurd h1.2.1 (by decide)
theorem RowP.grown {Pr : Nat -> Prop} {u v : Value} {vs : List Value} {xs : List Nat} (h : RowP Pr w B u xs) (hv : OwnV w B v vs) (hg : w.grownBy w' v.ownBlock) : RowP Pr w' B u xs := by
 refine ⟨?_, fun hne b e => ?_⟩
 ·rcases xs with _ | ⟨x, r⟩
  ·obtain ⟨A, c, e, _, hn⟩ := h.1;exact ⟨A, c, e, fun q => absurd rfl q, hn⟩
  ·refine h.1.turn (S := fun k => some k = v.ownBlock) (Turn.of_grown hg) (fun b e q => ?_);exact h.ne hv (by simp) b e q.symm
 ·have hlt := isB_lt h.1 hne b e;obtain ⟨h0, h1 | ⟨cur, fr, h1⟩⟩ := h.2 hne b e
  ·exact ⟨h0, .inl h1⟩
  ·exact ⟨h0, .inr ⟨cur, fr, by rw [hg.block b hlt (fun q => h.ne hv hne b e q.symm)]; exact h1⟩⟩
theorem RowP.one {Pr : Nat -> Prop} {u : Value} {xs : List Nat} (h : RowP Pr w B u xs) : u.oneCell' = true := by
 obtain ⟨A, c, rfl, _⟩ := h.1
 rfl
theorem Own.rowP {Pr : Nat -> Prop} {B' : Nat} {u : Value} {xs : List Nat} (h : Own w B' u xs) (hP : ∀ g, B' <= g -> Pr g) : RowP Pr w B u xs := by
 refine ⟨h.isB, fun hne b e => ⟨hP b (h.lt b e).1, .inr ?_⟩⟩;unfold Own at h;rcases h.2 with ⟨rfl, _⟩ | ⟨g, cap, cur, rfl, _, hh, _⟩
 ·cases e
 ·have e' : g = b := by simpa [Value.ownBlock] using e
  subst e';exact ⟨_, _, hh⟩
theorem RowP.drop {Pr : Nat -> Prop} {xs : List Nat} (h : RowP Pr w B (.slice (some ⟨b, 0, none⟩) n c) xs) (k m d o : Nat) (hI : IsB w (.slice (some ⟨b, o, none⟩) m d) (xs.drop k)) : RowP Pr w B (.slice (some ⟨b, o, none⟩) m d) (xs.drop k) := by
 refine ⟨hI, fun hne b' e => ?_⟩;have hx : xs ≠ [] := fun e2 => hne (by rw [e2]; simp)
 have e' : b = b' := by simpa [Value.ownBlock] using e
 subst e';exact h.2 hx b rfl
theorem RowE.rowP {E Pr : Nat -> Prop} {u : Value} {xs : List Nat} (h : RowE E w u xs) (hP : ∀ g, E g -> Pr g) (hB : ∀ g, E g -> g < B) : RowP Pr w B u xs := ⟨h.1, fun hne b e => ⟨hP b (h.2 hne b e), .inl (hB b (h.2 hne b e))⟩⟩
def HeldP (Pr : Nat -> Prop) (w : World) (B : Nat) (v : Value) (xss : List (List Nat)) : Prop := ∃ vs, OwnV w B v vs /\ vs.length = xss.length /\ ∀ i, i < vs.length -> RowP Pr w B (vs.getD i (.slice none 0 0)) (xss.getD i [])
theorem HeldP.nil (Pr : Nat -> Prop) (w : World) (B : Nat) : HeldP Pr w B (.slice none 0 0) [] := ⟨[], OwnV.nil w B, rfl, fun _ h => absurd h (by simp)⟩
theorem HeldP.emptyAt {Pr : Nat -> Prop} (hB : B <= w.heap.size) (hb : b = w.heap.size) : HeldP Pr (w.alloc (.cells #[] 33)) B (.slice (some ⟨b, 0, none⟩) 0 0) [] := by
 subst hb;exact ⟨[], ⟨rfl, .inr ⟨_, 0, #[], rfl, hB, heap_alloc_new w _, Nat.le_refl _, Nat.zero_le _, rfl, rfl⟩⟩, rfl, fun _ h => absurd h (by simp)⟩
theorem HeldP.keep {Pr : Nat -> Prop} {v : Value} {xss : List (List Nat)} (h : HeldP Pr w B v xss) (hb : Below w.heap.size w w') : HeldP Pr w' B v xss := by
 obtain ⟨vs, h1, h2, h3⟩ := h;exact ⟨vs, h1.keep hb, h2, fun i hi => (h3 i hi).keep hb⟩
theorem HeldP.drewN {Pr : Nat -> Prop} {v : Value} {xss : List (List Nat)} (h : HeldP Pr w B v xss) (d : Nat) : HeldP Pr (w.drewN d) B v xss := h
theorem HeldP.form {Pr : Nat -> Prop} {v : Value} {xss : List (List Nat)} (h : HeldP Pr w B v xss) : ∃ A c, v = .slice A xss.length c /\ (A = none -> c = 0) /\ xss.length <= c /\ c <= 9223372036854775807 := by
 obtain ⟨vs, h1, h2, _⟩ := h;rw [<- h2];rcases h1.2 with ⟨rfl, hn⟩ | ⟨g, cap, cur, rfl, _, _, h5, h6, _⟩
 ·exact ⟨none, 0, by rw [hn], fun _ => rfl, by omega, by decide⟩
 ·exact ⟨_, cap, rfl, (fun e => by cases e), h5, by unfold maxLen at h6; omega⟩
theorem HeldP.lt {Pr : Nat -> Prop} {v : Value} {xss : List (List Nat)} (h : HeldP Pr w B v xss) : ∀ g, v.ownBlock = some g -> B <= g /\ g < w.heap.size := by
 obtain ⟨vs, h1, _⟩ := h;exact World.ownsRow.lt h1
theorem HeldP.rowsE {Pr E : Nat -> Prop} {v : Value} {xss : List (List Nat)} (h : HeldP Pr w B v xss) (h1 : ∀ g, Pr g -> E g) (h2 : ∀ g, B <= g -> E g) : RowsE E w v xss := by
 obtain ⟨A, c, e, e1, e2, e3⟩ := h.form;have hlt := h.lt;obtain ⟨vs, g1, g2, g3⟩ := h;obtain ⟨A', c', e', hr, _⟩ := g1.form (n := xss.length) g2;rw [e] at e';cases e'
 exact ⟨A, c, vs, e, e1, e2, e3, hr, g2, fun _ g hg => h2 g (hlt g hg).1, fun i hi => ⟨(g3 i hi).1, fun hne b hb => h1 b ((g3 i hi).2 hne b hb).1⟩⟩
theorem getD_appP {α : Type} (d : α) (vs us : List α) (i : Nat) : (vs ++ us).getD i d = if i < vs.length then vs.getD i d else us.getD (i - vs.length) d := by
 simp only [List.getD_eq_getElem?_getD];by_cases h : i < vs.length
 ·rw [if_pos h, List.getElem?_append_left h]
 ·rw [if_neg h, List.getElem?_append_right (by omega)]
theorem HeldP.app {Pr : Nat -> Prop} {v v' : Value} {vs us : List Value} {xss yss : List (List Nat)} (h1 : OwnV w B v vs) (h2 : vs.length = xss.length) (h3 : ∀ i, i < vs.length -> RowP Pr w B (vs.getD i (.slice none 0 0)) (xss.getD i []))
  (u2 : us.length = yss.length) (u3 : ∀ i, i < us.length -> RowP Pr w B (us.getD i (.slice none 0 0)) (yss.getD i [])) (ho : OwnV w' B v' (vs ++ us)) (hg : w.grownBy w' v.ownBlock) : HeldP Pr w' B v' (xss ++ yss) := by
 refine ⟨vs ++ us, ho, by rw [List.length_append, List.length_append, h2, u2], fun i hi => ?_⟩;rw [List.length_append] at hi;rw [getD_appP, getD_appP, <- h2];by_cases e : i < vs.length
 ·rw [if_pos e, if_pos e];exact (h3 i e).grown h1 hg
 ·rw [if_neg e, if_neg e];exact (u3 _ (by omega)).grown h1 hg
theorem step_append_heldP {ops : Array Oper} {o : Oper} {a : Act} {K : Act -> World -> Prop} {Q : Exit -> Act -> World -> Prop} {E : Prop} (hgd : o.guard = none) (s x : Operand)
  (ho : o.op = .call { callee := .builtin .append, args := #[s, x], argTypes := #[154, 154] })
  (Pr : Nat -> Prop) (B : Nat) (v : Value) (xss : List (List Nat)) (hs : a.eval s = v) (hown : HeldP Pr w B v xss)
  (b : Nat) (u : Value) (xs : List Nat) (hx : a.eval x = .slice (some ⟨b, 0, none⟩) 1 1) (hu : w.cell? ⟨b, 0, none⟩ = some u) (hr : RowP Pr w B u xs)
  (hlen : xss.length + 1 <= 1099511627776) (hbase : B <= w.heap.size)
  (h : ∀ v' w', HeldP Pr w' B v' (xss ++ [xs]) -> w.grownBy w' v.ownBlock -> K (a.put o.dst v') w') : if Region.wanted o (yielded ops a.tmps) = true then Oper.wp Tryz.prog o a w K Q else E := by
 have hw : Region.wanted o (yielded ops a.tmps) = true := by simp [Region.wanted, hgd]
 rw [if_pos hw];obtain ⟨i0, hi, hz0, hz1, hz2⟩ := info_parts Tryz.info_rows;obtain ⟨vs, h1, h2, h3⟩ := hown;have h1' := h1;unfold OwnV at h1';refine wp_append_own w s x _ ho B 33 i0 (.slice none 0 0) 1 24 Tryz.underlying154 hi hz0 hz1 hz2 rfl (by decide) v _ _ hs h1' ⟨b, 0, none⟩ 1 1 [u] hx rfl ?_ ?_ (by rw [h2]; unfold maxLen; omega) (by rw [h2]; omega) hbase ?_
 ·intro j z hj
  match j, hj with
  | 0, hj => simp at hj; subst hj; simpa [Addr.add] using hu
 ·intro z hz; simp at hz; subst hz; exact hr.one
 ·intro v' w' k1 k2 _;exact h v' w' (HeldP.app h1 h2 h3 (us := [u]) (yss := [xs]) rfl (fun i hi => by
   have : i = 0 := by simp at hi; omega
   subst this;exact hr) (by unfold OwnV; simpa using k1) k2) k2
theorem step_append_rowsE {ops : Array Oper} {o : Oper} {a : Act} {K : Act -> World -> Prop} {Q : Exit -> Act -> World -> Prop} {E0 : Prop} (hgd : o.guard = none) (s x : Operand)
  (ho : o.op = .call { callee := .builtin .append, args := #[s, x], argTypes := #[154, 154] })
  (Pr E : Nat -> Prop) (B : Nat) (v : Value) (xss yss : List (List Nat)) (hs : a.eval s = v) (hown : HeldP Pr w B v xss)
  (u : Value) (hx : a.eval x = u) (hr : RowsE E w u yss) (hP : ∀ g, E g -> Pr g) (hE : ∀ g, E g -> g < B)
  (hlen : xss.length + yss.length <= 1099511627776) (hbase : B <= w.heap.size)
  (h : ∀ v' w', HeldP Pr w' B v' (xss ++ yss) -> w.grownBy w' v.ownBlock -> K (a.put o.dst v') w') : if Region.wanted o (yielded ops a.tmps) = true then Oper.wp Tryz.prog o a w K Q else E0 := by
 have hw : Region.wanted o (yielded ops a.tmps) = true := by simp [Region.wanted, hgd]
 rw [if_pos hw];obtain ⟨i0, hi, hz0, hz1, hz2⟩ := info_parts Tryz.info_rows;obtain ⟨vs, h1, h2, h3⟩ := hown;obtain ⟨A, c, us, rfl, r1, r2, r3, r4, r5, r6, r7⟩ := hr;have fin : ∀ v' w', w'.ownsRow B 33 1 v' (vs.length + us.length) (vs ++ us) -> w.grownBy w' v.ownBlock -> K (a.put o.dst v') w' := by
  intro v' w' hown' hg;exact h v' w' (HeldP.app h1 h2 h3 r5 (fun i hi => (r7 i hi).rowP hP hE) (by unfold OwnV; simpa using hown') hg) hg
 have h1' := h1;unfold OwnV at h1';rcases A with _ | ad
 ·have hus : us = [] := by
   rcases us with _ | ⟨y, ys⟩
   ·rfl
   ·obtain ⟨_, _, e, _⟩ := r4 (by simp);cases e
  subst hus;have hc0 := r1 rfl;have hy : yss.length = 0 := by rw [<- r5]; rfl
  have hrun := run_append_owned_none (P := Tryz.prog) (w := w) B 154 o.type 33 i0 1 Tryz.underlying154 hi v _ _ h1';unfold Oper.wp;rw [hc0, hy] at hx;simp [execOp, ho, resolve, invoke, builtin, hs, hx, hrun, Result.andThen];exact fin v w (by simpa using h1') (World.grownBy.refl w _)
 ·have hnews : (∀ j u, us[j]? = some u -> w.cell? (ad.add j) = some u) /\ ∀ u ∈ us, u.oneCell' = true := by
   refine ⟨fun j u hu => ?_, fun u hu => ?_⟩
   ·have hj : j < us.length := by
     rcases Nat.lt_or_ge j us.length with h | h
     ·exact h
     ·rw [List.getElem?_eq_none h] at hu; cases hu
    obtain ⟨b, off, e, hc⟩ := r4 (by intro e; rw [e] at hj; simp at hj);cases e
    have := hc j hj;have e2 : Addr.add ⟨b, off, none⟩ j = ⟨b, off + j, none⟩ := add_off ..;rw [e2, this];have h3' : us.getD j (.slice none 0 0) = u := by rw [List.getD_eq_getElem?_getD, hu]; rfl
    rw [h3']
   ·obtain ⟨i, hi, rfl⟩ := List.getElem_of_mem hu;have := ((r7 i hi).rowP hP hE (B := B)).one;have e2 : us.getD i (.slice none 0 0) = us[i] := by simp [hi]
    rw [e2] at this;exact this
  refine wp_append_own w s x _ ho B 33 i0 (.slice none 0 0) 1 24 Tryz.underlying154 hi hz0 hz1 hz2 rfl (by decide) v _ _ hs h1' ad yss.length c us hx (by rw [r5]; simp) hnews.1 hnews.2 (by rw [h2]; unfold maxLen; omega) (by rw [h2]; omega) hbase ?_;intro v' w' k1 k2 _;refine fin v' w' ?_ k2;rw [<- r5] at k1;exact k1
end Go.Proofs.YtbmhfnhfhdgdgaaGreat
namespace Go.Proofs.YtbmhfnhfhdgdgaaGreat
open Go.RowKit Go.Maps
variable {w w' w1 w6 W : World} {G : Nat -> Prop} {s : ByteArray} {B dp l g b : Nat}
theorem RLogW.logCells {E : Nat -> Prop} {vS vD : Value} {X : List Sgx} {nx : Nat} {dy : List Nat} (h : RLogW w G E l dp s vS vD X nx dy) :
  w.cell? ⟨l, 0, none⟩ = some (.pointer (some ⟨dp, 0, none⟩)) /\ w.cell? ⟨l, 1, none⟩ = some (.string s) /\ w.cell? ⟨l, 2, none⟩ = some vS /\ w.cell? ⟨l, 3, none⟩ = some (.int .i64 (nx : Int)) /\ w.cell? ⟨l, 4, none⟩ = some vD :=
 ⟨h.cells.cell 0, h.cells.cell 1, h.cells.cell 2, h.cells.cell 3, h.cells.cell 4⟩
set_option maxRecDepth 100000 in
set_option maxHeartbeats 1600000 in
theorem rbounds_any (w : World) (G : Nat -> Prop) (l dp : Nat) (s : ByteArray) (M : LogL) (h : RLogAt w G l dp s M) (hn : M.next <= 1099511627776) :
  Calls Tryz.prog 54 #[.pointer (some ⟨l, 0, none⟩)] w fun e w' => e = .returned (.tuple #[.int .i64 ((firstL M : Nat) : Int), .int .i64 (M.next : Int)]) /\ ∃ d, w' = w.drewN d := by
 obtain ⟨segs, nx, dy⟩ := M;obtain ⟨E, vS, vD, X, e, h⟩ := h;simp only at e hn h;obtain ⟨c0, c1, c2, c3, c4⟩ := h.logCells;obtain ⟨A, c, eS, hlc, hc63, hnil, hcell⟩ := h.row.form;subst eS;rcases X with _ | ⟨x, X⟩
 ·have e1 : firstL ⟨segs, nx, dy⟩ = nx := by rw [e]; rfl
  rw [e1];have h0 : A = none \/ ∃ a, A = some a := by rcases A with _ | a; exact .inl rfl; exact .inr ⟨a, rfl⟩
  clear hcell h e hnil;go_enter Tryz.func54, Tryz.ntmps54;go_wp2_with fail
  go_quiet (fail)
  go_wp2_with fail
  go_ret2;exact ⟨rfl, _, rfl⟩
 ·have e1 : firstL ⟨segs, nx, dy⟩ = x.1 := by rw [e]; rfl
  rw [e1];obtain ⟨g, rfl, _, _, q0, q1, _⟩ := hcell 0 (by simp);obtain ⟨n, hn0⟩ : ∃ n, n = (x :: X).length := ⟨_, rfl⟩;rw [<- hn0] at c2 hlc;have hpos : 0 < n := by rw [hn0]; simp
  have hz0 : ((n : Int) == 0) = false := by simp; omega
  have q0' : w.cell? ⟨g, 0, none⟩ = some (.int .i64 (x.1 : Int)) := by simpa using q0
  clear hcell h e hnil hn0 q0 q1;go_enter Tryz.func54, Tryz.ntmps54;go_wp2_with fail
  go_quiet (fail)
  go_wp2_with fail
  go_ret2;exact ⟨rfl, _, rfl⟩
theorem getD_mem {xss : List (List Nat)} {j : Nat} (hj : j < xss.length) : xss.getD j [] ∈ xss := by
 have e : xss.getD j [] = xss[j] := by simp [hj]
 rw [e];exact List.getElem_mem hj
theorem below_step_of {a b : World} (h : Below w.heap.size w a) (k : Below B a b) (hB : w.heap.size <= B) : Below w.heap.size w b := h.trans (k.mono hB)
set_option maxRecDepth 100000 in
set_option maxHeartbeats 3200000 in
theorem rget_any (w : World) (G : Nat -> Prop) (l dp : Nat) (s : ByteArray) (M : LogL) (z : Int) (h : RLogAt w G l dp s M) (hz1 : -9223372036854775808 <= z) (hz2 : z <= 9223372036854775807)
  (hsz : ∀ q ∈ M.segs, q.1 <= 1099511627776 /\ q.2.length <= 1099511627776 /\ ∀ p ∈ q.2, p.length <= 1099511627776) :
  Calls Tryz.prog 42 #[.pointer (some ⟨l, 0, none⟩), .int .i64 z] w fun e w' => ∃ v, e = .returned (.tuple #[v, .int .i64 ((getE M z).2 : Nat)]) /\ Own w' w.heap.size v (getE M z).1 /\ Below w.heap.size w w' := by
 obtain ⟨segs, nx, dy⟩ := M;obtain ⟨E, vS, vD, X, e, h⟩ := h;simp only at e hsz h;obtain ⟨_, _, c2, _, _⟩ := h.logCells;have hll : l < w.heap.size := h.low l h.own;obtain ⟨A, c, eS, hlc, hc63, _, hcell⟩ := h.row.form;subst eS;obtain ⟨N, hN⟩ : ∃ N, N = X.length := ⟨_, rfl⟩;rw [<- hN] at c2 hlc;have HN := hide hN;have HC := hide hcell;have HE := hide h.each;have HS := hide hsz;have ES := hide e;clear hcell h e hN hsz;go_enter Tryz.func42, Tryz.ntmps42;go_wp2_with fail
 go_loopw [6] (fun i wr => ∃ j : Nat, j <= N /\ i = .int .i64 (j : Int) /\ Hid (getE ⟨segs, nx, dy⟩ z = getE ⟨(X.drop j).map (fun x : Sgx => (x.1, x.2.2)), nx, dy⟩ z) /\ Hid (Below w.heap.size w wr)) (fun i _ => N - (intOf i).toNat)
 case atStart => exact ⟨0, Nat.zero_le _, rfl, by rw [ES.out]; rfl, Below.refl _ _⟩
 case round =>
  obtain ⟨j, hj, rfl, hG, hB⟩ := hrel;have k2 := (hB.out.cell (p := ⟨l, 2, none⟩) hll).trans c2;by_cases hlt : j < N
  ·have hjX : j < X.length := by rw [<- HN.out]; exact hlt
   obtain ⟨g, rfl, _, hgl, q0, q1, _⟩ := HC.out j hjX;have hrow := HE.out X[j] (List.getElem_mem hjX);have hmem : (X[j].1, X[j].2.2) ∈ segs := by rw [ES.out]; exact List.mem_map.2 ⟨X[j], List.getElem_mem hjX, rfl⟩
   obtain ⟨z1, z2, z3⟩ := HS.out _ hmem;simp only at z1 z2 z3;have hst : getE ⟨(X.drop j).map (fun x : Sgx => (x.1, x.2.2)), nx, dy⟩ z = if (X[j].1 : Int) <= z /\ z < (X[j].1 : Int) + X[j].2.2.length then (X[j].2.2.getD (z - X[j].1).toNat [], 0) else getE ⟨(X.drop (j + 1)).map (fun x : Sgx => (x.1, x.2.2)), nx, dy⟩ z := by
    rw [List.drop_eq_getElem_cons hjX, List.map_cons, getE_cons]
   obtain ⟨f, hf⟩ : ∃ f, f = X[j].1 := ⟨_, rfl⟩;obtain ⟨es, hes⟩ : ∃ es, es = X[j].2.2 := ⟨_, rfl⟩;obtain ⟨A1, cc, ev, hnil1, hlc1, hc1⟩ := hrow.len;rw [ev] at q1 hrow;rw [<- hf] at q0 z1 hst;rw [<- hes] at q1 hrow z2 z3 hst hlc1;obtain ⟨n, hn⟩ : ∃ n, n = es.length := ⟨_, rfl⟩;rw [<- hn] at q1 hrow z2 hst hlc1;have q0' := (hB.out.cell (p := ⟨g, j * 2, none⟩) hgl).trans q0;have q1' := (hB.out.cell (p := ⟨g, j * 2 + 1, none⟩) hgl).trans q1;have HR := hide (hrow.turn (S := fun _ => False) (Turn.of_below _ hB.out) (fun _ _ => id));have HST := hide hst;have HNN := hide hn;have Z3 := hide z3;have nb := below_alloc wr (.cells #[.int .i64 (f : Int), .slice A1 n cc] 156);have m0 : (wr.alloc (.cells #[.int .i64 (f : Int), .slice A1 n cc] 156)).cell? ⟨wr.heap.size, 0, none⟩ = some (.int .i64 (f : Int)) := by rw [cell_of_row _ _ _ _ _ (0, 0) (heap_alloc_new wr _)]; rfl
   have m1 : (wr.alloc (.cells #[.int .i64 (f : Int), .slice A1 n cc] 156)).cell? ⟨wr.heap.size, 1, none⟩ = some (.slice A1 n cc) := by rw [cell_of_row _ _ _ _ _ (0, 0) (heap_alloc_new wr _)]; rfl
   have K2 := hide (below_step hB.out nb);have HR2 := hide (HR.out.turn (S := fun _ => False) (Turn.of_below _ nb) (fun _ _ => id));clear hf hes ev hn q0 q1 hrow hst z3 nb;by_cases hin : (f : Int) <= z /\ z < (f : Int) + n
   ·obtain ⟨i1, i2⟩ := hin;obtain ⟨d, hd⟩ : ∃ d : Nat, z - (f : Int) = (d : Int) := ⟨(z - f).toNat, by omega⟩;have hdn : d < n := by omega
    obtain ⟨b, off, A2, c5, rfl, y0, hrE, _, _⟩ := HR2.out.at_ d hdn;have hpl := Z3.out _ (getD_mem (xss := es) (j := d) (by rw [<- HNN.out]; exact hdn));have hans : getE ⟨segs, nx, dy⟩ z = (es.getD d [], 0) := by
     rw [hG.out, HST.out, if_pos ⟨i1, i2⟩, hd]
     rfl
    obtain ⟨p, hp⟩ : ∃ p, p = es.getD d [] := ⟨_, rfl⟩;rw [<- hp] at y0 hrE hpl hans;obtain ⟨m, hm⟩ : ∃ m, m = p.length := ⟨_, rfl⟩;rw [<- hm] at y0 hpl hrE;have kE := below_alloc (wr.alloc (.cells #[.int .i64 (f : Int), .slice (some ⟨b, off, none⟩) n cc] 156)) (.cells #[] 5);have y1 := (kE.cell (p := ⟨b, off + d, none⟩) (cell_lt y0)).trans y0;have RE := hide (hrE.1.keep kE);have HA := hide hans;have HM := hide hm;have KE := hide (below_step K2.out kE);have ol := own_lit (wr.alloc (.cells #[.int .i64 (f : Int), .slice (some ⟨b, off, none⟩) n cc] 156)) #[] [] rfl (by decide);have hz : (wr.alloc (.cells #[.int .i64 (f : Int), .slice (some ⟨b, off, none⟩) n cc] 156)).heap.size = wr.heap.size + 1 := by simp
    rw [hz] at ol;have OL := hide ol;have SZ : Hid (w.heap.size <= wr.heap.size + 1) := hide (by have := hB.out.size; omega);clear ol hz;clear hp hm hans hrE y0 kE;go_wp2_with (at_builtin; refine halt ?_)
    refine ⟨?_⟩;refine wpList_append_bytes rfl (.tmp 38) (.tmp 46) rfl (wr.heap.size + 1) _ [] rfl OL.out _ p rfl RE.out (by rw [<- HM.out, List.length_nil]; omega) (by simp) ?_;intro v9 w9 o9 k9;rw [List.nil_append] at o9;have O9 := hide (o9.more SZ.out);have K9 := hide (below_step_of KE.out k9 SZ.out);clear o9 k9 y1;go_wp2_with fail
    go_ret2;rw [HA.out];exact ⟨_, rfl, O9.out, K9.out⟩
   ·have HA : Hid (getE ⟨segs, nx, dy⟩ z = getE ⟨(X.drop (j + 1)).map (fun x : Sgx => (x.1, x.2.2)), nx, dy⟩ z) := by
     unfold Hid;rw [hG.out, HST.out, if_neg hin]
    have hcase : ¬ (f : Int) <= z \/ (f : Int) <= z /\ ¬ z < (f : Int) + n := by omega
    rcases hcase with i1 | ⟨i1, i2⟩
    all_goals
     go_wp2_with fail
     go_roundw
     case rel => exact ⟨j + 1, by omega, by go_num, HA, K2⟩
     case measure => simp [intOf]; omega
  ·obtain rfl : j = N := by omega
   have hf : getE ⟨segs, nx, dy⟩ z = ([], 7) := by rw [hG.out, HN.out, List.drop_length]; rfl
   have HF := hide hf;clear hf;go_wp2_with fail
   go_ret2;rw [HF.out];exact ⟨_, rfl, World.ownsRow_nil _ _ _ _, hB.out⟩
set_option maxRecDepth 100000 in
set_option maxHeartbeats 1600000 in
theorem rrecord_wide (i : Nat) (P : Option Addr) (m cp : Nat) (p : List Nat) (w : World) (hi : i <= 1099511627776) (hP : IsB w (.slice P m cp) p) (hm : p.length = m) (hb : ∀ x ∈ p, x < 256) (hmr : m <= 1048566) :
  Calls Tryz.prog 104 #[.int .i64 (i : Int), .slice P m cp] w fun e w' => ∃ v, e = .returned v /\ Own w' w.heap.size v (recL i p) /\ Below w.heap.size w w' := by
 have HP := hide hP;have HM := hide hm;have HB := hide hb;have hu := uvl_len64 i (by omega);clear hP hm hb;go_enter Tryz.func104, Tryz.ntmps104;go_wp2_with fail
 refine (ruvarint_any i w (by omega)).mono ?_;rintro e w1 ⟨u, rfl, o1, k1⟩;have O1 := hide o1;have K1 := hide k1;have P1 := hide (HP.out.keep k1);clear o1 k1;go_wp2_with (at_builtin; refine halt ?_)
 refine ⟨?_⟩;refine wpList_append_bytes rfl (.tmp 10) (.tmp 11) rfl w.heap.size _ (uvl i) rfl O1.out _ p rfl P1.out (by rw [HM.out]; omega) K1.out.size ?_;intro v2 w2 o2 k2;obtain ⟨A2, c2, rfl, i2, l2, m2⟩ := o2.isB.form (n := (uvl i).length + m) (by rw [List.length_append, HM.out]);have I2 := hide i2;have K2 := hide (K1.out.trans k2);clear o2 i2 k2;go_wp2_with fail
 refine (rencode_any A2 ((uvl i).length + m) c2 (uvl i ++ p) w2 I2.out (by rw [List.length_append, HM.out]) (byte_app (uvl_byte i) HB.out) (by omega)).mono ?_;rintro e w3 ⟨r, rfl, o3, k3⟩;have O3 := hide (o3.more K2.out.size);have K3 := hide (below_step_of K2.out k3 K2.out.size);clear o3 k3;go_wp2_with fail
 go_ret;exact ⟨_, rfl, O3.out, K3.out⟩
theorem rrecord_any (i : Nat) (P : Option Addr) (m cp : Nat) (p : List Nat) (w : World) (hi : i <= 99999999) (hP : IsB w (.slice P m cp) p) (hm : p.length = m) (hb : ∀ x ∈ p, x < 256) (hmr : m <= 1048566) :
  Calls Tryz.prog 104 #[.int .i64 (i : Int), .slice P m cp] w fun e w' => ∃ v, e = .returned v /\ Own w' w.heap.size v (recL i p) /\ Below w.heap.size w w' :=
 rrecord_wide i P m cp p w (by omega) hP hm hb hmr
theorem HeldP.notIn {Pr : Nat -> Prop} {v : Value} {xss : List (List Nat)} {e : TypeId} {cs : List Value} (h : HeldP Pr w B v xss) (hb : Blk w 0 e g cs) (h1 : e ≠ 33) : v.ownBlock ≠ some g := by
 intro q;obtain ⟨vs, o1, _⟩ := h;rcases o1.2 with ⟨rfl, _⟩ | ⟨g', cap, cur, rfl, _, hh, _⟩
 ·cases q
 ·have e' : g' = g := by simpa [Value.ownBlock] using q
  subst e';obtain ⟨_, cur', h2, _⟩ := hb;rw [hh] at h2;simp only [Option.some.injEq, Obj.cells.injEq] at h2;exact h1 h2.2.1.symm
theorem HeldP.other {Pr : Nat -> Prop} {v : Value} {xss : List (List Nat)} {e : TypeId} {cs : List Value} (h : HeldP Pr w B v xss) (hb : Blk w 0 e g cs) (h1 : e ≠ 33) (h2 : e ≠ 5) (hg : B <= g) (t : w.grownBy w' (some g)) : HeldP Pr w' B v xss := by
 have hn := h.notIn hb h1;obtain ⟨vs, o1, o2, o3⟩ := h;have hrow : ∀ {u : Value} {xs : List Nat}, RowP Pr w B u xs -> xs ≠ [] -> ∀ b, u.ownBlock = some b -> b ≠ g := fun {u xs} hr hne b hbk e => by
  subst e;rcases (hr.2 hne b hbk).2 with h3 | ⟨cur, fr, h3⟩
  ·omega
  ·obtain ⟨_, cur', h4, _⟩ := hb;rw [h3] at h4;simp only [Option.some.injEq, Obj.cells.injEq] at h4;exact h2 h4.2.1.symm
 refine ⟨vs, ?_, o2, fun i hi => ?_⟩
 ·unfold OwnV at o1 ⊢;exact ownsRow_turn o1 (Turn.of_grown t) (fun b hb2 e2 => hn (by rw [hb2]; exact e2))
 ·have hr := o3 i hi;refine ⟨hr.1.turnE (Turn.of_grown t) (fun hne b hb2 e2 => hrow hr hne b hb2 (Option.some.inj e2)), fun hne b hb2 => ?_⟩;obtain ⟨p0, p1 | ⟨cur, fr, p1⟩⟩ := hr.2 hne b hb2
  ·exact ⟨p0, .inl p1⟩
  ·refine ⟨p0, .inr ⟨cur, fr, ?_⟩⟩;rw [t.block b (heap_lt p1) (fun e2 => hrow hr hne b hb2 (Option.some.inj e2))];exact p1
theorem seg_store {Pr : Nat -> Prop} {wr : World} {vL x y : Value} {acc : List (List Nat)} (P : Blk wr 0 156 b [x, y]) (hB : B <= b) (h : HeldP Pr wr B vL acc) (u v : Value) :
  Blk ((wr.setCell ⟨b, 0, none⟩ u).setCell ⟨b, 1, none⟩ v) 0 156 b [u, v] /\ HeldP Pr ((wr.setCell ⟨b, 0, none⟩ u).setCell ⟨b, 1, none⟩ v) B vL acc /\ Below B wr ((wr.setCell ⟨b, 0, none⟩ u).setCell ⟨b, 1, none⟩ v) := by
 have p1 := P.stored 0 u;have p2 := p1.stored 1 v;refine ⟨p2, ?_, ((Below.refl B wr).setCell hB _).setCell hB _⟩;exact (h.other P (by decide) (by decide) hB (grown_set _ _ _ _)).other p1 (by decide) (by decide) hB (grown_set _ _ _ _)
theorem grow_facts {Pr : Nat -> Prop} {b4 b7 : Nat} {v : Value} {acc : List (List Nat)} {c4 c7 : List Value} (g6 : W.grownBy w6 v.ownBlock) (kA : Below w1.heap.size w1 W) (hB : B <= w1.heap.size) (H : HeldP Pr w1 B v acc) (Q4 : Blk w1 0 156 b4 c4) (Q7 : Blk w1 0 156 b7 c7) :
  Blk w6 0 156 b4 c4 /\ Blk w6 0 156 b7 c7 /\ Below B w1 w6 := by
 have H2 := H.keep kA;refine ⟨(Q4.keep kA).kept g6 (H2.notIn (Q4.keep kA) (by decide)), (Q7.keep kA).kept g6 (H2.notIn (Q7.keep kA) (by decide)), (kA.mono hB).trans ((Below.refl _ _).grown g6 (Nat.le_trans hB kA.size) fun k hk => (H2.lt k hk).1)⟩
set_option maxRecDepth 100000 in
set_option maxHeartbeats 6400000 in
theorem rseg_any (A : Option Addr) (n c : Nat) (xs : List Nat) (i : Nat) (w : World) (hA : IsB w (.slice A n c) xs) (hn : xs.length = n) (hb : ∀ x ∈ xs, x < 256) (h3 : n <= 549755813888) (hi : i <= 1099511627776) :
  Calls Tryz.prog 101 #[.slice A n c, .int .i64 (i : Int)] w fun e w' => ∃ v, e = .returned (.tuple #[.agg #[.int .i64 (i : Int), v], .int .i64 ((segL xs i).2.1 : Nat), .bool (segL xs i).2.2]) /\ HeldP (fun g => w.heap.size <= g) w' w.heap.size v (segL xs i).1 /\ Below w.heap.size w w' := by
 have HA := hide hA;have HN := hide hn;have HB := hide hb;obtain ⟨hcn, hcm⟩ := hA.caps;clear hA hn hb;go_enter Tryz.func101, Tryz.ntmps101;go_wp2_with fail
 have m4 := Blk.new (B := 0) w 156 #[.int .i64 0, .slice none 0 0] (Nat.zero_le _);have ka := below_alloc w (.cells #[.int .i64 0, .slice none 0 0] 156);obtain ⟨W0, hW0⟩ : ∃ W0, W0 = w.alloc (.cells #[.int .i64 0, .slice none 0 0] 156) := ⟨_, rfl⟩;have hz0 : W0.heap.size = w.heap.size + 1 := by rw [hW0]; simp
 rw [<- hW0] at m4 ka ⊢;have m7 := Blk.new (B := 0) W0 156 #[.int .i64 (i : Int), .slice none 0 0] (Nat.zero_le _);have kb := below_alloc W0 (.cells #[.int .i64 (i : Int), .slice none 0 0] 156);have m4 := m4.turn (Turn.of_below (fun _ => False) kb) id;rw [hz0] at m7;obtain ⟨W1, hW1⟩ : ∃ W1, W1 = W0.alloc (.cells #[.int .i64 (i : Int), .slice none 0 0] 156) := ⟨_, rfl⟩;rw [<- hW1] at m4 m7 kb ⊢;have hz1 : W1.heap.size = w.heap.size + 2 := by rw [hW1]; simp [hz0]
 have K1 := hide (below_step ka kb);have Z1 := hide hz1;have M4 := hide m4;have M7 := hide m7;obtain ⟨b4, h4⟩ : ∃ b, b = w.heap.size := ⟨_, rfl⟩;obtain ⟨b7, h7⟩ : ∃ b, b = w.heap.size + 1 := ⟨_, rfl⟩;rw [<- h7] at M7 ⊢;rw [<- h4] at M4 ⊢;have H4 := hide h4;have H7 := hide h7;have n47 : ¬ b4 = b7 := by omega
 have n74 : ¬ b7 = b4 := by omega
 clear m4 ka hz0 m7 kb hz1 h4 h7 hW0 hW1
 go_loopw [8] (fun g wr => ∃ (k : Nat) (vL : Value) (acc : List (List Nat)), k <= n /\ g = .int .i64 (k : Int) /\ Hid (Blk wr 0 156 b4 [.int .i64 0, .slice none 0 0]) /\ Hid (Blk wr 0 156 b7 [.int .i64 (i : Int), vL]) /\
   Hid (HeldP (fun g => w.heap.size <= g) wr w.heap.size vL acc) /\ Hid (SofarG xs i k acc) /\ Hid (Below w.heap.size w wr)) (fun g _ => n - (intOf g).toNat)
 case atStart => exact ⟨0, _, [], Nat.zero_le _, rfl, M4.out, M7.out, HeldP.nil _ _ _, SofarG.start xs i, K1.out⟩
 case round =>
  clear M4 M7 K1 Z1;obtain ⟨k, vL, acc, hk, rfl, P4, P7, hH, hS, hbel⟩ := hrel;obtain ⟨AL, cL, rfl, hL1, hL2, hL3⟩ := hH.out.form;obtain ⟨na, hna⟩ : ∃ na, na = acc.length := ⟨_, rfl⟩;rw [<- hna] at P7 hH hL2;have HNA := hide hna;clear hna;have r70 : wr.cell? ⟨b7, 0, none⟩ = some (.int .i64 (i : Int)) := P7.out.cell 0;have r71 : wr.cell? ⟨b7, 1, none⟩ = some (.slice AL na cL) := P7.out.cell 1;have r40 : wr.cell? ⟨b4, 0, none⟩ = some (.int .i64 0) := P4.out.cell 0;have r41 : wr.cell? ⟨b4, 1, none⟩ = some (.slice none 0 0) := P4.out.cell 1;have f40 := P4.out.frozen 0;have f41 := P4.out.frozen 1;by_cases hlt : k < n
  ·obtain ⟨g0, off, rfl⟩ := HA.out.at_ (by omega);have HI := hide (HA.out.drop k (n - k) (c - k) rfl rfl hk);have hc0 : ¬ c = k := by omega
   have hc1 : n - k <= c - k := by omega
   have HL : Hid ((xs.drop k).length = n - k) := by unfold Hid; rw [List.length_drop, HN.out]
   have hsm := (decL_le (xs.drop k)).2;have HBD : Hid (∀ x ∈ xs.drop k, x < 256) := fun x hx => HB.out x (List.mem_of_mem_drop hx)
   have hkx : k < xs.length := by rw [HN.out]; exact hlt
   obtain ⟨de, hde⟩ : ∃ de, de = (decL (xs.drop k)).2.2 := ⟨_, rfl⟩;obtain ⟨dn, hdn⟩ : ∃ dn, dn = (decL (xs.drop k)).2.1 := ⟨_, rfl⟩;obtain ⟨dp, hdp⟩ : ∃ dp, dp = (decL (xs.drop k)).1 := ⟨_, rfl⟩;rw [<- hde] at hsm;have hdec := rdecode_any (some ⟨g0, off + k, none⟩) (n - k) (c - k) (xs.drop k);rw [<- hde, <- hdn, <- hdp] at hdec;by_cases he : de = 0
   ·have hd0 : decL (xs.drop k) = (dp, dn, 0) := by rw [hdp, hdn, <- he, hde]
    obtain ⟨_, hdn8, hdpl, hdnl, hdpb⟩ := dec_inv HBD.out hd0;rw [HL.out] at hdnl;obtain ⟨m, hm⟩ : ∃ m, m = dp.length := ⟨_, rfl⟩;rw [<- hm] at hdn8 hdpl;have hrle := rvl_le dp 0 0 (by omega) (by decide);have hrin := rvl_in hdpb;obtain ⟨rv, hrv⟩ : ∃ rv, rv = (rvl 0 0 dp).1 := ⟨_, rfl⟩;obtain ⟨rk, hrk⟩ : ∃ rk, rk = (rvl 0 0 dp).2.1 := ⟨_, rfl⟩;obtain ⟨re, hre⟩ : ∃ re, re = (rvl 0 0 dp).2.2 := ⟨_, rfl⟩;rw [<- hrv, <- hrk, <- hre] at hrle;rw [<- hrk, <- hre, <- hm] at hrin;obtain ⟨hrl1, hrl2, hrl3⟩ := hrle;have hna2 := hS.out.2.2.2;rw [<- HNA.out] at hna2;obtain ⟨t, ht⟩ : ∃ t, t = i + na := ⟨_, rfl⟩;have hsum : (i : Int) + (na : Int) = (t : Int) := by omega
    have HPB := hide hdpb;have HM := hide hm;have hrd := fun (W : World) (AA : Option Addr) (CC : Nat) (hI : IsB W (.slice AA m CC) dp) => ruread_any AA m CC dp W hI.rd HM.out HPB.out (by omega)
    rw [<- hrv, <- hrk, <- hre] at hrd;have HRD := hide hrd;have HDEC := hide hdec;have HDE := hide he;by_cases hgood : re = 0 /\ rv = t
    ·obtain ⟨hg1, hg2⟩ := hgood;have HNX := hide (hS.out.next hkx (by rw [<- hde]; exact he) (by rw [<- hdp, <- hre]; exact hg1) (by rw [<- hdp, <- hrv, <- HNA.out, <- ht]; exact hg2));rw [<- hdp, <- hrk, <- hdn] at HNX;have hrkm := hrin hg1;have hz1 : ((re : Int) != 0) = false := by simp [hg1]
     have hz2 : ((rv : Int) != (t : Int)) = false := by simp [hg2]
     have hm1 : 1 <= m := by
      rcases dp with _ | ⟨x, r⟩
      ·rw [rvl_nil] at hre;rw [hre] at hg1;exact absurd hg1 (by decide)
      ·rw [hm]; simp
     have hdn64 : dn <= n := by omega
     have hkn : k + dn <= n := by omega
     have HD8 := hide hdn8;have hna3 : na + 1 <= 1099511627776 := by omega
     clear hde hdn hdp hdec hkx hd0 hrv hrk hre hrin ht hrd hm hdn8 hdpb hg1 hg2;subst he;go_wp2_with fail
     refine (HDEC.out _ (HI.out.keep hbel.out) HL.out HBD.out (by omega) hc1 (by omega)).mono ?_;rintro e w1 ⟨s1, rfl, o1, k1⟩;obtain ⟨g1, c1, rfl⟩ := own_some o1 HM.out.symm hm1;have i1 := o1.isB;obtain ⟨hmc1, _⟩ := i1.caps;have I1 := hide i1;have RP0 := hide ((o1.rowP (Pr := fun g => w.heap.size <= g) (B := w.heap.size) (fun g hg => Nat.le_trans hbel.out.size hg)).drop rk (m - rk) (c1 - rk) _ (isB_tail i1 rk hrkm));have Q4 := hide (P4.out.keep k1);have Q7 := hide (P7.out.keep k1);have HH := hide (hH.out.keep k1);have K1 := hide (below_step hbel.out k1);clear o1 k1 i1 r70 r71 r40 r41 f40 f41;have r70 : w1.cell? ⟨b7, 0, none⟩ = some (.int .i64 (i : Int)) := Q7.out.cell 0;have r71 : w1.cell? ⟨b7, 1, none⟩ = some (.slice AL na cL) := Q7.out.cell 1;have f71 := Q7.out.frozen 1;go_wp2_with fail
     refine (HRD.out w1 _ c1 I1.out).mono ?_;rintro e w9 ⟨rfl, rfl⟩;have JH := hide (fun W (h : Below w1.heap.size w1 W) => HH.out.keep h);have J4 := hide (fun W (h : Below w1.heap.size w1 W) => Q4.out.keep h);have J7 := hide (fun W (h : Below w1.heap.size w1 W) => Q7.out.keep h);have BS : Hid (w.heap.size <= w1.heap.size) := K1.out.size;by_cases hck : c1 = rk
     ·have e0 : c1 - rk = 0 := by omega
      rw [if_pos hck, e0] at RP0;clear e0;have JR := hide (fun W (h : Below w1.heap.size w1 W) => RP0.out.keep h);have kA := below_alloc w1 (.cells #[.slice (some ⟨g1, 0, none⟩) (m - rk) 0] 33);have r71d : (w1.alloc (.cells #[.slice (some ⟨g1, 0, none⟩) (m - rk) 0] 33)).drew.cell? ⟨b7, 1, none⟩ = some (.slice AL na cL) := (kA.cell (p := ⟨b7, 1, none⟩) (cell_lt r71)).trans r71;go_wp2_with fail
      go_region_law (first
       | (refine step_append_heldP rfl (.tmp 53) (.tmp 57) rfl (fun g => w.heap.size <= g) w.heap.size _ acc rfl (JH.out _ ⟨kA.os, kA.tape, kA.output, kA.size, kA.block⟩) w1.heap.size _ (dp.drop rk) rfl (by exact cell_new _ _ _) (JR.out _ ⟨kA.os, kA.tape, kA.output, kA.size, kA.block⟩) (by rw [<- HNA.out]; omega) (by have := kA.size; exact Nat.le_trans BS.out this) ?_; intro v6 w6 h6 g6; obtain ⟨Q46, Q76, K16⟩ := grow_facts g6 ⟨kA.os, kA.tape, kA.output, kA.size, kA.block⟩ BS.out HH.out Q4.out Q7.out; obtain ⟨A6, c6, rfl, -, -, -⟩ := h6.form; obtain ⟨n6, hn6⟩ : ∃ n6, n6 = (acc ++ [dp.drop rk]).length := ⟨_, rfl⟩; rw [<- hn6] at h6 ⊢; clear hn6; have z71 : w6.cell? ⟨b7, 1, none⟩ = some (.slice AL na cL) := Q76.cell 1; have fz71 := Q76.frozen 1; clear g6))
      all_goals
       have P4' := hide (Q46.kept (grown_set w6 b7 1 (.slice A6 n6 c6)) (fun e => n74 (Option.some.inj e)));have P7' := hide (Q76.stored 1 (.slice A6 n6 c6));have HH' := hide (h6.other Q76 (by decide) (by decide) (by rw [H7.out]; omega) (grown_set w6 b7 1 (.slice A6 n6 c6)));have KK' := hide ((K1.out.trans K16).trans ((Below.refl w.heap.size w6).setCell (p := ⟨b7, 1, none⟩) (by show w.heap.size <= b7; rw [H7.out]; omega) (.slice A6 n6 c6)));go_wp2_with fail
       go_roundw
       case rel => exact ⟨k + dn, _, acc ++ [dp.drop rk], hkn, by go_num, P4'.out, P7'.out, HH'.out, HNX.out, KK'.out⟩
       case measure =>
        have h8 := HD8.out;simp [intOf];omega
     ·rw [if_neg hck] at RP0;have JR := hide (fun W (h : Below w1.heap.size w1 W) => RP0.out.keep h);have kA := below_alloc w1 (.cells #[.slice (some ⟨g1, rk, none⟩) (m - rk) (c1 - rk)] 33);have r71d : (w1.alloc (.cells #[.slice (some ⟨g1, rk, none⟩) (m - rk) (c1 - rk)] 33)).drew.cell? ⟨b7, 1, none⟩ = some (.slice AL na cL) := (kA.cell (p := ⟨b7, 1, none⟩) (cell_lt r71)).trans r71;go_wp2_with fail
      go_region_law (first
       | (refine step_append_heldP rfl (.tmp 53) (.tmp 57) rfl (fun g => w.heap.size <= g) w.heap.size _ acc rfl (JH.out _ ⟨kA.os, kA.tape, kA.output, kA.size, kA.block⟩) w1.heap.size _ (dp.drop rk) rfl (by exact cell_new _ _ _) (JR.out _ ⟨kA.os, kA.tape, kA.output, kA.size, kA.block⟩) (by rw [<- HNA.out]; omega) (by have := kA.size; exact Nat.le_trans BS.out this) ?_; intro v6 w6 h6 g6; obtain ⟨Q46, Q76, K16⟩ := grow_facts g6 ⟨kA.os, kA.tape, kA.output, kA.size, kA.block⟩ BS.out HH.out Q4.out Q7.out; obtain ⟨A6, c6, rfl, -, -, -⟩ := h6.form; obtain ⟨n6, hn6⟩ : ∃ n6, n6 = (acc ++ [dp.drop rk]).length := ⟨_, rfl⟩; rw [<- hn6] at h6 ⊢; clear hn6; have z71 : w6.cell? ⟨b7, 1, none⟩ = some (.slice AL na cL) := Q76.cell 1; have fz71 := Q76.frozen 1; clear g6))
      all_goals
       have P4' := hide (Q46.kept (grown_set w6 b7 1 (.slice A6 n6 c6)) (fun e => n74 (Option.some.inj e)));have P7' := hide (Q76.stored 1 (.slice A6 n6 c6));have HH' := hide (h6.other Q76 (by decide) (by decide) (by rw [H7.out]; omega) (grown_set w6 b7 1 (.slice A6 n6 c6)));have KK' := hide ((K1.out.trans K16).trans ((Below.refl w.heap.size w6).setCell (p := ⟨b7, 1, none⟩) (by show w.heap.size <= b7; rw [H7.out]; omega) (.slice A6 n6 c6)));go_wp2_with fail
       go_roundw
       case rel => exact ⟨k + dn, _, acc ++ [dp.drop rk], hkn, by go_num, P4'.out, P7'.out, HH'.out, HNX.out, KK'.out⟩
       case measure =>
        have h8 := HD8.out;simp [intOf];omega
    ·have HBAD := hide (hS.out.bad hkx (.inr (by
      rw [<- hdp, <- hre, <- hrv, <- HNA.out, <- ht];by_cases h0 : re = 0
      ·exact .inr (fun h => hgood ⟨h0, h⟩)
      ·exact .inl h0)))
     have hcase : ((re : Int) != 0) = true \/ ((re : Int) != 0) = false /\ ((rv : Int) != (t : Int)) = true := by
      by_cases h0 : re = 0
      ·right
       have h1 : rv ≠ t := fun h => hgood ⟨h0, h⟩
       exact ⟨by simp [h0], by simp; omega⟩
      ·left
       simp;omega
     clear hde hdn hdp hdec hgood hkx hd0 hrv hrk hre hrin ht hrd hm hdn8 hdpb;subst he;rcases hcase with hz1 | ⟨hz1, hz2⟩
     all_goals
      go_wp2_with fail
      refine (HDEC.out _ (HI.out.keep hbel.out) HL.out HBD.out (by omega) hc1 (by omega)).mono ?_;rintro e w1 ⟨s1, rfl, o1, k1⟩;obtain ⟨A1, c1, rfl, i1, _, _⟩ := o1.isB.form (n := m) HM.out.symm;have I1 := hide i1;have Q4 := hide (P4.out.keep k1);have Q7 := hide (P7.out.keep k1);have HH := hide (hH.out.keep k1);have K1 := hide (below_step hbel.out k1);clear o1 k1 i1 r70 r71 r40 r41 f40 f41;have r70 : w1.cell? ⟨b7, 0, none⟩ = some (.int .i64 (i : Int)) := Q7.out.cell 0;have r71 : w1.cell? ⟨b7, 1, none⟩ = some (.slice AL na cL) := Q7.out.cell 1;have r40 : w1.cell? ⟨b4, 0, none⟩ = some (.int .i64 0) := Q4.out.cell 0;have r41 : w1.cell? ⟨b4, 1, none⟩ = some (.slice none 0 0) := Q4.out.cell 1;have f40 := Q4.out.frozen 0;have f41 := Q4.out.frozen 1;go_wp2_with fail
      refine (HRD.out w1 A1 c1 I1.out).mono ?_;rintro e w9 ⟨rfl, rfl⟩;go_wp2_with fail
      obtain ⟨q2, q3, q4⟩ := seg_store Q4.out (by rw [H4.out]; exact Nat.le_refl _) HH.out (.int .i64 (i : Int)) (.slice AL na cL);obtain ⟨W2, hW2⟩ : ∃ W2, W2 = (w1.setCell ⟨b4, 0, none⟩ (.int .i64 (i : Int))).setCell ⟨b4, 1, none⟩ (.slice AL na cL) := ⟨_, rfl⟩;rw [<- hW2] at q2 q3 q4 ⊢;have y0 : W2.cell? ⟨b4, 0, none⟩ = some (.int .i64 (i : Int)) := q2.cell 0;have y1 : W2.cell? ⟨b4, 1, none⟩ = some (.slice AL na cL) := q2.cell 1;refine bodyPost_ret (v := .tuple #[.agg #[.int .i64 (i : Int), .slice AL na cL], .int .i64 (k : Int), .bool false]) (by simp [results, Tryz.results101, go_sem, y0, y1]) rfl ⟨.slice AL na cL, ?_, ?_, K1.out.trans q4⟩
      ·rw [HBAD.out]
      ·rw [HBAD.out]; exact q3
   ·have HBAD := hide (hS.out.bad hkx (.inl (by rw [<- hde]; exact he)));have hne : ((de : Int) != 0) = true := by simp; omega
    have HDEC := hide hdec;clear hde hdn hdp hdec he hkx;go_wp2_with fail
    refine (HDEC.out _ (HI.out.keep hbel.out) HL.out HBD.out (by omega) hc1 (by omega)).mono ?_;rintro e w1 ⟨s1, rfl, o1, k1⟩;have Q4 := hide (P4.out.keep k1);have Q7 := hide (P7.out.keep k1);have HH := hide (hH.out.keep k1);have K1 := hide (below_step hbel.out k1);clear o1 k1 r70 r71 r40 r41 f40 f41;have r70 : w1.cell? ⟨b7, 0, none⟩ = some (.int .i64 (i : Int)) := Q7.out.cell 0;have r71 : w1.cell? ⟨b7, 1, none⟩ = some (.slice AL na cL) := Q7.out.cell 1;have r40 : w1.cell? ⟨b4, 0, none⟩ = some (.int .i64 0) := Q4.out.cell 0;have r41 : w1.cell? ⟨b4, 1, none⟩ = some (.slice none 0 0) := Q4.out.cell 1;have f40 := Q4.out.frozen 0;have f41 := Q4.out.frozen 1;go_wp2_with fail
    obtain ⟨q2, q3, q4⟩ := seg_store Q4.out (by rw [H4.out]; exact Nat.le_refl _) HH.out (.int .i64 (i : Int)) (.slice AL na cL);obtain ⟨W2, hW2⟩ : ∃ W2, W2 = (w1.setCell ⟨b4, 0, none⟩ (.int .i64 (i : Int))).setCell ⟨b4, 1, none⟩ (.slice AL na cL) := ⟨_, rfl⟩;rw [<- hW2] at q2 q3 q4 ⊢;have y0 : W2.cell? ⟨b4, 0, none⟩ = some (.int .i64 (i : Int)) := q2.cell 0;have y1 : W2.cell? ⟨b4, 1, none⟩ = some (.slice AL na cL) := q2.cell 1;refine bodyPost_ret (v := .tuple #[.agg #[.int .i64 (i : Int), .slice AL na cL], .int .i64 (k : Int), .bool false]) (by simp [results, Tryz.results101, go_sem, y0, y1]) rfl ⟨.slice AL na cL, ?_, ?_, K1.out.trans q4⟩
    ·rw [HBAD.out]
    ·rw [HBAD.out]; exact q3
  ·have HD := hide (hS.out.done (by rw [HN.out]; omega));go_wp2_with fail
   obtain ⟨q2, q3, q4⟩ := seg_store P4.out (by rw [H4.out]; exact Nat.le_refl _) hH.out (.int .i64 (i : Int)) (.slice AL na cL);obtain ⟨W2, hW2⟩ : ∃ W2, W2 = (wr.setCell ⟨b4, 0, none⟩ (.int .i64 (i : Int))).setCell ⟨b4, 1, none⟩ (.slice AL na cL) := ⟨_, rfl⟩;rw [<- hW2] at q2 q3 q4 ⊢;have y0 : W2.cell? ⟨b4, 0, none⟩ = some (.int .i64 (i : Int)) := q2.cell 0;have y1 : W2.cell? ⟨b4, 1, none⟩ = some (.slice AL na cL) := q2.cell 1;refine bodyPost_ret (v := .tuple #[.agg #[.int .i64 (i : Int), .slice AL na cL], .int .i64 (k : Int), .bool true]) (by simp [results, Tryz.results101, go_sem, y0, y1]) rfl ⟨.slice AL na cL, ?_, ?_, hbel.out.trans q4⟩
   ·rw [HD.out]
   ·rw [HD.out]; exact q3
end Go.Proofs.YtbmhfnhfhdgdgaaGreat
