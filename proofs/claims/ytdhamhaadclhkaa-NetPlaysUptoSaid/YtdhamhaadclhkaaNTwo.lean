/- The project's net and the document's, side by side; steps that came in. No condition. -/
import Derived.Test.YtdhamhaadclhkaaRNAny
import Derived.Test.YtdhamhaadclhkaaMsgsSame
import Derived.Test.YtdhamhaadclhkaaSpoilT
import Derived.Test.YtdhamhaadclhkaaNOne
namespace Go.Proofs.Ytdhamhaadclhkaa
open Go.RowKit
/-- Both nets, in memory of the call's own, apart from one another. -/
structure Two (w wr : World) (g p : Nat) (L1 L2 : List Tale) (F G : Nat → Prop) : Prop where
  n : NetAt PN wr F g L1
  r : NetAt RN wr G p L2
  ap : ∀ k, F k → ¬ G k
  fB : ∀ k, F k → w.heap.size ≤ k
  gB : ∀ k, G k → w.heap.size ≤ k
  k : Below w.heap.size w wr
theorem Two.turn {S : Nat → Prop} {w wr w' : World} {g p : Nat} {L1 L2 : List Tale} {F G : Nat → Prop} (h : Two w wr g p L1 L2 F G) (t : Turn S wr w') (hF : ∀ k, F k → ¬ S k) (hG : ∀ k, G k → ¬ S k) (hB : ∀ k, S k → w.heap.size ≤ k) : Two w w' g p L1 L2 F G :=
  ⟨h.n.turn t hF, h.r.turn t hG, h.ap, h.fB, h.gB, h.k.trans (t.below h.k.size hB)⟩
theorem Two.quiet {w wr w' : World} {g p : Nat} {L1 L2 : List Tale} {F G : Nat → Prop} (h : Two w wr g p L1 L2 F G) (k : Below wr.heap.size wr w') : Two w w' g p L1 L2 F G :=
  h.turn (S := fun _ => False) (Turn.of_below _ k) (fun _ _ => id) (fun _ _ => id) (fun _ e => e.elim)
theorem Two.left {w wr w' : World} {g p : Nat} {L1 L1' L2 : List Tale} {F F' G : Nat → Prop} (h : Two w wr g p L1 L2 F G) (n' : NetAt PN w' F' g L1') (x : Next F wr F' w') : Two w w' g p L1' L2 F' G :=
  ⟨n', h.r.turn x.turn (fun k hg hf => h.ap k hf hg), fun k hf hg => (x.foot k hf).elim (fun e => h.ap k e hg) (fun e => by have := h.r.low k hg; omega), x.up h.k.size h.fB, h.gB, h.k.trans (x.below h.k.size h.fB)⟩
theorem Two.right {w wr w' : World} {g p : Nat} {L1 L2 L2' : List Tale} {F G G' : Nat → Prop} (h : Two w wr g p L1 L2 F G) (n' : NetAt RN w' G' p L2') (x : Next G wr G' w') : Two w w' g p L1 L2' F G' :=
  ⟨h.n.turn x.turn (fun k hf hg => h.ap k hf hg), n', fun k hf hg => (x.foot k hg).elim (fun e => h.ap k hf e) (fun e => by have := h.n.low k hf; omega), h.fB, x.up h.k.size h.gB, h.k.trans (x.below h.k.size h.gB)⟩
/-- A slice of the call's own outside of both. -/
structure Lone (w wr : World) (F G : Nat → Prop) (e : TypeId) (v : Value) (n : Nat) (l : List Value) : Prop where
  own : wr.ownsRow w.heap.size e 1 v n l
  f : Off F v
  g : Off G v
theorem Lone.left {w wr w' : World} {F F' G : Nat → Prop} {e : TypeId} {v : Value} {n : Nat} {l : List Value} (h : Lone w wr F G e v n l) (x : Next F wr F' w') : Lone w w' F' G e v n l :=
  ⟨ownsRow_turn h.own x.turn h.f, fun b hb hf => (x.foot b hf).elim (fun z => h.f b hb z) (fun z => by have := (World.ownsRow.lt h.own b hb).2; omega), h.g⟩
theorem Lone.right {w wr w' : World} {F G G' : Nat → Prop} {e : TypeId} {v : Value} {n : Nat} {l : List Value} (h : Lone w wr F G e v n l) (x : Next G wr G' w') : Lone w w' F G' e v n l :=
  ⟨ownsRow_turn h.own x.turn h.g, h.f, fun b hb hf => (x.foot b hf).elim (fun z => h.g b hb z) (fun z => by have := (World.ownsRow.lt h.own b hb).2; omega)⟩
theorem Lone.quiet {w wr w' : World} {F G : Nat → Prop} {e : TypeId} {v : Value} {n : Nat} {l : List Value} (h : Lone w wr F G e v n l) (k : Below wr.heap.size wr w') : Lone w w' F G e v n l :=
  ⟨ownsRow_keep h.own k, h.f, h.g⟩
/-- Rows of unlike types do not share a block. -/
theorem ownsRow_ne {w : World} {B B' n n' s s' : Nat} {e e' : TypeId} {v u : Value} {l l' : List Value} (h : w.ownsRow B e s v n l) (k : w.ownsRow B' e' s' u n' l') (hne : e ≠ e') : Off (fun b => u.ownBlock = some b) v := fun b hb hb' => by
  rcases h.2 with ⟨rfl, _⟩ | ⟨g, cap, cur, rfl, _, hh, _⟩
  · simp [Value.ownBlock] at hb
  · rcases k.2 with ⟨rfl, _⟩ | ⟨g', cap', cur', rfl, _, hh', _⟩
    · simp [Value.ownBlock] at hb'
    · have e1 : g = b := Option.some.inj hb
      have e2 : g' = b := Option.some.inj hb'
      subst e1; subst e2
      rw [hh] at hh'
      simp only [Option.some.injEq, Obj.cells.injEq] at hh'
      exact hne hh'.2.1
/-- Both stand where a lone slice is written over. -/
theorem Two.spoilt {w wr w' : World} {g p : Nat} {L1 L2 : List Tale} {F G : Nat → Prop} {e : TypeId} {v : Value} {n : Nat} {l : List Value} (h : Two w wr g p L1 L2 F G) (o : Lone w wr F G e v n l) (t : Turn (fun b => v.ownBlock = some b) wr w') : Two w w' g p L1 L2 F G :=
  h.turn t (fun k hf e => o.f k e hf) (fun k hg e => o.g k e hg) (fun k e => (World.ownsRow.lt o.own k e).1)
theorem Lone.spoilt {w wr w' : World} {F G : Nat → Prop} {e e' : TypeId} {v u : Value} {n n' : Nat} {l l' : List Value} (h : Lone w wr F G e v n l) (o : Lone w wr F G e' u n' l') (hne : e ≠ e') (t : Turn (fun b => u.ownBlock = some b) wr w') : Lone w w' F G e v n l :=
  ⟨ownsRow_turn h.own t (ownsRow_ne h.own o.own hne), h.f, h.g⟩
/-- What an answer's lists are. -/
theorem FreshO.lone {w wr w' : World} {F G : Nat → Prop} {r : Value} {m : Tale} (h : FreshO w' wr.heap.size F r m) (hG : ∀ k, G k → k < wr.heap.size) (hw : w.heap.size ≤ wr.heap.size) :
    ∃ A c D cp, r = .agg #[.int .i64 m.1, .int .i64 m.2.1, .int .i64 m.2.2.1, .slice A m.2.2.2.1.length c, .slice D m.2.2.2.2.length cp] ∧ Lone w w' F G 3 (.slice A m.2.2.2.1.length c) m.2.2.2.1.length (m.2.2.2.1.map fun z : Int => Value.int .i64 z) ∧ Lone w w' F G 5 (.slice D m.2.2.2.2.length cp) m.2.2.2.2.length (m.2.2.2.2.map fun z : Nat => Value.int .u8 (z : Int)) := by
  obtain ⟨A, c, D, cp, e, o1, o2, f1, f2⟩ := h
  refine ⟨A, c, D, cp, e, ⟨ownsRow_more o1 hw, f1, fun b hb hg => ?_⟩, ⟨ownsRow_more o2 hw, f2, fun b hb hg => ?_⟩⟩
  · have h1 := (World.ownsRow.lt o1 b hb).1
    have h2 := hG b hg
    omega
  · have h1 := (World.ownsRow.lt o2 b hb).1
    have h2 := hG b hg
    omega
/-- A block of the call's own outside of both. -/
structure LoneBlk (w wr : World) (F G : Nat → Prop) (e : TypeId) (b : Nat) (cs : List Value) : Prop where
  blk : Blk wr w.heap.size e b cs
  f : ¬ F b
  g : ¬ G b
theorem LoneBlk.left {w wr w' : World} {F F' G : Nat → Prop} {e : TypeId} {b : Nat} {cs : List Value} (h : LoneBlk w wr F G e b cs) (x : Next F wr F' w') : LoneBlk w w' F' G e b cs :=
  ⟨h.blk.turn x.turn h.f, fun hf => (x.foot b hf).elim h.f (fun z => by have := h.blk.lt; omega), h.g⟩
theorem LoneBlk.right {w wr w' : World} {F G G' : Nat → Prop} {e : TypeId} {b : Nat} {cs : List Value} (h : LoneBlk w wr F G e b cs) (x : Next G wr G' w') : LoneBlk w w' F G' e b cs :=
  ⟨h.blk.turn x.turn h.g, h.f, fun hf => (x.foot b hf).elim h.g (fun z => by have := h.blk.lt; omega)⟩
theorem LoneBlk.quiet {w wr w' : World} {F G : Nat → Prop} {e : TypeId} {b : Nat} {cs : List Value} (h : LoneBlk w wr F G e b cs) (k : Below wr.heap.size wr w') : LoneBlk w w' F G e b cs := ⟨h.blk.keep k, h.f, h.g⟩
theorem LoneBlk.spoilt {w wr w' : World} {F G : Nat → Prop} {e e' : TypeId} {b : Nat} {cs : List Value} {v : Value} {n : Nat} {l : List Value} (h : LoneBlk w wr F G e b cs) (o : Lone w wr F G e' v n l) (hne : e' ≠ e) (t : Turn (fun b => v.ownBlock = some b) wr w') : LoneBlk w w' F G e b cs :=
  ⟨h.blk.turn t (ownsRow_blk o.own h.blk hne), h.f, h.g⟩
theorem LoneBlk.new {w wr : World} {g p : Nat} {L1 L2 : List Tale} {F G : Nat → Prop} (h : Two w wr g p L1 L2 F G) (e : TypeId) (cs : Array Value) : LoneBlk w (wr.alloc (.cells cs e)) F G e wr.heap.size cs.toList :=
  ⟨Blk.new wr e cs h.k.size, fun hf => Nat.lt_irrefl _ (h.n.low _ hf), fun hf => Nat.lt_irrefl _ (h.r.low _ hf)⟩
/-- Two new nets. -/
theorem two_new (w wa : World) (ha : Below w.heap.size w wa) : Two w ((wa.alloc (.cells #[.slice none 0 0] PN)).alloc (.cells #[.slice none 0 0] RN)) wa.heap.size (wa.heap.size + 1) [] [] (fun k => k = wa.heap.size) (fun k => k = wa.heap.size + 1) := by
  have k1 := below_alloc wa (.cells #[.slice none 0 0] PN)
  have k2 := below_alloc (wa.alloc (.cells #[.slice none 0 0] PN)) (.cells #[.slice none 0 0] RN)
  have hs := ha.size
  refine ⟨(net_new PN wa _ rfl).below k2, net_new RN _ _ (by simp), fun k e1 e2 => by omega, fun k e => by omega, fun k e => by omega, (ha.trans (k1.mono hs)).trans (k2.mono (Nat.le_trans hs k1.size))⟩
theorem Two.stored {w wr w' : World} {g p : Nat} {L1 L2 : List Tale} {F G : Nat → Prop} {e : TypeId} {b : Nat} {cs : List Value} (h : Two w wr g p L1 L2 F G) (o : LoneBlk w wr F G e b cs) (t : wr.grownBy w' (some b)) : Two w w' g p L1 L2 F G :=
  h.turn (S := fun k => k = b) ((Turn.of_grown t).mono (fun _ hk => Option.some.inj hk)) (fun k hf e => o.f (e ▸ hf)) (fun k hg e => o.g (e ▸ hg)) (fun k e => by rw [e]; exact o.blk.1)
theorem Lone.stored {w wr w' : World} {F G : Nat → Prop} {e e' : TypeId} {b : Nat} {cs : List Value} {v : Value} {n : Nat} {l : List Value} (h : Lone w wr F G e' v n l) (o : LoneBlk w wr F G e b cs) (hne : e' ≠ e) (t : wr.grownBy w' (some b)) : Lone w w' F G e' v n l :=
  ⟨World.ownsRow.kept h.own t (.inr (ownsRow_blk h.own o.blk hne)), h.f, h.g⟩
theorem LoneBlk.other {w wr w' : World} {F G : Nat → Prop} {e : TypeId} {b b' : Nat} {cs : List Value} (h : LoneBlk w wr F G e b cs) (hne : ¬ b' = b) (t : wr.grownBy w' (some b')) : LoneBlk w w' F G e b cs :=
  ⟨h.blk.kept t (fun e => hne (Option.some.inj e)), h.f, h.g⟩
theorem IsI.keep' {w : World} {B : Nat} {v : Value} {zs : List Int} (h : w.ownsRow B 3 1 v zs.length (zs.map fun z : Int => Value.int .i64 z)) : IsI w v zs := OwnN.isI h
theorem IsB.keep' {w : World} {B : Nat} {v : Value} {xs : List Nat} (h : w.ownsRow B 5 1 v xs.length (xs.map fun z : Nat => Value.int .u8 (z : Int))) : IsB w v xs := Own.isB h
theorem getM_bound {e : TypeId} {w : World} {F : Nat → Prop} {g : Nat} {L : List Tale} (h : NetAt e w F g L) (i : Int) : (getM i L).2.2.2.1.length ≤ 1099511627776 ∧ (getM i L).2.2.2.2.length ≤ 1099511627776 := by
  obtain ⟨v, X, rfl, hS⟩ := h
  by_cases hi : 0 ≤ i ∧ i < ((X.map Itm.says).length : Int)
  · rw [List.length_map] at hi
    obtain ⟨j, rfl⟩ : ∃ j : Nat, i = (j : Int) := ⟨i.toNat, by omega⟩
    have hj : j < X.length := by omega
    rw [getM_in hj]
    have hg := hS.each X[j] (List.getElem_mem hj)
    exact ⟨hg.lu, hg.lv⟩
  · rw [getM_out hi]
    exact ⟨Nat.zero_le _, Nat.zero_le _⟩
/-- A step that came in. -/
structure St where
  kind : Int
  i : Int
  f : Int
  t : Int
  k : Int
  a3 : Option Addr
  c3 : Nat
  zs : List Int
  a4 : Option Addr
  c4 : Nat
  d : List Nat
def IsSteps (w : World) (a : Option Addr) (X : List St) : Prop :=
  ∀ j (h : j < X.length), ∃ b off, a = some ⟨b, off, none⟩ ∧ w.cell? ⟨b, off + j * 7, none⟩ = some (.int .i64 X[j].kind) ∧ w.cell? ⟨b, off + j * 7 + 1, none⟩ = some (.int .i64 X[j].i) ∧ w.cell? ⟨b, off + j * 7 + 2, none⟩ = some (.int .i64 X[j].f) ∧ w.cell? ⟨b, off + j * 7 + 3, none⟩ = some (.int .i64 X[j].t) ∧ w.cell? ⟨b, off + j * 7 + 4, none⟩ = some (.int .i64 X[j].k) ∧
    w.cell? ⟨b, off + j * 7 + 5, none⟩ = some (.slice X[j].a3 X[j].zs.length X[j].c3) ∧ w.cell? ⟨b, off + j * 7 + 6, none⟩ = some (.slice X[j].a4 X[j].d.length X[j].c4) ∧ IsI w (.slice X[j].a3 X[j].zs.length X[j].c3) X[j].zs ∧ (X[j].a3 = none → X[j].c3 = 0) ∧ IsB w (.slice X[j].a4 X[j].d.length X[j].c4) X[j].d ∧ X[j].zs.length ≤ 1048576 ∧ X[j].d.length ≤ 1048576
end Go.Proofs.Ytdhamhaadclhkaa
