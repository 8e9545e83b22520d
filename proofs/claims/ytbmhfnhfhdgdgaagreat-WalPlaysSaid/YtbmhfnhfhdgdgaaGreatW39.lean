/- The two logs, the project's and the document's, with their disks, in one world, apart from one another. Condition: a prefix of 1 to 55 bytes. The law's pair of  -/
import Derived.Test.YtbmhfnhfhdgdgaaGreatW38
namespace Go.Proofs.YtbmhfnhfhdgdgaaGreat
open Go.RowKit Go.Maps
variable {w w' w1 w2 w6 : World} {F G Fd Gd F' G' Fd' Gd' : Nat -> Prop} {L L' : DiskL} {s : ByteArray} {M M' : LogL} {B room dp l d p m q g n c : Nat}
theorem Pro.turn {S : Nat -> Prop} (h : Pro w F G d l room s M L) (t : Turn S w w') (hS : ∀ k, F k \/ G k -> ¬ S k) : Pro w' F G d l room s M L := by
 obtain ⟨P, hb, ht, hp, hm⟩ := h;exact ⟨P, ⟨hb.disk.turn t (fun k h => hS k (.inl h)), hb.log.turn t (fun k h => hS k (.inr h)), hb.apart⟩, ht, hp, hm⟩
theorem Pro.low (h : Pro w F G d l room s M L) : ∀ k, F k \/ G k -> k < w.heap.size := by
 obtain ⟨P, hb, _⟩ := h;exact fun k hk => hk.elim (hb.disk.low k) (hb.log.low k)
theorem RBoth.turn {S : Nat -> Prop} (h : RBoth w Fd Gd p m room s M L) (t : Turn S w w') (hS : ∀ k, Fd k \/ Gd k -> ¬ S k) : RBoth w' Fd Gd p m room s M L :=
 ⟨h.disk.turn t (fun k h => hS k (.inl h)), h.log.turn t (fun k h => hS k (.inr h)), h.apart, h.sane⟩
theorem RBoth.low (h : RBoth w Fd Gd p m room s M L) : ∀ k, Fd k \/ Gd k -> k < w.heap.size := fun k hk => hk.elim (h.disk.low k) (h.log.low k)
structure DuoAt (B : Nat) (w : World) (F G Fd Gd : Nat -> Prop) (d l p m room : Nat) (s : ByteArray) (M : LogL) (L : DiskL) : Prop where
 pro : Pro w F G d l room s M L
 ref : RBoth w Fd Gd p m room s M L
 apart : ∀ k, F k \/ G k -> ¬ (Fd k \/ Gd k)
 upP : ∀ k, F k \/ G k -> B <= k
 upR : ∀ k, Fd k \/ Gd k -> B <= k
 base : B <= w.heap.size
theorem DuoAt.below (h : DuoAt B w F G Fd Gd d l p m room s M L) (k : Below w.heap.size w w') : DuoAt B w' F G Fd Gd d l p m room s M L :=
 ⟨h.pro.below k, h.ref.turn (S := fun _ => False) (Turn.of_below _ k) (fun _ _ h => h), h.apart, h.upP, h.upR, Nat.le_trans h.base k.size⟩
theorem DuoAt.first (h : DuoAt B w F G Fd Gd d l p m room s M L) (t : Turn (fun k => F k \/ G k) w w1) (h1 : ∀ k, F' k -> F k \/ w.heap.size <= k) (h2 : ∀ k, G' k -> G k \/ w.heap.size <= k) :
  RBoth w1 Fd Gd p m room s M L /\ (∀ k, F' k \/ G' k -> ¬ (Fd k \/ Gd k)) /\ (∀ k, F' k \/ G' k -> B <= k) /\ Below B w w1 /\ B <= w1.heap.size := by
 have hb := h.base;refine ⟨h.ref.turn t (fun k hk hf => h.apart k hf hk), fun k hk hr => ?_, fun k hk => ?_, t.below h.base h.upP, Nat.le_trans h.base t.size⟩
 ·have hlow := h.ref.low k hr;rcases hk with hk | hk
  ·rcases h1 k hk with h9 | h9
   ·exact h.apart k (.inl h9) hr
   ·omega
  ·rcases h2 k hk with h9 | h9
   ·exact h.apart k (.inr h9) hr
   ·omega
 ·rcases hk with hk | hk
  ·rcases h1 k hk with h9 | h9
   ·exact h.upP k (.inl h9)
   ·omega
  ·rcases h2 k hk with h9 | h9
   ·exact h.upP k (.inr h9)
   ·omega
theorem duo_second (hP : Pro w1 F G d l room s M L) (ha : ∀ k, F k \/ G k -> ¬ (Fd k \/ Gd k)) (hu : ∀ k, F k \/ G k -> B <= k) (hv : ∀ k, Fd k \/ Gd k -> B <= k) (hB : B <= w1.heap.size)
  (hR : RBoth w2 Fd' Gd' p m room s M L) (t : Turn (fun k => Fd k \/ Gd k) w1 w2) (h1 : ∀ k, Fd' k -> Fd k \/ w1.heap.size <= k) (h2 : ∀ k, Gd' k -> Gd k \/ w1.heap.size <= k) : DuoAt B w2 F G Fd' Gd' d l p m room s M L /\ Below B w1 w2 := by
 refine ⟨⟨hP.turn t (fun k hk hf => ha k hk hf), hR, fun k hk hr => ?_, hu, fun k hk => ?_, Nat.le_trans hB t.size⟩, t.below hB hv⟩
 ·have hlow := hP.low k hk;rcases hr with hr | hr
  ·rcases h1 k hr with h9 | h9
   ·exact ha k hk (.inl h9)
   ·omega
  ·rcases h2 k hr with h9 | h9
   ·exact ha k hk (.inr h9)
   ·omega
 ·rcases hk with hk | hk
  ·rcases h1 k hk with h9 | h9
   ·exact hv k (.inl h9)
   ·omega
  ·rcases h2 k hk with h9 | h9
   ·exact hv k (.inr h9)
   ·omega
def pairC (d p l m : Nat) : List Value := [.pointer (some ⟨d, 0, none⟩), .pointer (some ⟨p, 0, none⟩), .pointer (some ⟨l, 0, none⟩), .pointer (some ⟨m, 0, none⟩)]
structure PairAt (B q : Nat) (w : World) (F G Fd Gd : Nat -> Prop) (d l p m room : Nat) (s : ByteArray) (M : LogL) (L : DiskL) : Prop where
 duo : DuoAt B w F G Fd Gd d l p m room s M L
 blk : Blk w B 39 q (pairC d p l m)
 off : ∀ k, (F k \/ G k) \/ (Fd k \/ Gd k) -> k ≠ q
theorem PairAt.below (h : PairAt B q w F G Fd Gd d l p m room s M L) (k : Below w.heap.size w w') : PairAt B q w' F G Fd Gd d l p m room s M L :=
 ⟨h.duo.below k, h.blk.keep k, h.off⟩
structure MidAt (B q : Nat) (w : World) (F G Fd Gd : Nat -> Prop) (d l p m room : Nat) (s : ByteArray) (M : LogL) (L : DiskL) (M' : LogL) (L' : DiskL) : Prop where
 pro : Pro w F G d l room s M' L'
 ref : RBoth w Fd Gd p m room s M L
 apart : ∀ k, F k \/ G k -> ¬ (Fd k \/ Gd k)
 upP : ∀ k, F k \/ G k -> B <= k
 upR : ∀ k, Fd k \/ Gd k -> B <= k
 base : B <= w.heap.size
 blk : Blk w B 39 q (pairC d p l m)
 off : ∀ k, (F k \/ G k) \/ (Fd k \/ Gd k) -> k ≠ q
theorem MidAt.below (h : MidAt B q w F G Fd Gd d l p m room s M L M' L') (k : Below w.heap.size w w') : MidAt B q w' F G Fd Gd d l p m room s M L M' L' :=
 ⟨h.pro.below k, h.ref.turn (S := fun _ => False) (Turn.of_below _ k) (fun _ _ h => h), h.apart, h.upP, h.upR, Nat.le_trans h.base k.size, h.blk.keep k, h.off⟩
theorem PairAt.first (h : PairAt B q w F G Fd Gd d l p m room s M L) (hP : Pro w1 F' G' d l room s M' L') (t : Turn (fun k => F k \/ G k) w w1) (h1 : ∀ k, F' k -> F k \/ w.heap.size <= k) (h2 : ∀ k, G' k -> G k \/ w.heap.size <= k) :
  MidAt B q w1 F' G' Fd Gd d l p m room s M L M' L' /\ Below B w w1 := by
 obtain ⟨a, b, c, e, f⟩ := h.duo.first t h1 h2;have hq := h.blk.lt;refine ⟨⟨hP, a, b, c, h.duo.upR, f, h.blk.turn t (fun hk => h.off q (.inl hk) rfl), fun k hk => ?_⟩, e⟩;rcases hk with (hk | hk) | hk
 ·rcases h1 k hk with h9 | h9
  ·exact h.off k (.inl (.inl h9))
  ·omega
 ·rcases h2 k hk with h9 | h9
  ·exact h.off k (.inl (.inr h9))
  ·omega
 ·exact h.off k (.inr hk)
theorem MidAt.second (h : MidAt B q w1 F G Fd Gd d l p m room s M L M' L') (hR : RBoth w2 Fd' Gd' p m room s M' L') (t : Turn (fun k => Fd k \/ Gd k) w1 w2) (h1 : ∀ k, Fd' k -> Fd k \/ w1.heap.size <= k) (h2 : ∀ k, Gd' k -> Gd k \/ w1.heap.size <= k) :
  PairAt B q w2 F G Fd' Gd' d l p m room s M' L' /\ Below B w1 w2 := by
 obtain ⟨a, b⟩ := duo_second h.pro h.apart h.upP h.upR h.base hR t h1 h2;have hq := h.blk.lt;refine ⟨⟨a, h.blk.turn t (fun hk => h.off q (.inr hk) rfl), fun k hk => ?_⟩, b⟩;rcases hk with hk | (hk | hk)
 ·exact h.off k (.inl hk)
 ·rcases h1 k hk with h9 | h9
  ·exact h.off k (.inr (.inl h9))
  ·omega
 ·rcases h2 k hk with h9 | h9
  ·exact h.off k (.inr (.inr h9))
  ·omega
theorem pair_cells (h : Blk w B 39 q (pairC d p l m)) : w.cell? ⟨q, 0, none⟩ = some (.pointer (some ⟨d, 0, none⟩)) /\ w.cell? ⟨q, 1, none⟩ = some (.pointer (some ⟨p, 0, none⟩)) /\ w.cell? ⟨q, 2, none⟩ = some (.pointer (some ⟨l, 0, none⟩)) /\ w.cell? ⟨q, 3, none⟩ = some (.pointer (some ⟨m, 0, none⟩)) :=
 ⟨h.cell 0, h.cell 1, h.cell 2, h.cell 3⟩
theorem Tryz.info_seg : (Tryz.prog.info? 156).map (fun i => (i.zero, i.size, i.bytes)) = some (some (.agg #[.int .i64 0, .slice none 0 0]), 2, 32) := by kernel_rfl
theorem step_append_seg {ops : Array Oper} {o : Oper} {a : Act} {K : Act -> World -> Prop} {Q : Exit -> Act -> World -> Prop} {E : Prop} (hgd : o.guard = none) (s x : Operand)
  (ho : o.op = .call { callee := .builtin .append, args := #[s, x], argTypes := #[150, 150] })
  (B : Nat) (v : Value) (X : List Sgx) (hs : a.eval s = v) (hown : OwnG w B v X)
  (b : Nat) (y : Sgx) (hx : a.eval x = .slice (some ⟨b, 0, none⟩) 1 1) (h0 : w.cell? ⟨b, 0, none⟩ = some (.int .i64 (y.1 : Int))) (h1 : w.cell? ⟨b, 1, none⟩ = some y.2.1) (hy : y.2.1.oneCell' = true)
  (hlen : X.length + 1 <= 1073741824) (hbase : B <= w.heap.size)
  (h : ∀ v' w', OwnG w' B v' (X ++ [y]) -> w.grownBy w' v.ownBlock -> (v'.ownBlock = v.ownBlock \/ v'.ownBlock = some w.heap.size) -> K (a.put o.dst v') w') : if Region.wanted o (yielded ops a.tmps) = true then Oper.wp Tryz.prog o a w K Q else E := by
 have hw : Region.wanted o (yielded ops a.tmps) = true := by simp [Region.wanted, hgd]
 rw [if_pos hw];obtain ⟨i0, hi, hz0, hz1, hz2⟩ := info_parts Tryz.info_seg;refine wp_append_own_at s x _ ho B 156 i0 _ 2 32 Tryz.underlying150 hi hz0 hz1 hz2 rfl (by decide) v _ _ hs hown ⟨b, 0, none⟩ 1 1 [.int .i64 (y.1 : Int), y.2.1] hx rfl ?_ ?_ (by unfold maxLen; omega) (by omega) hbase ?_
 ·intro j z hj
  match j, hj with
  | 0, hj => simp at hj; subst hj; simpa [Addr.add] using h0
  | 1, hj => simp at hj; subst hj; simpa [Addr.add] using h1
 ·intro z hz;simp at hz;rcases hz with rfl | rfl
  ·rfl
  ·exact hy
 ·intro v' w' k1 k2 k3;refine h v' w' ?_ k2 k3;unfold OwnG;rw [List.length_append, cellsG_append];exact k1
theorem RLogW.pushSeg {E E1 : Nat -> Prop} {vS vS' vD : Value} {X : List Sgx} {nx : Nat} {dy : List Nat} {x : Sgx} (h : RLogW w G E l dp s vS vD X nx dy)
  (g : w.grownBy w1 vS.ownBlock) (o : OwnG w1 0 vS' (X ++ [x])) (hv : vS'.ownBlock = vS.ownBlock \/ vS'.ownBlock = some w.heap.size)
  (hx : RowsE E1 w x.2.1 x.2.2) (h1 : ∀ q, E1 q -> q < w.heap.size /\ q ≠ l /\ vS.ownBlock ≠ some q /\ vD.ownBlock ≠ some q) :
  RLogW (w1.setCell ⟨l, 2, none⟩ vS') (fun q => G q \/ E1 q \/ (w.heap.size <= q /\ q < w1.heap.size)) (fun q => E q \/ E1 q) l dp s vS' vD (X ++ [x]) nx dy := by
 have t1 : Turn (fun k => some k = vS.ownBlock) w w1 := Turn.of_grown g;have t2 : Turn (fun k => some k = some l) w1 (w1.setCell ⟨l, 2, none⟩ vS') := Turn.of_grown (grown_set w1 l 2 vS');have hSl : vS.ownBlock ≠ some l := ownsRow_notIn h.row h.cells (by decide);have hDl : vD.ownBlock ≠ some l := ownsRow_notIn h.dirt h.cells (by decide);have hll := h.low l h.own;have hSD : ∀ q, vD.ownBlock = some q -> some q ≠ vS.ownBlock := fun q hq e => by
  have hq2 : vS.ownBlock = some q := e.symm;rcases h.row.2 with ⟨hv0, _⟩ | ⟨g', cap, cur, hv0, _, hh, _⟩
  ·rw [hv0] at hq2; cases hq2
  ·rw [hv0] at hq2;have e2 : g' = q := by simpa [Value.ownBlock] using hq2
   subst e2;rcases h.dirt.2 with ⟨hv1, _⟩ | ⟨g2, cap2, cur2, hv1, _, hh2, _⟩
   ·rw [hv1] at hq; cases hq
   ·rw [hv1] at hq;have e3 : g2 = g' := by simpa [Value.ownBlock] using hq
    subst e3;rw [hh] at hh2;simp only [Option.some.injEq, Obj.cells.injEq] at hh2;exact absurd hh2.2.1 (by decide)
 have hcells : Blk w1 0 152 l [.pointer (some ⟨dp, 0, none⟩), .string s, vS, .int .i64 (nx : Int), vD] := h.cells.turn t1 (fun e => hSl e.symm);have hS'l : vS'.ownBlock ≠ some l := ownsRow_notIn o hcells (by decide);refine ⟨hcells.stored 2 vS', ownsRow_turn o t2 (fun q hq e => hS'l (by rw [hq]; exact e)), ownsRow_turn (ownsRow_turn h.dirt t1 (fun q hq e => hSD q hq e)) t2 (fun q hq e => hDl (by rw [hq]; exact e)), ?_, .inl h.own, ?_, fun q hq => .inl (h.mineD q hq), ?_, ?_, ?_⟩
 ·intro y hy;rcases List.mem_append.1 hy with hy | hy
  ·have r1 := (h.each y hy).turn t1 (fun q hq e => (h.offE q hq).2.1 e.symm);exact (r1.turn t2 (fun q hq e => (h.offE q hq).1 (Option.some.inj e))).mono (fun q hq => .inl hq)
  ·have ey : y = x := by simpa using hy
   subst ey;have r1 := hx.turn t1 (fun q hq e => (h1 q hq).2.2.1 e.symm);exact (r1.turn t2 (fun q hq e => (h1 q hq).2.1 (Option.some.inj e))).mono (fun q hq => .inr hq)
 ·intro q hq;rcases hv with e | e
  ·exact .inl (h.mineS q (by rw [<- e]; exact hq))
  ·rw [e] at hq;have : w.heap.size = q := Option.some.inj hq;subst this;have hlt : w.heap.size < w1.heap.size := (World.ownsRow.lt o _ e).2;exact .inr (.inr ⟨Nat.le_refl _, hlt⟩)
 ·intro q hq;rcases hq with hq | hq
  ·exact .inl (h.mineE q hq)
  ·exact .inr (.inl hq)
 ·intro q hq;have hq4 : q < w.heap.size /\ q ≠ l /\ vS.ownBlock ≠ some q /\ vD.ownBlock ≠ some q := by
   rcases hq with hq | hq
   ·exact ⟨h.low q (h.mineE q hq), h.offE q hq⟩
   ·exact h1 q hq
  refine ⟨hq4.2.1, ?_, hq4.2.2.2⟩;rcases hv with e | e
  ·rw [e]; exact hq4.2.2.1
  ·rw [e];intro e2;have := Option.some.inj e2;omega
 ·intro q hq;have hsz : w1.heap.size <= (w1.setCell ⟨l, 2, none⟩ vS').heap.size := t2.size;rcases hq with hq | hq | hq
  ·have := h.low q hq;have := t1.size;omega
  ·have := (h1 q hq).1;have := t1.size;omega
  ·omega
theorem RLogW.rows_ne {E : Nat -> Prop} {vS vD : Value} {X : List Sgx} {nx : Nat} {dy : List Nat} (h : RLogW w G E l dp s vS vD X nx dy) : ∀ q, vS.ownBlock = some q -> vD.ownBlock ≠ some q := fun q hq2 hq => by
 rcases h.row.2 with ⟨hv0, _⟩ | ⟨g', cap, cur, hv0, _, hh, _⟩
 ·rw [hv0] at hq2; cases hq2
 ·rw [hv0] at hq2;have e2 : g' = q := by simpa [Value.ownBlock] using hq2
  subst e2;rcases h.dirt.2 with ⟨hv1, _⟩ | ⟨g2, cap2, cur2, hv1, _, hh2, _⟩
  ·rw [hv1] at hq; cases hq
  ·rw [hv1] at hq;have e3 : g2 = g' := by simpa [Value.ownBlock] using hq
   subst e3;rw [hh] at hh2;simp only [Option.some.injEq, Obj.cells.injEq] at hh2;exact absurd hh2.2.1 (by decide)
theorem RLogW.pushDirty {E : Nat -> Prop} {vS vD vD' : Value} {X : List Sgx} {nx : Nat} {dy : List Nat} (h : RLogW w G E l dp s vS vD X nx dy)
  (g : w.grownBy w1 vD.ownBlock) (o : OwnN w1 0 vD' (dy.map (fun n : Nat => (n : Int)) ++ [(n : Int)])) (hv : vD'.ownBlock = vD.ownBlock \/ vD'.ownBlock = some w.heap.size) :
  RLogW (w1.setCell ⟨l, 4, none⟩ vD') (fun q => G q \/ (w.heap.size <= q /\ q < w1.heap.size)) E l dp s vS vD' X nx (dy ++ [n]) := by
 have t1 : Turn (fun k => some k = vD.ownBlock) w w1 := Turn.of_grown g;have t2 : Turn (fun k => some k = some l) w1 (w1.setCell ⟨l, 4, none⟩ vD') := Turn.of_grown (grown_set w1 l 4 vD');have hSl : vS.ownBlock ≠ some l := ownsRow_notIn h.row h.cells (by decide);have hDl : vD.ownBlock ≠ some l := ownsRow_notIn h.dirt h.cells (by decide);have hcells : Blk w1 0 152 l [.pointer (some ⟨dp, 0, none⟩), .string s, vS, .int .i64 (nx : Int), vD] := h.cells.turn t1 (fun e => hDl e.symm);have hD'l : vD'.ownBlock ≠ some l := ownsRow_notIn o hcells (by decide);refine ⟨hcells.stored 4 vD', ownsRow_turn (ownsRow_turn h.row t1 (fun q hq e => h.rows_ne q hq e.symm)) t2 (fun q hq e => hSl (by rw [hq]; exact e)), ?_, ?_, .inl h.own, fun q hq => .inl (h.mineS q hq), ?_, fun q hq => .inl (h.mineE q hq), ?_, ?_⟩
 ·have : (dy ++ [n]).map (fun n : Nat => (n : Int)) = dy.map (fun n : Nat => (n : Int)) ++ [(n : Int)] := by rw [List.map_append]; rfl
  rw [this];exact ownsRow_turn o t2 (fun q hq e => hD'l (by rw [hq]; exact e))
 ·intro y hy;exact ((h.each y hy).turn t1 (fun q hq e => (h.offE q hq).2.2 e.symm)).turn t2 (fun q hq e => (h.offE q hq).1 (Option.some.inj e))
 ·intro q hq;rcases hv with e | e
  ·exact .inl (h.mineD q (by rw [<- e]; exact hq))
  ·rw [e] at hq;have : w.heap.size = q := Option.some.inj hq;subst this;exact .inr ⟨Nat.le_refl _, (World.ownsRow.lt o _ e).2⟩
 ·intro q hq;refine ⟨(h.offE q hq).1, (h.offE q hq).2.1, ?_⟩;rcases hv with e | e
  ·rw [e]; exact (h.offE q hq).2.2
  ·rw [e];intro e2;have := Option.some.inj e2;have := h.low q (h.mineE q hq);omega
 ·intro q hq;have hsz : w1.heap.size <= (w1.setCell ⟨l, 4, none⟩ vD').heap.size := t2.size;rcases hq with hq | hq
  ·have := h.low q hq;have := t1.size;omega
  ·omega
theorem RLogW.setNext {E : Nat -> Prop} {vS vD : Value} {X : List Sgx} {nx : Nat} {dy : List Nat} (h : RLogW w G E l dp s vS vD X nx dy) (n : Nat) : RLogW (w.setCell ⟨l, 3, none⟩ (.int .i64 (n : Int))) G E l dp s vS vD X n dy := by
 have t : Turn (fun k => some k = some l) w (w.setCell ⟨l, 3, none⟩ (.int .i64 (n : Int))) := Turn.of_grown (grown_set w l 3 _);have hSl : vS.ownBlock ≠ some l := ownsRow_notIn h.row h.cells (by decide);have hDl : vD.ownBlock ≠ some l := ownsRow_notIn h.dirt h.cells (by decide);exact ⟨h.cells.stored 3 _, ownsRow_turn h.row t (fun q hq e => hSl (by rw [hq]; exact e)), ownsRow_turn h.dirt t (fun q hq e => hDl (by rw [hq]; exact e)), fun x hx => (h.each x hx).turn t (fun q hq e => (h.offE q hq).1 (Option.some.inj e)), h.own, h.mineS, h.mineD, h.mineE, h.offE, fun q hq => Nat.lt_of_lt_of_le (h.low q hq) t.size⟩
section
variable (G : Nat -> Prop) (p room : Nat) (v : Value) (X : List (Str × Fil)) (s : ByteArray) (w : World) (h : RShell w G p room v X) (hr : Rise X)
include h hr
theorem rsize_none (hg : getK s.data.toList X = none) : Calls Tryz.prog 66 #[.pointer (some ⟨p, 0, none⟩), .string s] w fun e w' => e = .returned (.tuple #[.int .i64 0, .bool false]) /\ ∃ d, w' = w.drewN d := by
 obtain ⟨j, hS⟩ := rspot_none G p room v X s w h hr hg;have HS := hide hS;clear hS h hr hg;go_enter Tryz.func66, Tryz.ntmps66;go_wp2_with fail
 refine HS.out.mono ?_;rintro e w1 ⟨rfl, dd, rfl⟩;go_wp2_with fail
 go_ret2;exact ⟨rfl, dd, rfl⟩
theorem rsize_some (a : Fil) (hg : getK s.data.toList X = some a) : Calls Tryz.prog 66 #[.pointer (some ⟨p, 0, none⟩), .string s] w fun e w' => e = .returned (.tuple #[.int .i64 ((a.2.1.length : Nat) : Int), .bool true]) /\ ∃ d, w' = w.drewN d := by
 obtain ⟨g, c, A, n, cc, rfl, ha, hn, hncc, hcc, hXc, hc63, hGg, hgl, q0, q1, q2, fz⟩ := rfound h hr hg;obtain ⟨hjl, hXj⟩ := posK_get hr hg;have c1 : w.cell? ⟨p, 1, none⟩ = some (.slice (some ⟨g, 0, none⟩) X.length c) := h.cells.cell 1;have HS := hide (spot_any G p room _ X s w h hr);obtain ⟨N, hN⟩ : ∃ N, N = X.length := ⟨_, rfl⟩;obtain ⟨j, hj⟩ : ∃ j, j = posK s.data.toList X := ⟨_, rfl⟩;rw [<- hj, hg] at HS;rw [<- hj] at hjl q0 q1 q2;rw [<- hN] at c1 hjl hXc;rw [hn];clear h hN hj hg hr fz hGg ha q0 q2 hXj hn;go_enter Tryz.func66, Tryz.ntmps66;go_wp2_with fail
 refine HS.out.mono ?_;rintro e w1 ⟨rfl, dd, hd⟩;have c1' : w1.cell? ⟨p, 1, none⟩ = some (.slice (some ⟨g, 0, none⟩) N c) := by rw [hd]; exact c1
 have q1' : w1.cell? ⟨g, j * 3 + 1, none⟩ = some (.slice A n cc) := by rw [hd]; exact q1
 have HD := hide hd;clear hd c1 q1;go_wp2_with fail
 go_ret2;exact ⟨rfl, dd, HD.out⟩
end
theorem rsize_any (G : Nat -> Prop) (p room : Nat) (L : DiskL) (s : ByteArray) (w : World) (hR : RAt w G p room L) (hS : Sane room L) :
  Calls Tryz.prog 66 #[.pointer (some ⟨p, 0, none⟩), .string s] w fun e w' => e = .returned (.tuple #[.int .i64 ((sizeL s.data.toList L : Nat) : Int), .bool (getK s.data.toList L).isSome]) /\ ∃ d, w' = w.drewN d := by
 obtain ⟨v, X, rfl, hx⟩ := hR;have hr := rise_abs hS.rise;unfold sizeL;rw [absX_get];rcases hg : getK s.data.toList X with _ | a
 ·exact rsize_none G p room v X s w hx hr hg
 ·exact rsize_some G p room v X s w hx hr a hg
set_option maxRecDepth 100000 in
set_option maxHeartbeats 6400000 in
theorem rlogsize_any (w : World) (Gd G : Nat -> Prop) (dp l room : Nat) (s : ByteArray) (M : LogL) (L : DiskL) (f : Nat) (es : List (List Nat)) (h : RBoth w Gd G dp l room s M L) (hs : s.size <= 64) (hf : f <= 1099511627776) (hl : M.segs.getLast? = some (f, es)) :
  Calls Tryz.prog 102 #[.pointer (some ⟨l, 0, none⟩)] w fun e w' => e = .returned (.int .i64 ((sizeL (nameL s.data.toList f) L : Nat) : Int)) /\ Below w.heap.size w w' := by
 obtain ⟨segs, nx, dy⟩ := M;obtain ⟨hD, ⟨E, vS, vD, X, e, h⟩, hap, hsane⟩ := h;simp only at e h hl;obtain ⟨c0, c1, c2, c3, c4⟩ := h.logCells;obtain ⟨A, c, eS, hlc, hc63, hnil, hcell⟩ := h.row.form;subst eS;obtain ⟨N, hN⟩ : ∃ N, N + 1 = X.length := by
  rcases X with _ | ⟨x, X⟩
  ·rw [e] at hl; cases hl
  ·exact ⟨X.length, rfl⟩
 obtain ⟨g, rfl, _, hgl, q0, hq1, hq2⟩ := hcell N (by omega);have hxf : X[N].1 = f := by
  rw [e, List.getLast?_map, List.getLast?_eq_getElem?] at hl;have e2 : X.length - 1 = N := by omega
  rw [e2, List.getElem?_eq_getElem (by omega)] at hl;have := Option.some.inj hl;exact congrArg Prod.fst this
 rw [hxf] at q0;rw [<- hN] at c2 hlc;obtain ⟨m, hm⟩ : ∃ m, m = N + 1 := ⟨_, rfl⟩;rw [<- hm] at c2 hlc;have hsl : IntKind.i64.wrap ((m : Int) - 1) = (N : Int) := by rw [IntKind.wrap_i64]; omega
 have hsl0 : (0 : Int) <= (N : Int) := by omega
 have hsl1 : (N : Int) < (m : Int) := by omega
 have hsl2 : N < m := by omega
 have hll := cell_lt c0;have HD := hide hD;have HS := hide hsane;clear hD h hap hsane hq1 hq2 hcell hm hN hl e hnil c3 c4 hxf;go_enter Tryz.func102, Tryz.ntmps102;go_wp2_with fail
 go_region_held3 (fun W' => W'.cell? ⟨l, 0, none⟩ = some (.pointer (some ⟨dp, 0, none⟩)) /\ W'.cell? ⟨l, 1, none⟩ = some (.string s) /\ W'.cell? ⟨l, 2, none⟩ = some (.slice (some ⟨g, 0, none⟩) m c) /\ W'.cell? ⟨g, N * 2, none⟩ = some (.int .i64 (f : Int))) (go_keep)
  (first
   | (go_at_call 103; refine (rname_any s f w.drew (by omega) hf).mono ?_; rintro e w1 ⟨t, rfl, htl, kn⟩; have K1 := hide ((below_drew w).trans kn); have x0 := (K1.out.cell (p := ⟨l, 0, none⟩) hll).trans c0; have x1 := (K1.out.cell (p := ⟨l, 1, none⟩) hll).trans c1; have x2 := (K1.out.cell (p := ⟨l, 2, none⟩) hll).trans c2; have x3 := (K1.out.cell (p := ⟨g, N * 2, none⟩) hgl).trans q0; have R1 := hide (HD.out.below K1.out); have TL := hide htl; clear htl kn)
   | (go_at_call 66; refine (rsize_any Gd dp room L t w1 R1.out HS.out).mono ?_; rintro e w2 ⟨rfl, d2, rfl⟩; rw [TL.out]; have K2 := hide (below_drewN K1.out d2)))
 go_wp2_with fail
 go_ret;exact ⟨rfl, K2.out⟩
theorem RowsE.low {E : Nat -> Prop} {v : Value} {xss : List (List Nat)} (h : RowsE E w v xss) : RowsE (fun g => E g /\ g < w.heap.size) w v xss := by
 obtain ⟨A, c, us, rfl, h1, h2, h3, h4, h5, h6, h7⟩ := h;refine ⟨A, c, us, rfl, h1, h2, h3, h4, h5, fun hne g hg => ⟨h6 hne g hg, ?_⟩, fun i hi => ⟨(h7 i hi).1, fun hne g hg => ⟨(h7 i hi).2 hne g hg, isB_lt (h7 i hi).1 hne g hg⟩⟩⟩;have hx : 0 < xss.length := List.length_pos_iff.2 hne;obtain ⟨b, off, e, hc⟩ := h4 (by intro e; rw [e] at h5; simp at h5; omega);rw [e] at hg;have e2 : b = g := by simpa [Value.ownBlock] using hg
 rw [<- e2];exact cell_lt (hc 0 (by omega))
theorem cellsG_set (x : Sgx) (u : Value) (yss : List (List Nat)) : ∀ X : List Sgx, (cellsG (X ++ [x])).set (X.length * 2 + 1) u = cellsG (X ++ [(x.1, u, yss)]) := by
 intro X
 induction X with
 | nil => rfl
 | cons y r ih =>
  have e : (y :: r).length * 2 + 1 = (r.length * 2 + 1) + 1 + 1 := by simp only [List.length_cons]; omega
  rw [e]
  show (.int .i64 (y.1 : Int) :: y.2.1 :: cellsG (r ++ [x])).set ((r.length * 2 + 1) + 1 + 1) u = .int .i64 (y.1 : Int) :: y.2.1 :: cellsG (r ++ [(x.1, u, yss)])
  rw [List.set_cons_succ, List.set_cons_succ, ih]
theorem RLogW.setLast {E E6 : Nat -> Prop} {vD : Value} {X : List Sgx} {x : Sgx} {nx : Nat} {dy : List Nat} {u : Value} {yss : List (List Nat)}
  (h : RLogW w G E l dp s (.slice (some ⟨g, 0, none⟩) n c) vD (X ++ [x]) nx dy) (k : Below w.heap.size w w6) (hu : RowsE E6 w6 u yss) (h6 : ∀ q, E6 q -> E q \/ w.heap.size <= q) :
  RLogW (w6.setCell ⟨g, X.length * 2 + 1, none⟩ u) (fun q => G q \/ (w.heap.size <= q /\ q < w6.heap.size)) (fun q => E q \/ (w.heap.size <= q /\ q < w6.heap.size)) l dp s (.slice (some ⟨g, 0, none⟩) n c) vD (X ++ [(x.1, u, yss)]) nx dy := by
 have t1 : Turn (fun _ => False) w w6 := Turn.of_below _ k;have t2 : Turn (fun q => some q = some g) w6 (w6.setCell ⟨g, X.length * 2 + 1, none⟩ u) := Turn.of_grown (grown_set w6 g _ u);have hgl : g ≠ l := fun e => ownsRow_notIn h.row h.cells (by decide) (by rw [<- e]; rfl)
 have hgw : g < w.heap.size := h.low g (h.mineS g rfl);have hDg : vD.ownBlock ≠ some g := h.rows_ne g rfl;have hk := k.size;have hsz : w6.heap.size <= (w6.setCell ⟨g, X.length * 2 + 1, none⟩ u).heap.size := t2.size;refine ⟨(h.cells.turn t1 id).turn t2 (fun e => hgl (Option.some.inj e).symm), ?_, ownsRow_turn (ownsRow_turn h.dirt t1 (fun _ _ => id)) t2 (fun q hq e => hDg (by rw [hq]; exact e)), ?_, .inl h.own, fun q hq => .inl (h.mineS q hq), fun q hq => .inl (h.mineD q hq), ?_, ?_, ?_⟩
 ·have r6 : w6.ownsRow 0 156 2 (.slice (some ⟨g, 0, none⟩) n c) (X ++ [x]).length (cellsG (X ++ [x])) := ownsRow_turn h.row t1 (fun _ _ => id);have hn : n = (X ++ [x]).length := by
   obtain ⟨A0, c0, e0, _⟩ := h.row.form;cases e0
   rfl
  subst hn;have r7 := (World.ownsRow.stored r6 (X.length * 2 + 1) u).1;unfold OwnG;rw [<- cellsG_set x u yss X];have e : (X ++ [(x.1, u, yss)]).length = (X ++ [x]).length := by simp
  rw [e];exact r7
 ·intro y hy;rcases List.mem_append.1 hy with hy | hy
  ·exact (((h.each y (List.mem_append_left _ hy)).turn t1 (fun _ _ => id)).turn t2 (fun q hq e => (h.offE q hq).2.1 e.symm)).mono (fun q hq => .inl hq)
  ·have ey : y = (x.1, u, yss) := by simpa using hy
   subst ey;refine (hu.low.turn t2 (fun q hq e => ?_)).mono (fun q hq => ?_)
   ·rcases h6 q hq.1 with h1 | h1
    ·exact (h.offE q h1).2.1 e.symm
    ·have := Option.some.inj e;omega
   ·rcases h6 q hq.1 with h1 | h1
    ·exact .inl h1
    ·exact .inr ⟨h1, hq.2⟩
 ·intro q hq;rcases hq with hq | hq
  ·exact .inl (h.mineE q hq)
  ·exact .inr hq
 ·intro q hq;rcases hq with hq | hq
  ·exact h.offE q hq
  ·refine ⟨?_, ?_, ?_⟩
   ·have := h.low l h.own;omega
   ·intro e;have : g = q := Option.some.inj e;omega
   ·intro e;have := h.low q (h.mineD q e);omega
 ·intro q hq;rcases hq with hq | hq
  ·have := h.low q hq;omega
  ·omega
end Go.Proofs.YtbmhfnhfhdgdgaaGreat
