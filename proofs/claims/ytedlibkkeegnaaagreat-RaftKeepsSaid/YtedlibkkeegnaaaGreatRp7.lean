/- Bytes as slice values, and the law of an append of bytes to a slice of the call's own, whatever the appended slice is (nil, empty or not). Conditions: the lengt -/
import Derived.Test.YtedlibkkeegnaaaGreatRp5
import Derived.Laws.AppendOwnNone
import Derived.OpenShut
namespace Go.Proofs.YtedlibkkeegnaaaGreat
open Go.RowKit
variable {w w' w1 : World} {F F' : Nat -> Prop} {B g n c b : Nat}
structure Halt (p : Prop) : Prop where
 out : p
theorem halt {p : Prop} (h : Halt p) : p := h.out
def IsB (w : World) (v : Value) (xs : List Nat) : Prop := ∃ A c, v = .slice A xs.length c /\ Rd w A xs /\ (A = none -> c = 0) /\ xs.length <= c /\ c <= 9223372036854775807
theorem Own.more {B' : Nat} {v : Value} {l : List Nat} (h : Own w B v l) (hb : B' <= B) : Own w B' v l := by
 unfold Own at h ⊢;refine ⟨h.1, ?_⟩;rcases h.2 with hn | ⟨g, cap, cur, hv, h1, r⟩
 ·exact .inl hn
 ·exact .inr ⟨g, cap, cur, hv, by omega, r⟩
theorem add_off (b off j : Nat) : (⟨b, off, none⟩ : Addr).add j = ⟨b, off + j, none⟩ := by
 unfold Addr.add; split <;> simp_all
theorem Own.isB {v : Value} {xs : List Nat} (h : Own w B v xs) : IsB w v xs := by
 unfold Own at h;rcases h.2 with ⟨rfl, hn⟩ | ⟨g, cap, cur, rfl, _, _, c1, c2, _⟩
 ·refine ⟨none, 0, by rw [hn], fun hne => ?_, fun _ => rfl, by omega, by decide⟩;exact absurd (List.eq_nil_of_length_eq_zero hn) hne
 ·refine ⟨_, _, rfl, fun _ => ⟨g, 0, rfl, fun i hi => ?_⟩, (fun h => by cases h), c1, by unfold maxLen at c2; omega⟩;rw [Nat.zero_add, h.cellAt i (by omega)];simp [hi]
theorem IsB.keep {v : Value} {xs : List Nat} (h : IsB w v xs) (hb : Below w.heap.size w w') : IsB w' v xs := by
 obtain ⟨A, c, e, hr, hn⟩ := h;exact ⟨A, c, e, hr.below hb, hn⟩
theorem Tryz.info_u8' : (Tryz.prog.info? 5).map (fun i => (i.zero, i.size, i.bytes)) = some (some (.int .u8 0), 1, 1) := by kernel_rfl
theorem wpList_append_bytes {ops : Array Oper} {rest : List Oper} {o : Oper} {a : Act} {Q : Exit -> Act -> World -> Prop} (hgd : o.guard = none) (s x : Operand)
  (ho : o.op = .call { callee := .builtin .append, args := #[s, x], argTypes := #[32, 32] })
  (B : Nat) (v : Value) (xs : List Nat) (hs : a.eval s = v) (hown : Own w B v xs)
  (u : Value) (ys : List Nat) (hx : a.eval x = u) (hr : IsB w u ys)
  (hlen : xs.length + ys.length <= 140737488355328) (hbase : B <= w.heap.size)
  (h : ∀ v' w', Own w' B v' (xs ++ ys) -> Below B w w' -> wpList Tryz.prog ops Q rest (a.put o.dst v') w') : wpList Tryz.prog ops Q (o :: rest) a w := by
 obtain ⟨i0, hi, hz0, hz1, hz2⟩ := info_parts Tryz.info_u8';obtain ⟨A, c, rfl, hr, hn, _⟩ := hr;have fin : ∀ v' w', w'.ownsRow B 5 1 v' (xs.length + ys.length) ((xs.map fun x : Nat => Value.int .u8 (x : Int)) ++ (ys.map fun x : Nat => Value.int .u8 (x : Int))) -> w.grownBy w' v.ownBlock -> wpList Tryz.prog ops Q rest (a.put o.dst v') w' := by
  intro v' w' hown' hg;refine h v' w' (by unfold Own; simpa using hown') ((Below.refl _ _).grown hg hbase fun k hk => (hown.lt k hk).1)
 rcases A with _ | ad
 ·have h0 := hn rfl;subst h0;have hys : ys = [] := by
   rcases ys with _ | ⟨y, ys⟩
   ·rfl
   ·obtain ⟨_, _, e, _⟩ := hr (by simp);cases e
  subst hys;exact wpList_append_own_none hgd s x _ ho B 5 i0 1 Tryz.underlying32 hi v _ _ hs hown hx (fin v w (by simpa [Own] using hown) (World.grownBy.refl w _))
 ·refine wpList_append_own w hgd s x _ ho B 5 i0 (.int .u8 0) 1 1 Tryz.underlying32 hi hz0 hz1 hz2 rfl (by decide) v _ _ hs hown ad ys.length c (ys.map fun x : Nat => Value.int .u8 (x : Int)) hx (by simp) ?_ ?_ (by unfold maxLen; omega) (by omega) hbase (fun v' w' h1 h2 _ => fin v' w' h1 h2)
  ·intro j u hu;have hj : j < ys.length := by
    rcases Nat.lt_or_ge j ys.length with h | h
    ·exact h
    ·simp [h] at hu
   obtain ⟨b, off, e, hc⟩ := hr (by intro e; rw [e] at hj; simp at hj);cases e
   have := hc j hj;simp [hj] at hu;subst hu;simpa [add_off, hj] using this
  ·intro u hu;simp at hu;obtain ⟨y, _, rfl⟩ := hu
   rfl
def IsRow (k : IntKind) (w : World) (a : Option Addr) (len cap : Nat) (zs : List Int) : Prop :=
 (a = none /\ len = 0 /\ cap = 0 /\ zs = []) \/
 ∃ x, a = some x /\ len <= cap /\ cap <= maxLen /\ zs.length = cap /\ (∀ i, i < zs.length -> w.cell? (x.add i) = some (.int k (zs.getD i 0))) /\ ∀ n ∈ zs, (Lit.int k n).wf = true
theorem IsRow.isB {a : Option Addr} {len cap : Nat} {zs : List Int} (h : IsRow .u8 w a len cap zs) :
  ∃ xs : List Nat, xs.length = len /\ (∀ x ∈ xs, x < 256) /\ IsB w (.slice a len cap) xs /\ len <= 9223372036854775807 := by
 rcases h with ⟨rfl, rfl, rfl, rfl⟩ | ⟨x, rfl, h1, h2, h3, hc, hw⟩
 ·exact ⟨[], rfl, by simp, ⟨none, 0, rfl, fun h => absurd rfl h, fun _ => rfl, by decide, by decide⟩, by decide⟩
 ·have hb : ∀ z ∈ zs, 0 <= z /\ z <= 255 := fun z hz => bounds_u8 (hw z hz)
  refine ⟨(zs.take len).map Int.toNat, by simp; omega, ?_, ⟨some x, cap, by congr 1; simp; omega, ?_, (fun h => by cases h), by simp; omega, by unfold maxLen at h2; omega⟩, by unfold maxLen at h2; omega⟩
  ·intro y hy;simp only [List.mem_map] at hy;obtain ⟨z, hz, rfl⟩ := hy;have := hb z (List.mem_of_mem_take hz);omega
  ·intro hne;have hl : 0 < zs.length := by
    rcases zs with _ | ⟨z, zs⟩
    ·simp at hne
    ·simp
   obtain ⟨b, off, sp⟩ := x;have hs0 := hc 0 hl;have hsp : sp = none := by simpa [Addr.add] using World.cell?_spot hs0
   subst hsp;refine ⟨b, off, rfl, fun i hi => ?_⟩;have hi2 : i < len /\ i < zs.length := by simp at hi; omega
   have := hc i hi2.2;rw [add_off] at this;rw [this];have hz := hb zs[i] (List.getElem_mem hi2.2);simp [hi2.1, hi2.2];omega
theorem IsB.drewN {v : Value} {xs : List Nat} (h : IsB w v xs) (d : Nat) : IsB (w.drewN d) v xs := h
theorem IsB.rd {A : Option Addr} {xs : List Nat} (h : IsB w (.slice A n c) xs) : Rd w A xs := by
 obtain ⟨A', c', e, r, _⟩ := h;cases e
 exact r
theorem IsB.form {v : Value} {xs : List Nat} (h : IsB w v xs) (hn : xs.length = n) : ∃ A c, v = .slice A n c /\ IsB w (.slice A n c) xs /\ n <= c /\ c <= 9223372036854775807 := by
 subst hn;obtain ⟨A, c, e, r, h1, h2, h3⟩ := h;exact ⟨A, c, e, ⟨A, c, rfl, r, h1, h2, h3⟩, h2, h3⟩
theorem byte_app {xs ys : List Nat} (h1 : ∀ x ∈ xs, x < 256) (h2 : ∀ x ∈ ys, x < 256) : ∀ x ∈ xs ++ ys, x < 256 := by
 intro x hx;rcases List.mem_append.1 hx with h | h
 ·exact h1 x h
 ·exact h2 x h
theorem below_step {a b : World} (h : Below w.heap.size w a) (k : Below a.heap.size a b) : Below w.heap.size w b := h.trans (k.mono h.size)
theorem own_lit (w : World) (cs : Array Value) (xs : List Nat) (h : cs.toList = xs.map fun x : Nat => Value.int .u8 (x : Int)) (hl : xs.length <= 140737488355328) :
  Own (w.alloc (.cells cs 5)) w.heap.size (.slice (some ⟨w.heap.size, 0, none⟩) xs.length xs.length) xs := by
 have hs : cs.size = xs.length := by rw [<- Array.length_toList, h]; simp
 have := World.ownsRow_lit (base := w.heap.size) (e := 5) (size := 1) w cs xs.length (Nat.le_refl _) (by unfold maxLen; omega) (by omega);rw [h] at this;exact this
theorem IsB.take {A : Option Addr} {xs : List Nat} (h : IsB w (.slice A n c) xs) (k : Nat) (hk : k <= n) : IsB w (.slice A k c) (xs.take k) := by
 obtain ⟨A', c', e, r, h1, h2, h3⟩ := h;cases e
 have hl : (xs.take k).length = k := by rw [List.length_take]; omega
 refine ⟨A, c, by rw [hl], ?_, h1, by omega, h3⟩;intro hne;obtain ⟨b, off, e, hc⟩ := r (by intro e; rw [e] at hne; simp at hne);refine ⟨b, off, e, fun i hi => ?_⟩;have hi2 : i < k := by omega
 rw [hc i (by omega)];congr 2;simp [hi2]
theorem isB_new (w : World) (cs : Array Value) (xs : List Nat) (hl : cs.toList = xs.map fun x : Nat => Value.int .u8 (x : Int)) (h : xs.length <= 140737488355328) (b n : Nat) (hb : b = w.heap.size) (hn : n = xs.length) :
  IsB (w.alloc (.cells cs 5)) (.slice (some ⟨b, 0, none⟩) n n) xs := by
 subst hb; subst hn;exact ⟨_, _, rfl, rd_new _ _ _ _ _ _ rfl hl, (fun h => by cases h), Nat.le_refl _, by omega⟩
theorem rd_at {off : Nat} {xs : List Nat} (h : ∀ i, i < xs.length -> w.cell? ⟨b, off + i, none⟩ = some (.int .u8 ((xs.getD i 0 : Nat) : Int))) (hb : ∀ x ∈ xs, x < 256) (i : Nat) (hi : i < xs.length) :
  ∃ x : Nat, w.cell? ⟨b, off + i, none⟩ = some (.int .u8 (x : Int)) /\ x < 256 /\ x = xs.getD i 0 := by
 refine ⟨_, h i hi, ?_, rfl⟩;have e : xs.getD i 0 = xs[i] := by simp [hi]
 rw [e];exact hb _ (List.getElem_mem hi)
def RdV (w : World) (A : Option Addr) (vs : List Value) : Prop :=
 vs ≠ [] -> ∃ b off, A = some ⟨b, off, none⟩ /\ ∀ i, i < vs.length -> w.cell? ⟨b, off + i, none⟩ = some (vs.getD i (.slice none 0 0))
theorem RdV.below {A : Option Addr} {vs : List Value} (h : RdV w A vs) (hb : Below w.heap.size w w') : RdV w' A vs := by
 intro hne;obtain ⟨b, off, e, hc⟩ := h hne;exact ⟨b, off, e, fun i hi => (hb.cell (cell_lt (hc i hi))).trans (hc i hi)⟩
theorem RdV.drewN {A : Option Addr} {vs : List Value} (h : RdV w A vs) (n : Nat) : RdV (w.drewN n) A vs := h
def IsBs (w : World) (vs : List Value) (xss : List (List Nat)) : Prop := vs.length = xss.length /\ ∀ i, i < vs.length -> IsB w (vs.getD i (.slice none 0 0)) (xss.getD i [])
theorem IsBs.below {vs : List Value} {xss : List (List Nat)} (h : IsBs w vs xss) (hb : Below w.heap.size w w') : IsBs w' vs xss := ⟨h.1, fun i hi => (h.2 i hi).keep hb⟩
theorem IsBs.drewN {vs : List Value} {xss : List (List Nat)} (h : IsBs w vs xss) (n : Nat) : IsBs (w.drewN n) vs xss := h
theorem rdV_new (w : World) (cs : Array Value) (e : TypeId) (vs : List Value) (b : Nat) (hb : b = w.heap.size) (h : cs.toList = vs) : RdV (w.alloc (.cells cs e)) (some ⟨b, 0, none⟩) vs := by
 subst hb; subst h;intro _;refine ⟨_, 0, rfl, fun i hi => ?_⟩;have hc : cs[i]? = some (cs.toList.getD i (.slice none 0 0)) := by
  rw [<- Array.getElem?_toList];simp at hi;simp [hi]
 rw [Nat.zero_add, <- hc];exact cell_of_row _ _ _ _ _ (0, 0) (heap_alloc_new w _)
def OwnV (w : World) (B : Nat) (v : Value) (vs : List Value) : Prop := w.ownsRow B 32 1 v vs.length vs
def Owns (w : World) (B : Nat) (vs : List Value) (xss : List (List Nat)) : Prop := vs.length = xss.length /\ ∀ i, i < vs.length -> Own w B (vs.getD i (.slice none 0 0)) (xss.getD i [])
theorem OwnV.nil (w : World) (B : Nat) : OwnV w B (.slice none 0 0) [] := World.ownsRow_nil _ _ _ _
theorem OwnV.form {v : Value} {vs : List Value} (h : OwnV w B v vs) (hn : vs.length = n) : ∃ A c, v = .slice A n c /\ RdV w A vs /\ n <= 9223372036854775807 := by
 subst hn;unfold OwnV at h;rcases h.2 with ⟨rfl, hn⟩ | ⟨g, cap, cur, rfl, _, _, c1, c2, _⟩
 ·refine ⟨none, 0, by rw [hn], fun hne => ?_, by omega⟩;exact absurd (List.eq_nil_of_length_eq_zero hn) hne
 ·refine ⟨_, _, rfl, fun _ => ⟨g, 0, rfl, fun i hi => ?_⟩, by unfold maxLen at c2; omega⟩;rw [Nat.zero_add, h.cellAt i (by omega)];simp [hi]
theorem OwnV.keep {v : Value} {vs : List Value} (h : OwnV w B v vs) (hb : Below w.heap.size w w') : OwnV w' B v vs := by
 unfold OwnV at h ⊢;refine ⟨h.1, ?_⟩;rcases h.2 with hn | ⟨g, cap, cur, hv, h1, h2, r⟩
 ·exact .inl hn
 ·refine .inr ⟨g, cap, cur, hv, h1, ?_, r⟩;rw [hb.block g ?_]
  ·exact h2
  ·exact (h.lt g (by rw [hv]; rfl)).2
theorem OwnV.more {B' : Nat} {v : Value} {vs : List Value} (h : OwnV w B v vs) (hb : B' <= B) : OwnV w B' v vs := by
 unfold OwnV at h ⊢;refine ⟨h.1, ?_⟩;rcases h.2 with hn | ⟨g, cap, cur, hv, h1, r⟩
 ·exact .inl hn
 ·exact .inr ⟨g, cap, cur, hv, by omega, r⟩
theorem Owns.keep {vs : List Value} {xss : List (List Nat)} (h : Owns w B vs xss) (hb : Below w.heap.size w w') : Owns w' B vs xss := ⟨h.1, fun i hi => (h.2 i hi).keep hb⟩
theorem Owns.nil (w : World) (B : Nat) : Owns w B [] [] := ⟨rfl, fun _ h => absurd h (by simp)⟩
theorem Owns.more {B' : Nat} {vs : List Value} {xss : List (List Nat)} (h : Owns w B vs xss) (hb : B' <= B) : Owns w B' vs xss := ⟨h.1, fun i hi => (h.2 i hi).more hb⟩
theorem Own.apart {B' : Nat} {v u : Value} {xs : List Nat} {vs : List Value} (h : Own w B v xs) (hv : OwnV w B' u vs) (hg : w.grownBy w' u.ownBlock) : Own w' B v xs := by
 unfold Own OwnV at *;refine World.ownsRow.kept h hg ?_;rcases h.2 with ⟨rfl, _⟩ | ⟨g, cap, cur, rfl, _, hh, _⟩
 ·exact .inl rfl
 ·right
  rcases hv.2 with ⟨rfl, _⟩ | ⟨g', cap', cur', rfl, _, hh', _⟩
  ·intro e; cases e
  ·intro e;have e' : g = g' := by simpa [Value.ownBlock] using e
   subst e';rw [hh] at hh';simp only [Option.some.injEq, Obj.cells.injEq] at hh';exact absurd hh'.2.1 (by decide)
theorem Owns.apart {B' : Nat} {u : Value} {vs us : List Value} {xss : List (List Nat)} (h : Owns w B vs xss) (hv : OwnV w B' u us) (hg : w.grownBy w' u.ownBlock) : Owns w' B vs xss := ⟨h.1, fun i hi => (h.2 i hi).apart hv hg⟩
theorem cell_new (w : World) (u : Value) (e : TypeId) : (w.alloc (.cells #[u] e)).cell? ⟨w.heap.size, 0, none⟩ = some u := by
 rw [cell_of_row _ _ _ _ _ (0, 0) (heap_alloc_new w _)]
 rfl
def IsM (w : World) (A : Option Addr) (xss : List (List Nat)) : Prop := ∃ vs, RdV w A vs /\ IsBs w vs xss
theorem IsM.below {A : Option Addr} {xss : List (List Nat)} (h : IsM w A xss) (hb : Below w.heap.size w w') : IsM w' A xss := by
 obtain ⟨vs, h1, h2⟩ := h;exact ⟨vs, h1.below hb, h2.below hb⟩
theorem IsM.drewN {A : Option Addr} {xss : List (List Nat)} (h : IsM w A xss) (d : Nat) : IsM (w.drewN d) A xss := h
theorem IsM.at_ {A : Option Addr} {xss : List (List Nat)} (h : IsM w A xss) (k : Nat) (hk : k < xss.length) :
  ∃ b off A' c, A = some ⟨b, off, none⟩ /\ w.cell? ⟨b, off + k, none⟩ = some (.slice A' (xss.getD k []).length c) /\ IsB w (.slice A' (xss.getD k []).length c) (xss.getD k []) /\ (xss.getD k []).length <= c /\ c <= 9223372036854775807 := by
 obtain ⟨vs, h1, h2, h3⟩ := h;obtain ⟨b, off, e, hc⟩ := h1 (by intro e; rw [e] at h2; simp at h2; omega);have hv := h3 k (by omega);have ck := hc k (by omega);obtain ⟨A', c, e1, i1, l1, m1⟩ := hv.form rfl;rw [e1] at ck;exact ⟨b, off, A', c, e, ck, i1, l1, m1⟩
theorem below_alloc (w : World) (o : Obj) : Below w.heap.size w (w.alloc o) := (Below.refl _ _).alloc (Nat.le_refl _) _
def Blk (w : World) (B : Nat) (e : TypeId) (g : Nat) (cs : List Value) : Prop := B <= g /\ ∃ cur : Array Value, w.heap[g]? = some (.cells cur e (0, 0)) /\ cur.toList = cs
theorem heap_lt {o : Obj} (h : w.heap[g]? = some o) : g < w.heap.size := (Array.getElem?_eq_some_iff.1 h).1
theorem Blk.lt {e : TypeId} {cs : List Value} (h : Blk w B e g cs) : g < w.heap.size := by
 obtain ⟨_, cur, hg, _⟩ := h;exact heap_lt hg
theorem Blk.cell {e : TypeId} {cs : List Value} (h : Blk w B e g cs) (i : Nat) : w.cell? ⟨g, i, none⟩ = cs[i]? := by
 obtain ⟨_, cur, hg, rfl⟩ := h;rw [cell_of_row w g i cur e (0, 0) hg];simp
theorem Blk.frozen {e : TypeId} {cs : List Value} (h : Blk w B e g cs) (i : Nat) : w.frozen? ⟨g, i, none⟩ = false := by
 obtain ⟨_, cur, hg, rfl⟩ := h;exact frozen_of_row w g i cur e hg
theorem Blk.stored {e : TypeId} {cs : List Value} (h : Blk w B e g cs) (i : Nat) (u : Value) : Blk (w.setCell ⟨g, i, none⟩ u) B e g (cs.set i u) := by
 obtain ⟨hb, cur, hg, rfl⟩ := h;exact ⟨hb, _, heap_setCell_same w g i cur e u hg, Array.toList_setIfInBounds ..⟩
theorem grown_set (w : World) (g i : Nat) (u : Value) : w.grownBy (w.setCell ⟨g, i, none⟩ u) (some g) :=
 ⟨rfl, rfl, rfl, by simp, fun k _ hk => heap_setCell_other w ⟨g, i, none⟩ k u (fun e => hk (by simp [e]))⟩
theorem Blk.new (w : World) (e : TypeId) (cs : Array Value) (hB : B <= w.heap.size) : Blk (w.alloc (.cells cs e)) B e w.heap.size cs.toList := ⟨hB, cs, heap_alloc_new w _, rfl⟩
theorem Blk.kept {e : TypeId} {cs : List Value} {row : Option Nat} (h : Blk w B e g cs) (hg : w.grownBy w' row) (hne : row ≠ some g) : Blk w' B e g cs := by
 have hl := h.lt;obtain ⟨hb, cur, hh, rfl⟩ := h;exact ⟨hb, cur, by rw [hg.block g hl (fun e => hne e.symm)]; exact hh, rfl⟩
theorem Blk.keep {e : TypeId} {cs : List Value} (h : Blk w B e g cs) (hb : Below w.heap.size w w') : Blk w' B e g cs := by
 have hl := h.lt;obtain ⟨hB, cur, hh, rfl⟩ := h;exact ⟨hB, cur, by rw [hb.block g hl]; exact hh, rfl⟩
theorem Blk.more {B' : Nat} {e : TypeId} {cs : List Value} (h : Blk w B e g cs) (hB : B' <= B) : Blk w B' e g cs := ⟨Nat.le_trans hB h.1, h.2⟩
theorem Blk.drewN {e : TypeId} {cs : List Value} (h : Blk w B e g cs) (n : Nat) : Blk (w.drewN n) B e g cs := h
theorem Blk.ne {B' : Nat} {e e' : TypeId} {g' : Nat} {cs cs' : List Value} (h : Blk w B e g cs) (h' : Blk w B' e' g' cs') (hne : e ≠ e') : g ≠ g' := by
 obtain ⟨_, cur, hh, _⟩ := h;obtain ⟨_, cur', hh', _⟩ := h';rintro rfl;rw [hh] at hh';simp only [Option.some.injEq, Obj.cells.injEq] at hh';exact hne hh'.2.1
structure Turn (S : Nat -> Prop) (w w' : World) : Prop where
 os : w'.os = w.os
 tape : w'.tape = w.tape
 output : w'.output = w.output
 size : w.heap.size <= w'.heap.size
 block : ∀ k, k < w.heap.size -> ¬ S k -> w'.heap[k]? = w.heap[k]?
structure Next (F : Nat -> Prop) (w : World) (F' : Nat -> Prop) (w' : World) : Prop where
 turn : Turn F w w'
 foot : ∀ k, F' k -> F k \/ w.heap.size <= k
theorem Turn.refl (S : Nat -> Prop) (w : World) : Turn S w w := ⟨rfl, rfl, rfl, Nat.le_refl _, fun _ _ _ => rfl⟩
theorem Turn.then {S S' : Nat -> Prop} {a b c : World} (h : Turn S a b) (k : Turn S' b c) (hs : ∀ i, S' i -> S i \/ a.heap.size <= i) : Turn S a c :=
 ⟨k.os.trans h.os, k.tape.trans h.tape, k.output.trans h.output, Nat.le_trans h.size k.size, fun i hi hn => by
  rw [k.block i (Nat.lt_of_lt_of_le hi h.size) (fun e => (hs i e).elim hn (fun q => by omega))];exact h.block i hi hn⟩
theorem Turn.trans {S : Nat -> Prop} {a b c : World} (h : Turn S a b) (k : Turn S b c) : Turn S a c := h.then k fun _ => .inl
theorem Turn.mono {S S' : Nat -> Prop} {a b : World} (h : Turn S a b) (hs : ∀ i, S i -> S' i) : Turn S' a b := ⟨h.os, h.tape, h.output, h.size, fun i hi hn => h.block i hi (fun e => hn (hs i e))⟩
theorem Turn.of_below (S : Nat -> Prop) (h : Below w.heap.size w w') : Turn S w w' := ⟨h.os, h.tape, h.output, h.size, fun k hk _ => h.block k hk⟩
theorem Turn.of_grown {row : Option Nat} (h : w.grownBy w' row) : Turn (fun k => some k = row) w w' := ⟨h.os, h.tape, h.output, h.size, fun k hk hn => h.block k hk hn⟩
theorem Turn.below {S : Nat -> Prop} (h : Turn S w w') (hB : B <= w.heap.size) (hs : ∀ k, S k -> B <= k) : Below B w w' :=
 ⟨h.os, h.tape, h.output, h.size, fun k hk => h.block k (by omega) (fun e => by have := hs k e; omega)⟩
theorem Turn.drewN {S : Nat -> Prop} (h : Turn S w w') (n : Nat) : Turn S w (w'.drewN n) := ⟨h.os, h.tape, h.output, h.size, h.block⟩
theorem Next.refl (F : Nat -> Prop) (w : World) : Next F w F w := ⟨Turn.refl _ _, fun _ => .inl⟩
theorem Next.of_below (F : Nat -> Prop) (h : Below w.heap.size w w') : Next F w F w' := ⟨Turn.of_below _ h, fun _ => .inl⟩
theorem Next.trans {F'' : Nat -> Prop} {a b c : World} (h : Next F a F' b) (k : Next F' b F'' c) : Next F a F'' c :=
 ⟨h.turn.then k.turn h.foot, fun i hi => by
  rcases k.foot i hi with h1 | h1
  ·exact h.foot i h1
  ·exact .inr (Nat.le_trans h.turn.size h1)⟩
theorem Next.drewN (h : Next F w F' w') (n : Nat) : Next F w F' (w'.drewN n) := ⟨h.turn.drewN n, h.foot⟩
theorem Next.below (h : Next F w F' w') (hB : B <= w.heap.size) (hs : ∀ k, F k -> B <= k) : Below B w w' := h.turn.below hB hs
theorem Next.up (h : Next F w F' w') (hB : B <= w.heap.size) (hs : ∀ k, F k -> B <= k) : ∀ k, F' k -> B <= k := fun k hk => by
 rcases h.foot k hk with h1 | h1
 ·exact hs k h1
 ·omega
def Off (S : Nat -> Prop) (v : Value) : Prop := ∀ g, v.ownBlock = some g -> ¬ S g
theorem Off.nil (S : Nat -> Prop) : Off S (.slice none 0 0) := fun _ h => by simp [Value.ownBlock] at h
theorem IsB.turn {S : Nat -> Prop} {v : Value} {xs : List Nat} (h : IsB w v xs) (t : Turn S w w') (ho : Off S v) : IsB w' v xs := by
 obtain ⟨A, c, rfl, hr, hn⟩ := h;refine ⟨A, c, rfl, fun hne => ?_, hn⟩;obtain ⟨b, off, rfl, hc⟩ := hr hne;refine ⟨b, off, rfl, fun i hi => ?_⟩;have h1 := hc i hi;have hb := t.block b (cell_lt h1) (ho b rfl);rw [<- h1];exact World.cell?_of_block hb
theorem Own.turn {S : Nat -> Prop} {v : Value} {xs : List Nat} (h : Own w B v xs) (t : Turn S w w') (ho : Off S v) : Own w' B v xs := by
 unfold Own at h ⊢;refine ⟨h.1, ?_⟩;rcases h.2 with hn | ⟨g, cap, cur, hv, h1, h2, r⟩
 ·exact .inl hn
 ·refine .inr ⟨g, cap, cur, hv, h1, ?_, r⟩;rw [t.block g (heap_lt h2) (ho g (by rw [hv]; rfl))];exact h2
theorem Own.lt {v : Value} {xs : List Nat} (h : Own w B v xs) : ∀ g, v.ownBlock = some g -> B <= g /\ g < w.heap.size := World.ownsRow.lt h
theorem Blk.turn {S : Nat -> Prop} {e : TypeId} {cs : List Value} (h : Blk w B e g cs) (t : Turn S w w') (ho : ¬ S g) : Blk w' B e g cs := by
 have hl := h.lt;obtain ⟨hB, cur, hh, rfl⟩ := h;exact ⟨hB, cur, by rw [t.block g hl ho]; exact hh, rfl⟩
theorem off_new {v : Value} {xs : List Nat} (h : Own w1 w.heap.size v xs) (hF : ∀ k, F k -> k < w.heap.size) : Off F v := fun g hg hf => by
 have h1 := (h.lt g hg).1;have h2 := hF g hf;omega
end Go.Proofs.YtedlibkkeegnaaaGreat
namespace Go.Proofs.YtedlibkkeegnaaaGreat
open Go.RowKit Go.Maps
variable {w w' : World} {n c k b : Nat}
attribute [local go_sem] Oper.semAt_some
theorem lb_drop {off : Nat} {xs : List Nat} (h : IsB w (.slice (some ⟨b, off, none⟩) n c) xs) (k m d : Nat) (hm : m = n - k) (hd : d = c - k) (hk : k <= n) : IsB w (.slice (some ⟨b, off + k, none⟩) m d) (xs.drop k) := by
 subst hm; subst hd;obtain ⟨A', c', e, r, h1, h2, h3⟩ := h;cases e
 refine ⟨_, _, by rw [List.length_drop], ?_, (fun h => by cases h), by rw [List.length_drop]; omega, by omega⟩;intro hne;have hl : 0 < (xs.drop k).length := by
  rcases e : xs.drop k with _ | ⟨y, ys⟩
  ·exact absurd e hne
  ·simp
 obtain ⟨b', off', e, hc⟩ := r (by intro e; rw [e] at hl; simp at hl);cases e
 refine ⟨b, off + k, rfl, fun i hi => ?_⟩;rw [List.length_drop] at hi;have := hc (k + i) (by omega);rw [Nat.add_assoc, this];congr 2;simp
theorem lb_tail {off : Nat} {xs : List Nat} (h : IsB w (.slice (some ⟨b, off, none⟩) n c) xs) (k : Nat) (hk : k <= n) : IsB w (.slice (some ⟨b, if c = k then off else off + k, none⟩) (n - k) (c - k)) (xs.drop k) := by
 by_cases hc : c = k
 ·obtain ⟨A', c', e, r, h1, h2, h3⟩ := h;cases e
  have h0 : xs.drop k = [] := List.eq_nil_of_length_eq_zero (by rw [List.length_drop]; omega);rw [if_pos hc, h0];have hn : xs.length - k = 0 := by omega
  rw [hn];exact ⟨_, _, rfl, fun h => absurd rfl h, (fun h => by cases h), Nat.zero_le _, by omega⟩
 ·rw [if_neg hc];exact lb_drop h k _ _ rfl rfl hk
theorem lb_len {A : Option Addr} {xs : List Nat} (h : IsB w (.slice A n c) xs) : xs.length = n /\ n <= c /\ c <= 9223372036854775807 := by
 obtain ⟨_, _, e, _, _, h2, h3⟩ := h;cases e
 exact ⟨rfl, h2, h3⟩
structure LowB (w : World) (base : Nat) (A : Option Addr) (n c : Nat) (r : List Nat) : Prop where
 isB : IsB w (.slice A n c) r
 len : r.length = n
 low : A = none \/ ∃ b o, A = some ⟨b, o, none⟩ /\ b < base
theorem LowB.turn {S : Nat -> Prop} {base : Nat} {A : Option Addr} {r : List Nat} (h : LowB w base A n c r) (t : Turn S w w') (hS : ∀ j, S j -> base <= j) : LowB w' base A n c r := by
 refine ⟨h.isB.turn t (fun q hq hs => ?_), h.len, h.low⟩;rcases h.low with h4 | ⟨b2, o2, e2, hb⟩
 ·rw [h4] at hq; cases hq
 ·rw [e2] at hq;have e3 : b2 = q := by simpa [Value.ownBlock] using hq
  have := hS _ hs;omega
theorem LowB.keep {base : Nat} {A : Option Addr} {r : List Nat} (h : LowB w base A n c r) (k : Below w.heap.size w w') : LowB w' base A n c r := h.turn (Turn.of_below (fun _ => False) k) (fun _ e => e.elim)
theorem LowB.off {S : Nat -> Prop} {base : Nat} {A : Option Addr} {r : List Nat} (h : LowB w base A n c r) (t : Turn S w w') (hS : ∀ b, A = some b -> ¬ S b.block) : LowB w' base A n c r := by
 refine ⟨h.isB.turn t (fun q hq hs => ?_), h.len, h.low⟩;rcases h.low with h4 | ⟨b2, o2, e2, hb⟩
 ·rw [h4] at hq; cases hq
 ·have h9 := hS _ e2;rw [e2] at hq;have e3 : b2 = q := by simpa [Value.ownBlock] using hq
  rw [e3] at h9;exact h9 hs
theorem LowB.up {base base' : Nat} {A : Option Addr} {r : List Nat} (h : LowB w base A n c r) (hb : base <= base') : LowB w base' A n c r := ⟨h.isB, h.len, h.low.elim .inl (fun ⟨b, o, e, hlt⟩ => .inr ⟨b, o, e, by omega⟩)⟩
theorem LowB.caps {base : Nat} {A : Option Addr} {r : List Nat} (h : LowB w base A n c r) : n <= c /\ c <= 9223372036854775807 := (lb_len h.isB).2
theorem LowB.cut {base : Nat} {A : Option Addr} {r : List Nat} (h : LowB w base A n c r) (hk : k <= n) :
  ∃ A2 c2, LowB w base A2 (n - k) c2 (r.drop k) /\ (∀ b, A2 = some b -> ∃ b', A = some b' /\ b.block = b'.block) /\ ∀ W : World, (Instr.sliceAt 32 (.slice A n c) (some (.int .i64 (k : Int))) none none).run Tryz.prog W = .ok (.slice A2 (n - k) c2) W := by
 have h0 : (0 : Int) <= (k : Int) := by omega
 have h1 : (k : Int) <= (n : Int) := by omega
 have hl := h.len;have hc9 := h.caps;rcases h.low with e | ⟨b, off, e, hb⟩
 ·subst e;obtain ⟨A', c', q, _, hz, _⟩ := h.isB;cases q
  have := hz rfl;subst this;have hn0 : r.length = 0 := by omega
  have hr0 : r = [] := List.eq_nil_of_length_eq_zero hn0;subst hr0;have hk0 : k = 0 := by simp at hk; omega
  subst hk0;refine ⟨none, 0, ⟨⟨none, 0, by simp, fun q => absurd rfl q, fun _ => rfl, by simp, by omega⟩, by simp, .inl rfl⟩, (fun b e => by cases e), fun W => ?_⟩;simp [go_sem]
 ·subst e;refine ⟨_, _, ⟨lb_tail h.isB k hk, by rw [List.length_drop]; omega, .inr ⟨_, _, rfl, hb⟩⟩, (fun b' e => ⟨_, rfl, by cases e; rfl⟩), fun W => ?_⟩;by_cases hc : c = k
  ·subst hc;simp [go_sem, h1]
  ·simp [go_sem, h1, hc]
theorem LowB.pre {base : Nat} {A : Option Addr} {r : List Nat} (h : LowB w base A n c r) (hk : k <= n) :
  LowB w base A k c (r.take k) /\ ∀ W : World, (Instr.sliceAt 32 (.slice A n c) none (some (.int .i64 (k : Int))) none).run Tryz.prog W = .ok (.slice A k c) W := by
 have h0 : (0 : Int) <= (k : Int) := by omega
 have h1 : (k : Int) <= (n : Int) := by omega
 have hc9 := h.caps;have h2 : (k : Int) <= (c : Int) := by omega
 have hl := h.len;refine ⟨⟨h.isB.take k hk, by rw [List.length_take]; omega, h.low⟩, fun W => ?_⟩;rcases h.low with e | ⟨b, off, e, hb⟩
 ·subst e;obtain ⟨A', c', q, _, hz, _⟩ := h.isB;cases q
  have := hz rfl;subst this;have hk0 : k = 0 := by omega
  subst hk0;simp [go_sem]
 ·subst e;simp [go_sem, h0, h2]
end Go.Proofs.YtedlibkkeegnaaaGreat
namespace Go.Proofs.YtedlibkkeegnaaaGreat
open Go.RowKit
variable {w w' : World} {n c k b : Nat}
theorem drop_get {xs : List Nat} (h : k < xs.length) : xs.drop k = xs.getD k 0 :: xs.drop (k + 1) := by
 rw [List.drop_eq_getElem_cons h];simp [h]
theorem andNot128 (c : Nat) (h : c < 256) : bits .andNot .u8 (c : Int) 128 = ((c % 128 : Nat) : Int) := by
 rw [u8_andNot _ _ (by omega) (by omega) (by decide) (by decide)];have h2 : (128 : Int).toNat = 128 := rfl;rw [h2, Int.toNat_natCast];have : ∀ z, z < 256 -> z &&& (255 - 128) = z % 128 := by decide +kernel
 rw [this c h]
theorem or_read {v : Nat} (hk : k <= 9) (h9 : k = 9 -> c <= 1) (hv : v < 2 ^ (7 * k)) :
  bits .or .u64 (v : Int) ((c % 128 * 2 ^ (7 * k) : Nat) : Int) = ((v + c % 128 * 2 ^ (7 * k) : Nat) : Int) := by
 rw [u64_or_nat _ _ (by have := v_lt hk hv; omega) (sh_lt hk h9), Nat.or_comm, nat_join (7 * k) _ _ (Nat.mul_mod_left _ _) hv, Nat.add_comm]
theorem or_walk {v : Nat} (hk : k <= 9) (h9 : k = 9 -> c <= 1) (hv : v < 2 ^ (7 * k)) :
  bits .or .u64 (v : Int) (IntKind.u64.wrap ((c : Int) % 128 * 2 ^ (7 * k))) = ((v + c % 128 * 2 ^ (7 * k) : Nat) : Int) := by
 rw [<- or_read hk h9 hv];have e : ((c : Int) % 128 * 2 ^ (7 * k)) = ((c % 128 * 2 ^ (7 * k) : Nat) : Int) := by simp
 rw [e, IntKind.wrap_u64];have := sh_lt (c := c) hk h9;congr 1;omega
theorem or_zero (v : Nat) (hv : v < 9223372036854775808) : bits .or .u64 (v : Int) (IntKind.u64.wrap 0) = (v : Int) := by
 have e : IntKind.u64.wrap 0 = ((0 : Nat) : Int) := by decide
 rw [e, u64_or_nat _ _ (by omega) (by omega), Nat.or_zero]
theorem ret3 {a b c a' b' c' : Int} (h1 : a = a') (h2 : b = b') (h3 : c = c') : Ending.returned (.tuple #[.int .u64 a, .int .i64 b, .int .i64 c]) = .returned (.tuple #[.int .u64 a', .int .i64 b', .int .i64 c']) := by rw [h1, h2, h3]
set_option maxHeartbeats 1600000 in
set_option maxRecDepth 100000 in
theorem uread_any (A : Option Addr) (n c : Nat) (xs : List Nat) (w : World) (hA : Rd w A xs) (hn : n = xs.length) (hb : ∀ x ∈ xs, x < 256) (ln : n <= 9223372036854775807) :
  Calls Tryz.prog 64 #[.slice A n c] w fun e w' => e = .returned (.tuple #[.int .u64 ((rvl 0 0 xs).1 : Nat), .int .i64 ((rvl 0 0 xs).2.1 : Nat), .int .i64 ((rvl 0 0 xs).2.2 : Nat)]) /\ w = w' := by
 have HA := hide hA;have HN := hide hn;have HB := hide hb;clear hA hn hb;obtain ⟨r, hr⟩ : ∃ r, r = rvl 0 0 xs := ⟨_, rfl⟩;rw [<- hr];have HR := hide hr;clear hr;go_enter Tryz.func64, Tryz.ntmps64;go_wp2
 go_loop [5, 11] (fun s i => ∃ k v : Nat, k <= n /\ k <= 9 /\ i = .int .i64 (k : Int) /\ s = .int .u64 (v : Int) /\ Hid (v < 2 ^ (7 * k)) /\ Hid (r = rvl k v (xs.drop k))) (fun _ i => n - (intOf i).toNat)
 case atStart => exact ⟨0, 0, by omega, by omega, rfl, rfl, by unfold Hid; decide, HR.out⟩
 case round =>
  obtain ⟨k, v, hk, hk9, rfl, rfl, hv, hrv⟩ := hrel;by_cases hlt : k < n
  ·obtain ⟨b, off, rfl, hcell⟩ := HA.out (by intro e; rw [HN.out, e] at hlt; simp at hlt);obtain ⟨x, cx, lx, ex⟩ := rd_at hcell HB.out k (by rw [<- HN.out]; exact hlt);have hd := drop_get (xs := xs) (k := k) (by rw [<- HN.out]; exact hlt);rw [<- ex] at hd;have hrv := hrv.out;rw [hd] at hrv;clear hcell hd ex;have han := andNot128 x lx;have hv63 := v_lt hk9 hv.out;by_cases h1 : k = 9 /\ 1 < x
   ·obtain ⟨h9, h1⟩ := h1;rw [rvl_last h9 h1] at hrv;subst hrv;subst h9;by_cases h2 : 128 <= x
    ·go_wp2
     go_ret3;exact ⟨rfl, rfl⟩
    ·go_wp2
     go_ret3;exact ⟨rfl, rfl⟩
   ·have HOR := hide (or_walk (c := x) hk9 (by omega) hv.out);by_cases h2 : 128 <= x
    ·have h8 : k < 9 := by omega
     rw [rvl_more h8 h2] at hrv;have HV := hide (step_lt (c := x) hv.out);have HRV := hide hrv;clear hrv h1;go_wp2
     go_round
     case rel => exact ⟨k + 1, _, by omega, by omega, by go_num, by rw [HOR.out], HV, HRV⟩
     case measure => simp [intOf]; omega
    ·by_cases h0 : x = 0 /\ 0 < k
     ·obtain ⟨h0, h00⟩ := h0;rw [rvl_zero h0 h00] at hrv;subst hrv;subst h0;clear h1;by_cases h9 : k = 9
      ·subst h9;go_wp2
       go_ret3;exact ⟨rfl, rfl⟩
      ·go_wp2
       go_ret3;exact ⟨rfl, rfl⟩
     ·rw [rvl_end h1 (by omega) h0] at hrv;subst hrv;by_cases h9 : k = 9
      ·have hx : x = 1 := by omega
       subst hx;subst h9;clear h0 h1;go_wp2
       go_ret3;exact ⟨ret3 HOR.out (by omega) rfl, rfl⟩
      ·by_cases hk0 : k = 0
       ·have hk1 : k <= 0 := by omega
        clear h0 h1 hk0;by_cases hx : x = 0
        ·have hx1 : x <= 0 := by omega
         clear hx;go_wp2
         go_ret3;exact ⟨ret3 (or_zero v hv63) (by omega) rfl, rfl⟩
        ·go_wp2
         go_ret3;exact ⟨ret3 HOR.out (by omega) rfl, rfl⟩
       ·have hx : ¬ x = 0 := by omega
        clear h0 h1;go_wp2
        go_ret3;exact ⟨ret3 HOR.out (by omega) rfl, rfl⟩
  ·have hd : xs.drop k = [] := List.drop_of_length_le (by rw [<- HN.out]; omega);have hrv := hrv.out;rw [hd, rvl_nil] at hrv;subst hrv;clear hd;go_wp2
   go_ret3;exact ⟨rfl, rfl⟩
set_option maxHeartbeats 400000 in
theorem clone_any (A : Option Addr) (n c : Nat) (xs : List Nat) (w : World) (hA : IsB w (.slice A n c) xs) (hn : xs.length = n) (h3 : n <= 1099511627776) :
  Calls Tryz.prog 43 #[.slice A n c] w fun e w' => ∃ s, e = .returned s /\ Own w' w.heap.size s xs /\ Below w.heap.size w w' := by
 have HA := hide hA;have HN := hide hn;have q22 : ∀ (w : World) (a : Option Addr) (n c n' c' : Nat), (binOp .eql 32 (.slice a n c) (.slice none n' c')).run Tryz.prog w = .ok (.bool a.isNone) w := fun w a n c n' c' => Lib.run_eql_slice_nil w _ _ a n c n' c' Tryz.underlying32
 rcases A with _ | a
 ·have e0 : xs = [] := by
   rcases xs with _ | ⟨y, ys⟩
   ·rfl
   ·obtain ⟨_, _, e, _⟩ := hA.rd (by simp);cases e
  subst e0;have h0 : n = 0 := by simpa using hn.symm
  subst h0;clear hA hn;go_enter Tryz.func43, Tryz.ntmps43;go_wp2_with fail
  go_ret;exact ⟨_, rfl, World.ownsRow_nil _ _ _ _, Below.refl _ _⟩
 ·clear hA hn;have nb : Below w.heap.size w (w.alloc (.cells #[] 5)) := (Below.refl _ _).alloc (Nat.le_refl _) _;go_enter Tryz.func43, Tryz.ntmps43;go_wp2_with (at_builtin; refine halt ?_)
  refine ⟨?_⟩;refine wpList_append_bytes rfl (.tmp 5) (.tmp 6) rfl w.heap.size _ [] rfl (own_lit w #[] [] rfl (by decide)) _ xs rfl (HA.out.keep nb) (by rw [HN.out, List.length_nil]; omega) nb.size ?_;intro s1 w1 o1 k1;rw [List.nil_append] at o1;have O1 := hide o1;have K1 := hide (nb.trans k1);clear nb o1 k1;go_wp2_with fail
  go_ret;exact ⟨_, rfl, O1.out, K1.out⟩
def crcStep (s : Nat) : Nat := if s % 2 = 1 then s / 2 ^^^ 3988292384 else s / 2
def crcB (s : Nat) : Nat -> Nat
 | 0 => s
 | k + 1 => crcStep (crcB s k)
def crcF (s : Nat) (xs : List Nat) : Nat := xs.foldl (fun s c => crcB (s ^^^ c) 8) s
def sumS (xs : List Nat) : Nat := 4294967295 - crcF 4294967295 xs
theorem xor_lt32 {a : Nat} (ha : a < 4294967296) (hb : b < 4294967296) : a ^^^ b < 4294967296 := Nat.xor_lt_two_pow (n := 32) ha hb
theorem crcStep_lt {s : Nat} (h : s < 4294967296) : crcStep s < 4294967296 := by
 unfold crcStep;split
 ·exact xor_lt32 (by omega) (by decide)
 ·omega
theorem crcB_lt {s : Nat} (h : s < 4294967296) : ∀ k, crcB s k < 4294967296
 | 0 => h
 | k + 1 => crcStep_lt (crcB_lt h k)
theorem crcF_lt {s : Nat} (h : s < 4294967296) {xs : List Nat} (hx : ∀ x ∈ xs, x < 256) : crcF s xs < 4294967296 := by
 unfold crcF
 induction xs generalizing s with
 | nil => exact h
 | cons x xs ih =>
  rw [List.foldl_cons];exact ih (crcB_lt (xor_lt32 h (by have := hx x (by simp); omega)) 8) (fun y hy => hx y (by simp [hy]))
theorem crcF_snoc (s : Nat) (xs : List Nat) (k : Nat) (h : k < xs.length) : crcF s (xs.take (k + 1)) = crcB (crcF s (xs.take k) ^^^ xs.getD k 0) 8 := by
 unfold crcF;rw [List.take_succ_eq_append_getElem h, List.foldl_append];simp [h]
theorem and_one32 (x : Nat) (hx : x < 4294967296) : bits .and .u32 (x : Int) 1 = ((x % 2 : Nat) : Int) := by
 rw [u32_and _ _ (by omega) (by omega) (by decide) (by decide)];have : (1 : Int).toNat = 1 := rfl;rw [this, nat_mask1, Int.toNat_natCast]
theorem xor32 (a b : Nat) (ha : a < 4294967296) (hb : b < 4294967296) : bits .xor .u32 (a : Int) (b : Int) = ((a ^^^ b : Nat) : Int) := u32_xor_nat a b ha hb
theorem half_poly (t : Nat) (ht : t < 4294967296) (h : t % 2 = 1) : bits .xor .u32 ((t : Int) / 2) 3988292384 = (crcStep t : Nat) := by
 unfold crcStep;rw [if_pos h, <- xor32 (t / 2) 3988292384 (by omega) (by decide)];simp
theorem half_none (t : Nat) (ht : t < 4294967296) (h : t % 2 = 0) : bits .xor .u32 ((t : Int) / 2) 0 = (crcStep t : Nat) := by
 unfold crcStep;rw [if_neg (by omega)];have := xor32 (t / 2) 0 (by omega) (by decide);simpa using this
theorem not32 (a : Nat) (ha : a < 4294967296) : bits .xor .u32 IntKind.u32.max (a : Int) = ((4294967295 - a : Nat) : Int) := by
 show IntKind.u32.wrap ((BitVec.ofInt 32 IntKind.u32.max ^^^ BitVec.ofInt 32 (a : Int)).toNat : Int) = _
 have h1 : BitVec.ofInt 32 IntKind.u32.max = BitVec.allOnes 32 := by decide
 rw [h1, BitVec.allOnes_xor, BitVec.toNat_not, ofInt_u32 a (by omega), IntKind.wrap_u32];omega
theorem poly_none : bits .and .u32 3988292384 0 = 0 := by decide +kernel
theorem poly_all : bits .and .u32 3988292384 4294967295 = 3988292384 := by decide +kernel
set_option maxHeartbeats 400000 in
theorem sum_any (A : Option Addr) (n ca : Nat) (xs : List Nat) (w : World) (hA : Rd w A xs) (hn : n = xs.length) (hb : ∀ x ∈ xs, x < 256) (ln : n <= 9223372036854775807) :
  Calls Tryz.prog 110 #[.slice A n ca] w fun e w' => e = .returned (.int .u32 (sumS xs : Nat)) /\ w = w' := by
 have HN := hide hn;clear hn;have pn := poly_none;have pa := poly_all;go_enter Tryz.func110, Tryz.ntmps110;go_wp2
 go_loop [3, 8] (fun s i => ∃ k : Nat, k <= n /\ i = .int .i64 (k : Int) /\ s = .int .u32 (crcF 4294967295 (xs.take k) : Nat)) (fun _ i => n - (intOf i).toNat)
 case atStart => exact ⟨0, Nat.zero_le _, rfl, rfl⟩
 case round =>
  obtain ⟨k, hk, rfl, rfl⟩ := hrel;have hs := crcF_lt (s := 4294967295) (by decide) (xs := xs.take k) (fun x hx => hb x (List.mem_of_mem_take hx));by_cases hlt : k < n
  ·obtain ⟨b1, o1, rfl, c1⟩ := hA (by intro e; rw [HN.out, e] at hlt; simp at hlt);have k1 := c1 k (by rw [<- HN.out]; exact hlt);have hsn := crcF_snoc 4294967295 xs k (by rw [<- HN.out]; exact hlt);have hx : xs.getD k 0 < 256 := by
    have hl : k < xs.length := by rw [<- HN.out]; exact hlt
    have : xs.getD k 0 = xs[k] := by simp [hl]
    rw [this]; exact hb _ (List.getElem_mem hl)
   obtain ⟨x, hxe⟩ : ∃ x, x = xs.getD k 0 := ⟨_, rfl⟩;obtain ⟨s, hse⟩ : ∃ s, s = crcF 4294967295 (xs.take k) := ⟨_, rfl⟩;rw [<- hxe] at k1 hx hsn;rw [<- hse] at hs hsn ⊢;have HSN := hide hsn;clear hsn hxe hse c1 hA;have hxor := xor32 s x hs (by omega);have hs2 := xor_lt32 hs (show x < 4294967296 by omega);go_wp2
   go_loop [3, 16] (fun t i => ∃ j : Nat, j <= 8 /\ i = .int .i64 (j : Int) /\ t = .int .u32 (crcB (s ^^^ x) j : Nat)) (fun _ i => 8 - (intOf i).toNat)
   case atStart => exact ⟨0, Nat.zero_le _, rfl, rfl⟩
   case round =>
    obtain ⟨j, hj, rfl, rfl⟩ := hrel;have ht := crcB_lt hs2 j;by_cases hj8 : j < 8
    ·have hst : crcB (s ^^^ x) (j + 1) = crcStep (crcB (s ^^^ x) j) := rfl;obtain ⟨t, hte⟩ : ∃ t, t = crcB (s ^^^ x) j := ⟨_, rfl⟩;rw [<- hte] at ht hst ⊢;have HST := hide hst;clear hst hte;have h1 := and_one32 t ht;by_cases hodd : t % 2 = 1
     ·rw [hodd] at h1;have h2 := half_poly t ht hodd;go_wp2
      go_round
      case rel => exact ⟨j + 1, by omega, by go_num, by rw [HST.out]⟩
      case measure => simp [intOf]; omega
     ·have h0 : t % 2 = 0 := by omega
      rw [h0] at h1;have h2 := half_none t ht h0;go_wp2
      go_round
      case rel => exact ⟨j + 1, by omega, by go_num, by rw [HST.out]⟩
      case measure => simp [intOf]; omega
    ·obtain rfl : j = 8 := by omega
     go_wp2
     go_round
     case rel => exact ⟨k + 1, by omega, by go_num, by rw [HSN.out]⟩
     case measure => simp [intOf]; omega
  ·go_wp2
   go_ret;have he : xs.take k = xs := List.take_of_length_le (by rw [<- HN.out]; omega);rw [he] at hs;rw [he];exact ⟨ret_int (by unfold sumS; exact not32 _ hs), rfl⟩
def be32 (v : Nat) : List Nat := [v / 16777216 % 256, v / 65536 % 256, v / 256 % 256, v % 256]
theorem own_be32 (w : World) (v : Nat) (hv : v < 4294967296) :
  Own (w.alloc (.cells #[.int .u8 ((v : Int) / 16777216), .int .u8 ((v : Int) / 65536 % 256), .int .u8 ((v : Int) / 256 % 256), .int .u8 ((v : Int) % 256)] 5)) w.heap.size (.slice (some ⟨w.heap.size, 0, none⟩) 4 4) (be32 v) := by
 refine own_lit w _ (be32 v) ?_ (by unfold be32; simp);unfold be32;simp;omega
set_option maxHeartbeats 400000 in
theorem put32_any (x : Int) (v : Nat) (hx : x = (v : Int)) (w : World) (hv : v < 4294967296) :
  Calls Tryz.prog 115 #[.int .u32 x] w fun e w' => ∃ s, e = .returned s /\ Own w' w.heap.size s (be32 v) /\ Below w.heap.size w w' := by
 subst hx;go_enter Tryz.func115, Tryz.ntmps115;go_wp2
 go_ret;exact ⟨_, rfl, own_be32 w v hv, (Below.refl _ _).alloc (Nat.le_refl _) _⟩
def val32 (xs : List Nat) : Nat := xs.getD 0 0 * 16777216 + xs.getD 1 0 * 65536 + xs.getD 2 0 * 256 + xs.getD 3 0
theorem or_join (i x y : Nat) (hx : x % 2 ^ i = 0) (hy : y < 2 ^ i) (h1 : x < 4294967296) (h2 : y < 4294967296) : bits .or .u32 (x : Int) (y : Int) = ((x + y : Nat) : Int) := by
 rw [u32_or_nat x y h1 h2, nat_join i x y hx hy]
theorem get32_eq (x0 x1 x2 x3 : Nat) (h0 : x0 < 256) (h1 : x1 < 256) (h2 : x2 < 256) (h3 : x3 < 256) :
  bits .or .u32 (bits .or .u32 (bits .or .u32 ((x0 : Int) * 16777216) ((x1 : Int) * 65536)) ((x2 : Int) * 256)) (x3 : Int) = ((x0 * 16777216 + x1 * 65536 + x2 * 256 + x3 : Nat) : Int) := by
 have e0 : (x0 : Int) * 16777216 = ((x0 * 16777216 : Nat) : Int) := by simp
 have e1 : (x1 : Int) * 65536 = ((x1 * 65536 : Nat) : Int) := by simp
 have e2 : (x2 : Int) * 256 = ((x2 * 256 : Nat) : Int) := by simp
 rw [e0, e1, e2, or_join 24 _ _ (by omega) (by omega) (by omega) (by omega), or_join 16 _ _ (by omega) (by omega) (by omega) (by omega), or_join 8 _ _ (by omega) (by omega) (by omega) (by omega)]
set_option maxHeartbeats 800000 in
theorem get32_any (A : Option Addr) (n c : Nat) (xs : List Nat) (w : World) (hA : Rd w A xs) (hn : n = xs.length) (hb : ∀ x ∈ xs, x < 256) (h4 : 4 <= n) (ln : n <= 9223372036854775807) :
  Calls Tryz.prog 85 #[.slice A n c] w fun e w' => e = .returned (.tuple #[.int .u32 (val32 xs : Nat), .int .i64 0]) /\ ∃ d, w' = w.drewN d := by
 obtain ⟨b, off, rfl, hc⟩ := hA (by intro e; rw [e] at hn; simp at hn; omega);obtain ⟨x0, c0, l0, e0⟩ := rd_at hc hb 0 (by omega);obtain ⟨x1, c1, l1, e1⟩ := rd_at hc hb 1 (by omega);obtain ⟨x2, c2, l2, e2⟩ := rd_at hc hb 2 (by omega);obtain ⟨x3, c3, l3, e3⟩ := rd_at hc hb 3 (by omega);rw [Nat.add_zero] at c0;have E := hide (And.intro e0 (And.intro e1 (And.intro e2 e3)));clear hc e0 e1 e2 e3 hA;have HN := hide hn;clear hn hb;go_enter Tryz.func85, Tryz.ntmps85;go_wp2
 go_quiet (fail)
 go_wp2
 go_ret2;refine ⟨?_, nq, rfl⟩;have e := E.out;rw [get32_eq x0 x1 x2 x3 l0 l1 l2 l3];unfold val32;rw [<- e.1, <- e.2.1, <- e.2.2.1, <- e.2.2.2]
 rfl
theorem val32_be (v : Nat) (hv : v < 4294967296) (more : List Nat) : val32 (be32 v ++ more) = v := by
 unfold val32 be32;simp;omega
theorem be32_byte (v : Nat) : ∀ x ∈ be32 v, x < 256 := by unfold be32; intro x hx; simp at hx; omega
theorem be32_len (v : Nat) : (be32 v).length = 4 := rfl
def RdI (w : World) (A : Option Addr) (zs : List Int) : Prop :=
 zs ≠ [] -> ∃ b off, A = some ⟨b, off, none⟩ /\ ∀ i, i < zs.length -> w.cell? ⟨b, off + i, none⟩ = some (.int .i64 (zs.getD i 0))
def IsI (w : World) (v : Value) (zs : List Int) : Prop := ∃ A c, v = .slice A zs.length c /\ RdI w A zs /\ zs.length <= c /\ c <= 9223372036854775807
theorem RdI.below {A : Option Addr} {zs : List Int} (h : RdI w A zs) (hb : Below w.heap.size w w') : RdI w' A zs := by
 intro hne;obtain ⟨b, off, e, hc⟩ := h hne;exact ⟨b, off, e, fun i hi => (hb.cell (cell_lt (hc i hi))).trans (hc i hi)⟩
theorem IsI.keep {v : Value} {zs : List Int} (h : IsI w v zs) (hb : Below w.heap.size w w') : IsI w' v zs := by
 obtain ⟨A, c, e, hr, hn⟩ := h;exact ⟨A, c, e, hr.below hb, hn⟩
theorem IsI.drewN {v : Value} {zs : List Int} (h : IsI w v zs) (d : Nat) : IsI (w.drewN d) v zs := h
theorem IsI.rd {A : Option Addr} {zs : List Int} (h : IsI w (.slice A n c) zs) : RdI w A zs := by
 obtain ⟨A', c', e, r, _⟩ := h;cases e
 exact r
theorem IsI.len {A : Option Addr} {zs : List Int} (h : IsI w (.slice A n c) zs) : zs.length = n := by
 obtain ⟨A', c', e, r, _⟩ := h;cases e
 rfl
theorem IsI.caps {A : Option Addr} {zs : List Int} (h : IsI w (.slice A n c) zs) : n <= c /\ c <= 9223372036854775807 := by
 obtain ⟨_, _, e, _, h2⟩ := h;cases e
 exact h2
theorem IsI.form {v : Value} {zs : List Int} (h : IsI w v zs) (hn : zs.length = n) : ∃ A c, v = .slice A n c /\ IsI w (.slice A n c) zs /\ n <= c /\ c <= 9223372036854775807 := by
 subst hn;obtain ⟨A, c, e, r, h2, h3⟩ := h;exact ⟨A, c, e, ⟨A, c, rfl, r, h2, h3⟩, h2, h3⟩
theorem isI_nil (w : World) : IsI w (.slice none 0 0) [] := ⟨none, 0, rfl, fun h => absurd rfl h, Nat.zero_le _, by decide⟩
theorem IsRow.isI {a : Option Addr} {len cap : Nat} {zs : List Int} (h : IsRow .i64 w a len cap zs) :
  ∃ xs : List Int, xs.length = len /\ (∀ x ∈ xs, -9223372036854775808 <= x /\ x < 9223372036854775808) /\ IsI w (.slice a len cap) xs /\ len <= 9223372036854775807 := by
 rcases h with ⟨rfl, rfl, rfl, rfl⟩ | ⟨x, rfl, h1, h2, h3, hc, hw⟩
 ·exact ⟨[], rfl, by simp, isI_nil w, by decide⟩
 ·have hb : ∀ z ∈ zs, -9223372036854775808 <= z /\ z <= 9223372036854775807 := fun z hz => bounds_i64 (hw z hz)
  refine ⟨zs.take len, by simp; omega, ?_, ⟨some x, cap, by congr 1; simp; omega, ?_, by simp; omega, by unfold maxLen at h2; omega⟩, by unfold maxLen at h2; omega⟩
  ·intro y hy;have := hb y (List.mem_of_mem_take hy);omega
  ·intro hne;have hl : 0 < zs.length := by
    rcases zs with _ | ⟨z, zs⟩
    ·simp at hne
    ·simp
   obtain ⟨b, off, sp⟩ := x;have hs0 := hc 0 hl;have hsp : sp = none := by simpa [Addr.add] using World.cell?_spot hs0
   subst hsp;refine ⟨b, off, rfl, fun i hi => ?_⟩;have hi2 : i < len /\ i < zs.length := by simp at hi; omega
   have := hc i hi2.2;rw [add_off] at this;rw [this];simp [hi2.1, hi2.2]
def numsL : List Nat -> List Nat
 | [] => []
 | x :: r => uvl x ++ numsL r
theorem numsL_snoc (xs : List Nat) (x : Nat) : numsL (xs ++ [x]) = numsL xs ++ uvl x := by
 induction xs with
 | nil => simp [numsL]
 | cons y r ih => simp only [List.cons_append, numsL, ih, List.append_assoc]
theorem numsL_byte : ∀ xs, ∀ x ∈ numsL xs, x < 256
 | [], _, h => by cases h
 | y :: r, x, h => by
  rcases List.mem_append.1 (show x ∈ uvl y ++ numsL r from h) with h | h
  ·exact uvl_byte y x h
  ·exact numsL_byte r x h
theorem numsL_len : ∀ (xs : List Nat), (∀ x ∈ xs, x < 18446744073709551616) -> (numsL xs).length <= 10 * xs.length
 | [], _ => by simp [numsL]
 | y :: r, h => by
  have h1 := uvl_len64 y (h y (by simp));have h2 := numsL_len r (fun x hx => h x (by simp [hx]));simp only [numsL, List.length_append, List.length_cons];omega
set_option maxRecDepth 100000 in
set_option maxHeartbeats 1600000 in
theorem rnums_any (A : Option Addr) (n c : Nat) (xs : List Nat) (w : World) (hA : RdI w A (xs.map fun x : Nat => (x : Int))) (hn : xs.length = n) (hb : ∀ x ∈ xs, x < 9223372036854775808) (h8 : n <= 8) :
  Calls Tryz.prog 72 #[.slice A n c] w fun e w' => ∃ s, e = .returned s /\ Own w' w.heap.size s (numsL xs) /\ Below w.heap.size w w' := by
 have HA := hide hA;have HN := hide hn;have HB := hide hb;clear hA hn hb;go_enter Tryz.func72, Tryz.ntmps72;go_wp2_with fail
 go_loopw [3, 5, 8] (fun b _ i wr => ∃ j : Nat, j <= n /\ i = .int .i64 (j : Int) /\ Hid (Own wr w.heap.size b (numsL (xs.take j))) /\ Hid (Below w.heap.size w wr)) (fun _ _ i _ => n - (intOf i).toNat)
 case atStart => exact ⟨0, Nat.zero_le _, rfl, World.ownsRow_nil _ _ _ _, Below.refl _ _⟩
 case round =>
  obtain ⟨j, hj, rfl, HO, HK⟩ := hrel;by_cases hlt : j < n
  ·have hjx : j < xs.length := by rw [HN.out]; exact hlt
   obtain ⟨b, off, rfl, hcell⟩ := (HA.out.below (HK.out.mono (Nat.le_refl _))) (by intro e; rw [List.map_eq_nil_iff] at e; rw [e] at hjx; simp at hjx);have hc0 := hcell j (by simpa using hjx);obtain ⟨x, hx⟩ : ∃ x, x = xs[j] := ⟨_, rfl⟩;have hc : wr.cell? ⟨b, off + j, none⟩ = some (.int .i64 (x : Int)) := by
    rw [hc0, hx];simp [hjx]
   have hxb : x < 9223372036854775808 := by rw [hx]; exact HB.out _ (List.getElem_mem hjx)
   have hwz : IntKind.u64.wrap (x : Int) = (x : Int) := by rw [IntKind.wrap_u64]; omega
   have hs : Hid (numsL (xs.take j) ++ uvl x = numsL (xs.take (j + 1))) := hide (by rw [<- numsL_snoc, hx, List.take_append_getElem hjx]);have hl : (numsL (xs.take j)).length <= 100 := by
    have := numsL_len (xs.take j) (fun y hy => by have := HB.out y (List.mem_of_mem_take hy); omega);rw [List.length_take] at this;omega
   have hul := uvl_len64 x (by omega);clear hc0 hx hcell hjx;go_wp2_with fail
   refine (uvarint_any x _ (by omega)).mono ?_;rintro e w3 ⟨s3, rfl, o3, k3⟩;have I3 := hide o3.isB;have O3 := hide (HO.out.keep k3);have K3 := hide (HK.out.trans (k3.mono HK.out.size));clear o3 k3;go_wp2_with (at_builtin; refine halt ?_)
   refine ⟨?_⟩;refine wpList_append_bytes rfl (.tmp 12) (.tmp 15) rfl w.heap.size _ _ rfl O3.out _ _ rfl I3.out (by omega) K3.out.size ?_;intro s4 w4 o4 k4;rw [hs.out] at o4;have O4 := hide o4;have K4 := hide (K3.out.trans k4);clear o4 k4 O3 K3 I3;go_wp2_with fail
   go_roundw
   case rel => exact ⟨j + 1, by omega, by go_num, O4, K4⟩
   case measure => simp [intOf]; omega
  ·have hjn : j = n := by omega
   subst hjn;go_wp2_with fail
   go_ret;have h9 := HO.out;rw [List.take_of_length_le (by rw [HN.out]; exact Nat.le_refl _)] at h9;exact ⟨_, rfl, h9, HK.out⟩
end Go.Proofs.YtedlibkkeegnaaaGreat
