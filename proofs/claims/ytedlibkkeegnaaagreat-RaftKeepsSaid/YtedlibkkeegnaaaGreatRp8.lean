/- Numbers of both signs that the call gathers in a slice of its own, and an append to them. Condition: fewer than 2 to the 40. Rows and the blocks that they lie i -/
import Derived.Test.YtedlibkkeegnaaaGreatRp7
namespace Go.Proofs.YtedlibkkeegnaaaGreat
open Go.RowKit
variable {w w' : World} {B g n c : Nat}
def OwnN (w : World) (B : Nat) (v : Value) (zs : List Int) : Prop := w.ownsRow B 3 1 v zs.length (zs.map fun z : Int => Value.int .i64 z)
theorem OwnN.nil (w : World) (B : Nat) : OwnN w B (.slice none 0 0) [] := World.ownsRow_nil _ _ _ _
theorem ownsRow_turn {S : Nat -> Prop} {s : Nat} {e : TypeId} {v : Value} {l : List Value} (h : w.ownsRow B e s v n l) (t : Turn S w w') (ho : Off S v) : w'.ownsRow B e s v n l := by
 refine ⟨h.1, ?_⟩;rcases h.2 with hn | ⟨g, cap, cur, hv, h1, h2, r⟩
 ·exact .inl hn
 ·refine .inr ⟨g, cap, cur, hv, h1, ?_, r⟩;rw [t.block g (heap_lt h2) (ho g (by rw [hv]; rfl))];exact h2
theorem ownsRow_more {B' s : Nat} {e : TypeId} {v : Value} {l : List Value} (h : w.ownsRow B e s v n l) (hb : B' <= B) : w.ownsRow B' e s v n l := by
 refine ⟨h.1, ?_⟩;rcases h.2 with hn | ⟨g, cap, cur, hv, h1, r⟩
 ·exact .inl hn
 ·exact .inr ⟨g, cap, cur, hv, by omega, r⟩
theorem ownsRow_keep {s : Nat} {e : TypeId} {v : Value} {l : List Value} (h : w.ownsRow B e s v n l) (k : Below w.heap.size w w') : w'.ownsRow B e s v n l :=
 ownsRow_turn (S := fun _ => False) h (Turn.of_below _ k) (fun _ _ => id)
theorem ownsRow_apart {B' n' s s' : Nat} {e e' : TypeId} {v u : Value} {l l' : List Value} (h : w.ownsRow B e s v n l) (k : w.ownsRow B' e' s' u n' l') (hne : e ≠ e') (hg : w.grownBy w' u.ownBlock) : w'.ownsRow B e s v n l := by
 refine World.ownsRow.kept h hg ?_;rcases h.2 with ⟨rfl, _⟩ | ⟨g, cap, cur, rfl, _, hh, _⟩
 ·exact .inl rfl
 ·right
  rcases k.2 with ⟨rfl, _⟩ | ⟨g', cap', cur', rfl, _, hh', _⟩
  ·intro e; cases e
  ·intro e;have e' : g = g' := by simpa [Value.ownBlock] using e
   subst e';rw [hh] at hh';simp only [Option.some.injEq, Obj.cells.injEq] at hh';exact hne hh'.2.1
theorem ownsRow_blk {B' s : Nat} {e e' : TypeId} {v : Value} {l cs : List Value} (h : w.ownsRow B e s v n l) (k : Blk w B' e' g cs) (hne : e ≠ e') : v.ownBlock ≠ some g := by
 rcases h.2 with ⟨rfl, _⟩ | ⟨g', cap, cur, rfl, _, hh, _⟩
 ·intro e; cases e
 ·intro e;have e2 : g' = g := by simpa [Value.ownBlock] using e
  subst e2;obtain ⟨_, c3, h3, _⟩ := k;rw [hh] at h3;simp only [Option.some.injEq, Obj.cells.injEq] at h3;exact hne h3.2.1
theorem OwnN.keep {v : Value} {zs : List Int} (h : OwnN w B v zs) (k : Below w.heap.size w w') : OwnN w' B v zs := ownsRow_keep h k
theorem OwnN.more {B' : Nat} {v : Value} {zs : List Int} (h : OwnN w B v zs) (hb : B' <= B) : OwnN w B' v zs := ownsRow_more h hb
theorem OwnN.isI {v : Value} {zs : List Int} (h : OwnN w B v zs) : IsI w v zs := by
 unfold OwnN at h;rcases h.2 with ⟨rfl, hn⟩ | ⟨g, cap, cur, rfl, _, _, c1, c2, _⟩
 ·rw [List.eq_nil_of_length_eq_zero hn];exact isI_nil w
 ·refine ⟨_, _, rfl, fun _ => ⟨g, 0, rfl, fun i hi => ?_⟩, c1, by unfold maxLen at c2; omega⟩;rw [Nat.zero_add, h.cellAt i (by omega)];simp [hi]
theorem OwnN.empty (w : World) : OwnN (w.alloc (.cells #[] 3)) w.heap.size (.slice (some ⟨w.heap.size, 0, none⟩) 0 0) [] := by
 unfold OwnN;exact ⟨rfl, .inr ⟨_, 0, #[], rfl, Nat.le_refl _, heap_alloc_new w _, Nat.le_refl _, Nat.zero_le _, rfl, rfl⟩⟩
theorem OwnN.stored {zs : List Int} (h : OwnN w B (.slice (some ⟨g, 0, none⟩) n c) zs) (hn : zs.length = n) (k : Nat) (z : Int) :
  OwnN (w.setCell ⟨g, k, none⟩ (.int .i64 z)) B (.slice (some ⟨g, 0, none⟩) n c) (zs.set k z) := by
 subst hn;unfold OwnN at h ⊢;have := (World.ownsRow.stored h k (.int .i64 z)).1;simpa [List.map_set] using this
theorem OwnN.at_ {v : Value} {zs : List Int} (h : OwnN w B v zs) (hn : zs.length = n) (h1 : 1 <= n) :
  ∃ g c, v = .slice (some ⟨g, 0, none⟩) n c /\ B <= g /\ n <= c /\ c <= 9223372036854775807 /\ (∀ k, k < n -> w.cell? ⟨g, k, none⟩ = some (.int .i64 (zs.getD k 0))) /\ ∀ k, w.frozen? ⟨g, k, none⟩ = false := by
 subst hn;have h0 := h;unfold OwnN at h;rcases h.2 with ⟨rfl, hn⟩ | ⟨g, cap, cur, rfl, hb, hg, hc, hm, _⟩
 ·omega
 ·refine ⟨g, cap, rfl, hb, hc, by unfold maxLen at hm; omega, fun k hk => ?_, fun k => World.ownsRow.frozenAt h k⟩;rw [World.ownsRow.cellAt h k (by omega)];simp [hk]
theorem Tryz.info_i64z : (Tryz.prog.info? 3).map (fun i => (i.zero, i.size, i.bytes)) = some (some (.int .i64 0), 1, 8) := by kernel_rfl
theorem IsI.none {zs : List Int} (h : IsI w (.slice none n c) zs) : zs = [] := by
 rcases zs with _ | ⟨y, ys⟩
 ·rfl
 ·obtain ⟨_, _, e, _⟩ := h.rd (by simp);cases e
end Go.Proofs.YtedlibkkeegnaaaGreat
namespace Go.Proofs.YtedlibkkeegnaaaGreat
open Go.RowKit Go.Maps
variable {w : World} {B g n : Nat}
theorem row_typed {s : Nat} {e : TypeId} {v : Value} {l : List Value} (h : w.ownsRow B e s v n l) (hv : v.ownBlock = some g) : ∃ cur, w.heap[g]? = some (.cells cur e (0, 0)) := by
 rcases h.2 with ⟨rfl, _⟩ | ⟨g', cap, cur, rfl, _, hh, _⟩
 ·cases hv
 ·have e' : g' = g := by simpa [Value.ownBlock] using hv
  subst e';exact ⟨_, hh⟩
theorem row_form {s : Nat} {e : TypeId} {v : Value} {l : List Value} (h : w.ownsRow B e s v n l) : ∃ A c, v = .slice A n c := by
 rcases h.2 with ⟨rfl, hn⟩ | ⟨g, cap, cur, rfl, _⟩
 ·exact ⟨none, 0, by rw [hn]⟩
 ·exact ⟨_, cap, rfl⟩
theorem ownsRow_notIn {z : Nat} {v : Value} {l cs : List Value} {e e' : TypeId} (h : w.ownsRow B e z v n l) (hb : Blk w 0 e' g cs) (hne : e ≠ e') : v.ownBlock ≠ some g := by
 intro q;rcases h.2 with ⟨rfl, _⟩ | ⟨g', cap, cur, rfl, _, hh, _⟩
 ·cases q
 ·have e2 : g' = g := by simpa [Value.ownBlock] using q
  subst e2;obtain ⟨_, cur', h2, _⟩ := hb;rw [hh] at h2;simp only [Option.some.injEq, Obj.cells.injEq] at h2;exact hne h2.2.1
theorem wp_append_own_at {P : Program} {o : Oper} {a : Act} {K : Act -> World -> Prop} {Q : Exit -> Act -> World -> Prop} (s x : Operand) (t : TypeId)
  (ho : o.op = .call { callee := .builtin .append, args := #[s, x], argTypes := #[t, t] })
  (base : Nat) (e : TypeId) (i : TypeInfo) (z : Value) (size bytes : Nat) (ht : P.underlying t = some (.slice e)) (hi : P.info? e = some i) (hz : i.zero = some z)
  (hsize : i.size = size) (hby : i.bytes = bytes) (hzs : z.cells.size = size) (hsz : 0 < size)
  (v : Value) (n : Nat) (xs : List Value) (hs : a.eval s = v) (hown : w.ownsRow base e size v n xs)
  (ad : Addr) (m c : Nat) (news : List Value) (hx : a.eval x = .slice (some ad) m c) (hl : news.length = m * size) (hnews : ∀ j u, news[j]? = some u -> w.cell? (ad.add j) = some u) (h1 : ∀ u ∈ news, u.oneCell' = true)
  (h63 : n + m <= maxLen) (hbytes : (n + m) * bytes <= 140737488355328) (hbase : base <= w.heap.size)
  (h : ∀ v' w', w'.ownsRow base e size v' (n + m) (xs ++ news) -> w.grownBy w' v.ownBlock -> (v'.ownBlock = v.ownBlock \/ v'.ownBlock = some w.heap.size) -> K (a.put o.dst v') w') : o.wp P a w K Q := by
 obtain ⟨v', w', hr, h2, h3, _, h4⟩ := run_append_own_at (P := P) w base t o.type e i z size bytes ht hi hz hsize hby hzs hsz v n xs hown ad m c news hl hnews h1 h63 hbytes hbase;unfold Oper.wp execOp;simp only [ho, resolve, invoke, builtin, Sem.run_bind, Sem.run_pure, Result.andThen_ok, List.map_toArray, List.map_cons, List.map_nil, hs, hx, hr];exact h v' w' h2 h3 h4
theorem step_append_num {ops : Array Oper} {o : Oper} {a : Act} {K : Act -> World -> Prop} {Q : Exit -> Act -> World -> Prop} {E : Prop} (hgd : o.guard = none) (s x : Operand)
  (ho : o.op = .call { callee := .builtin .append, args := #[s, x], argTypes := #[31, 31] })
  (B : Nat) (v : Value) (zs : List Int) (hs : a.eval s = v) (hown : OwnN w B v zs)
  (b : Nat) (z : Int) (hx : a.eval x = .slice (some ⟨b, 0, none⟩) 1 1) (h0 : w.cell? ⟨b, 0, none⟩ = some (.int .i64 z))
  (hlen : zs.length + 1 <= 1099511627776) (hbase : B <= w.heap.size)
  (h : ∀ v' w', OwnN w' B v' (zs ++ [z]) -> w.grownBy w' v.ownBlock -> (v'.ownBlock = v.ownBlock \/ v'.ownBlock = some w.heap.size) -> K (a.put o.dst v') w') : if Region.wanted o (yielded ops a.tmps) = true then Oper.wp Tryz.prog o a w K Q else E := by
 have hw : Region.wanted o (yielded ops a.tmps) = true := by simp [Region.wanted, hgd]
 rw [if_pos hw];obtain ⟨i0, hi, hz0, hz1, hz2⟩ := info_parts Tryz.info_i64z;refine wp_append_own_at s x _ ho B 3 i0 _ 1 8 Tryz.underlying31 hi hz0 hz1 hz2 rfl (by decide) v _ _ hs hown ⟨b, 0, none⟩ 1 1 [.int .i64 z] hx rfl ?_ ?_ (by unfold maxLen; omega) (by omega) hbase ?_
 ·intro j u hj
  match j, hj with
  | 0, hj => simp at hj; subst hj; simpa [Addr.add] using h0
 ·intro u hu;simp at hu;subst hu
  rfl
 ·intro v' w' k1 k2 k3;refine h v' w' ?_ k2 k3;unfold OwnN;rw [List.length_append, List.map_append];exact k1
end Go.Proofs.YtedlibkkeegnaaaGreat
namespace Go.Proofs.YtedlibkkeegnaaaGreat
open Go.RowKit
variable {w w' : World} {F F' : Nat -> Prop} {i b : Nat}
theorem wpList_append_at {ops : Array Oper} {rest : List Oper} {o : Oper} {a : Act} {Q : Exit -> Act -> World -> Prop} (hgd : o.guard = none) (s x : Operand)
  (ho : o.op = .call { callee := .builtin .append, args := #[s, x], argTypes := #[32, 32] })
  (B : Nat) (v : Value) (xs : List Nat) (hs : a.eval s = v) (hown : Own w B v xs)
  (u : Value) (ys : List Nat) (hx : a.eval x = u) (hr : IsB w u ys)
  (hlen : xs.length + ys.length <= 140737488355328) (hbase : B <= w.heap.size)
  (h : ∀ v' w', Own w' B v' (xs ++ ys) -> w.grownBy w' v.ownBlock -> (v'.ownBlock = v.ownBlock \/ v'.ownBlock = some w.heap.size) -> wpList Tryz.prog ops Q rest (a.put o.dst v') w') : wpList Tryz.prog ops Q (o :: rest) a w := by
 obtain ⟨i0, hi, hz0, hz1, hz2⟩ := info_parts Tryz.info_u8';obtain ⟨A, c, rfl, hr, hn, _⟩ := hr;have fin : ∀ v' w', w'.ownsRow B 5 1 v' (xs.length + ys.length) ((xs.map fun x : Nat => Value.int .u8 (x : Int)) ++ (ys.map fun x : Nat => Value.int .u8 (x : Int))) -> w.grownBy w' v.ownBlock -> (v'.ownBlock = v.ownBlock \/ v'.ownBlock = some w.heap.size) -> wpList Tryz.prog ops Q rest (a.put o.dst v') w' := by
  intro v' w' hown' hg hl;exact h v' w' (by unfold Own; simpa using hown') hg hl
 rcases A with _ | ad
 ·have h0 := hn rfl;subst h0;have hys : ys = [] := by
   rcases ys with _ | ⟨y, ys⟩
   ·rfl
   ·obtain ⟨_, _, e, _⟩ := hr (by simp);cases e
  subst hys;exact wpList_append_own_none hgd s x _ ho B 5 i0 1 Tryz.underlying32 hi v _ _ hs hown hx (fin v w (by simpa [Own] using hown) (World.grownBy.refl w _) (.inl rfl))
 ·refine wpList_append_own_at w hgd s x _ ho B 5 i0 (.int .u8 0) 1 1 Tryz.underlying32 hi hz0 hz1 hz2 rfl (by decide) v _ _ hs hown ad ys.length c (ys.map fun x : Nat => Value.int .u8 (x : Int)) hx (by simp) ?_ ?_ (by unfold maxLen; omega) (by omega) hbase (fun v' w' h1 h2 _ h4 => fin v' w' h1 h2 h4)
  ·intro j u hu;have hj : j < ys.length := by
    rcases Nat.lt_or_ge j ys.length with h | h
    ·exact h
    ·simp [h] at hu
   obtain ⟨b, off, e, hc⟩ := hr (by intro e; rw [e] at hj; simp at hj);cases e
   have := hc j hj;simp [hj] at hu;subst hu;simpa [add_off, hj] using this
  ·intro u hu;simp at hu;obtain ⟨y, _, rfl⟩ := hu
   rfl
theorem Next.far (n : Next F w F' w') (hb : b < w.heap.size) (hn : ¬ F b) : w'.cell? ⟨b, i, none⟩ = w.cell? ⟨b, i, none⟩ := by
 have := n.turn.block b hb hn;unfold World.cell?;simp only [this]
theorem below_drew (w : World) : Below w.heap.size w w.drew := ⟨rfl, rfl, rfl, Nat.le_refl _, fun _ _ => rfl⟩
end Go.Proofs.YtedlibkkeegnaaaGreat
namespace Go.Proofs.YtedlibkkeegnaaaGreat
open Go.RowKit Go.Maps
variable {w w' : World}
theorem append_old {P : Program} (base : Nat) (t ty e : TypeId) (i : TypeInfo) (z : Value) (size bytes : Nat) (ht : P.underlying t = some (.slice e)) (hi : P.info? e = some i) (hz : i.zero = some z)
  (hsize : i.size = size) (hby : i.bytes = bytes) (hsz : 0 < size)
  (v : Value) (n : Nat) (xs : List Value) (hown : w.ownsRow base e size v n xs)
  (a : Addr) (m c : Nat) (news : List Value) (hl : news.length = m * size) (hnews : ∀ j u, news[j]? = some u -> w.cell? (a.add j) = some u) (h1 : ∀ u ∈ news, u.oneCell' = true)
  (h63 : n + m <= maxLen) (hbytes : (n + m) * bytes <= 140737488355328) {v' : Value} {w' : World}
  (hr : (Builtin.append_ #[t, t] ty #[v, .slice (some a) m c]).run P w = .ok v' w') : w'.ownsRow base e size v n xs := by
 subst hsize;subst hby;have hsmall : n + m <= 9223372036854775807 := by simp only [maxLen] at h63; omega
 rcases hown.2 with ⟨rfl, rfl⟩ | ⟨g, cap, cur, rfl, hbg, hg, hnc, hcm, hcs, htake⟩
 ·exact ⟨hown.1, .inl ⟨rfl, rfl⟩⟩
 ·by_cases hroom : n + m <= cap
  ·have hfit : n * i.size + news.length <= cur.size := by rw [hl, hcs, <- Nat.add_mul]; exact Nat.mul_le_mul_right _ hroom
   have hr2 := run_append_room (P := P) w t ty e i ht hi g n cap cur hg a m c news hl hnews h1 hroom hfit;rw [hr2] at hr;cases hr
   refine ⟨hown.1, .inr ⟨g, cap, _, rfl, hbg, setRow_heap w g cur _ e _ hg, hnc, hcm, ?_, ?_⟩⟩
   ·simp only [List.size_toArray, List.length_append, List.length_take, List.length_drop, Array.length_toList];omega
   ·have hlx : (cur.toList.take (n * i.size)).length = n * i.size := by rw [List.length_take, Array.length_toList]; omega
    show List.take (n * i.size) (cur.toList.take (n * i.size) ++ news ++ cur.toList.drop (n * i.size + news.length)) = xs
    rw [List.append_assoc, List.take_left' hlx];exact htake
  ·have holds : ∀ j u, xs[j]? = some u -> w.cell? ((⟨g, 0, none⟩ : Addr).add j) = some u := hown.cells (g := g) rfl;have hr2 := run_append_grow (P := P) w t ty e i z ht hi hz ⟨g, 0, none⟩ n cap xs hown.1 holds a m c news hl hnews (by omega) (by omega) (growslice_fits (by omega) hbytes);rw [hr2] at hr;cases hr
   refine ⟨hown.1, .inr ⟨g, cap, cur, rfl, hbg, ?_, hnc, hcm, hcs, htake⟩⟩;rw [heap_alloc_old w.drew _ (heap_lt hg)];exact hg
end Go.Proofs.YtedlibkkeegnaaaGreat
namespace Go.Proofs.YtedlibkkeegnaaaGreat
open Go.RowKit
variable {w w' : World} {F F' : Nat -> Prop} {B g n c k : Nat}
structure Boxes (w : World) (a b c e d : Nat) (t s : ByteArray) (R : Value) : Prop where
 disk : w.cell? ⟨a, 0, none⟩ = some (.pointer (some ⟨d, 0, none⟩))
 draft : w.cell? ⟨b, 0, none⟩ = some (.string t)
 record : w.cell? ⟨c, 0, none⟩ = some R
 name : w.cell? ⟨e, 0, none⟩ = some (.string s)
structure Funcs (w : World) (g a b c e : Nat) : Prop where
 f0 : w.cell? ⟨g, 0, none⟩ = some (.func (.func 116) #[] #[.pointer (some ⟨a, 0, none⟩), .pointer (some ⟨b, 0, none⟩)])
 f1 : w.cell? ⟨g, 1, none⟩ = some (.func (.func 117) #[] #[.pointer (some ⟨a, 0, none⟩), .pointer (some ⟨b, 0, none⟩), .pointer (some ⟨c, 0, none⟩)])
 f2 : w.cell? ⟨g, 2, none⟩ = some (.func (.func 119) #[] #[.pointer (some ⟨a, 0, none⟩), .pointer (some ⟨b, 0, none⟩)])
 f3 : w.cell? ⟨g, 3, none⟩ = some (.func (.func 120) #[] #[.pointer (some ⟨a, 0, none⟩), .pointer (some ⟨b, 0, none⟩), .pointer (some ⟨e, 0, none⟩)])
theorem size_alloc1 (w : World) (o : Obj) : (w.alloc o).heap.size = w.heap.size + 1 := by simp
theorem new_cell (w : World) (cs : Array Value) (t : TypeId) (b i : Nat) (v : Value) (hb : b = w.heap.size) (h : cs[i]? = some v) : (w.alloc (.cells cs t)).cell? ⟨b, i, none⟩ = some v := by
 subst hb;rw [<- h];exact cell_of_row _ _ _ _ _ (0, 0) (heap_alloc_new w _)
theorem old_cell (w : World) (o : Obj) {p : Addr} {v : Value} (h : w.cell? p = some v) : (w.alloc o).cell? p = some v := ((below_alloc w o).cell (cell_lt h)).trans h
set_option maxHeartbeats 1600000 in
theorem steps_any (d : Nat) (s : ByteArray) (P : Option Addr) (m cp : Nat) (w : World) (hs : s.size <= 64) :
  Calls Tryz.prog 99 #[.pointer (some ⟨d, 0, none⟩), .string s, .slice P m cp] w fun ex w' => ∃ g a b c e, ex = .returned (.slice (some ⟨g, 0, none⟩) 4 4) /\ Boxes w' a b c e d (s ++ ⟨#[126]⟩) s (.slice P m cp) /\ Funcs w' g a b c e /\
   (w.heap.size <= a /\ w.heap.size <= b /\ w.heap.size <= c /\ w.heap.size <= e /\ w.heap.size <= g) /\ Below w.heap.size w w' := by
 go_enter Tryz.func99, Tryz.ntmps99;go_wp2_with fail
 refine bodyPost_ret (v := ?v) ?h1 ?h2 ?h3
 case h2 => rfl
 case h1 => exact results_tmp (fn := Tryz.f99) (t := 6) rfl _ _ _
 refine ⟨w.heap.size + 1 + 1 + 1 + 1, w.heap.size, w.heap.size + 1 + 1 + 1, w.heap.size + 1 + 1, w.heap.size + 1, rfl, ⟨?_, ?_, ?_, ?_⟩, ⟨?_, ?_, ?_, ?_⟩, ⟨by omega, by omega, by omega, by omega, by omega⟩, ?_⟩
 ·exact old_cell _ _ (old_cell _ _ (old_cell _ _ (old_cell _ _ (new_cell _ _ _ _ _ _ rfl rfl))))
 ·exact old_cell _ _ (new_cell _ _ _ _ _ _ (by simp only [size_alloc1]) rfl)
 ·exact old_cell _ _ (old_cell _ _ (new_cell _ _ _ _ _ _ (by simp only [size_alloc1]) rfl))
 ·exact old_cell _ _ (old_cell _ _ (old_cell _ _ (new_cell _ _ _ _ _ _ (by simp only [size_alloc1]) rfl)))
 ·exact new_cell _ _ _ _ _ _ (by simp only [size_alloc1]) rfl
 ·exact new_cell _ _ _ _ _ _ (by simp only [size_alloc1]) rfl
 ·exact new_cell _ _ _ _ _ _ (by simp only [size_alloc1]) rfl
 ·exact new_cell _ _ _ _ _ _ (by simp only [size_alloc1]) rfl
 ·exact below_step (below_step (below_step (below_step (below_alloc w _) (below_alloc _ _)) (below_alloc _ _)) (below_alloc _ _)) (below_alloc _ _)
structure Itm where
 f : Int
 t : Int
 k : Int
 u : Value
 v : Value
 zs : List Int
 d : List Nat
def Itm.says (q : Itm) : Int × Int × Int × List Int × List Nat := (q.f, q.t, q.k, q.zs, q.d)
def Itm.five (q : Itm) : List Value := [.int .i64 q.f, .int .i64 q.t, .int .i64 q.k, q.u, q.v]
def cellsM : List Itm -> List Value
 | [] => []
 | q :: r => .int .i64 q.f :: .int .i64 q.t :: .int .i64 q.k :: q.u :: q.v :: cellsM r
theorem cellsM_length : ∀ X : List Itm, (cellsM X).length = X.length * 5
 | [] => rfl
 | q :: r => by simp only [cellsM, List.length_cons, cellsM_length r]; omega
theorem cellsM_append : ∀ X Y : List Itm, cellsM (X ++ Y) = cellsM X ++ cellsM Y
 | [], _ => rfl
 | q :: r, Y => by simp [cellsM, cellsM_append r Y]
theorem cellsM_at : ∀ (X : List Itm) (i : Nat) (h : i < X.length), (cellsM X)[i * 5]? = some (.int .i64 X[i].f) /\ (cellsM X)[i * 5 + 1]? = some (.int .i64 X[i].t) /\ (cellsM X)[i * 5 + 2]? = some (.int .i64 X[i].k) /\ (cellsM X)[i * 5 + 3]? = some X[i].u /\ (cellsM X)[i * 5 + 4]? = some X[i].v
 | q :: r, 0, _ => by simp [cellsM]
 | q :: r, i + 1, h => by
  have h' : i < r.length := by simpa using h
  obtain ⟨h0, h1, h2, h3, h4⟩ := cellsM_at r i h';have e : ∀ j, (i + 1) * 5 + j = i * 5 + j + 1 + 1 + 1 + 1 + 1 := by intro j; omega
  have e0 : (i + 1) * 5 = i * 5 + 1 + 1 + 1 + 1 + 1 := by omega
  rw [e 1, e 2, e 3, e 4, e0];simp only [cellsM, List.getElem?_cons_succ, List.getElem_cons_succ];exact ⟨h0, h1, h2, h3, h4⟩
theorem cellsM_take (X : List Itm) (i : Nat) (hi : i <= X.length) : cellsM (X.take i) = (cellsM X).take (i * 5) := by
 have h := cellsM_append (X.take i) (X.drop i);rw [List.take_append_drop] at h;rw [h, List.take_left'];rw [cellsM_length, List.length_take];congr 1;omega
theorem cellsM_drop (X : List Itm) (i : Nat) (hi : i <= X.length) : cellsM (X.drop i) = (cellsM X).drop (i * 5) := by
 have h := cellsM_append (X.take i) (X.drop i);rw [List.take_append_drop] at h;rw [h, List.drop_left'];rw [cellsM_length, List.length_take];congr 1;omega
def OwnM (w : World) (B : Nat) (v : Value) (X : List Itm) : Prop := w.ownsRow B 34 5 v X.length (cellsM X)
theorem OwnM.nil (w : World) (B : Nat) : OwnM w B (.slice none 0 0) [] := World.ownsRow_nil _ _ _ _
structure Good (w : World) (F : Nat -> Prop) (q : Itm) : Prop where
 ou : OwnN w 0 q.u q.zs
 ov : Own w 0 q.v q.d
 fu : ∀ g, q.u.ownBlock = some g -> F g
 fv : ∀ g, q.v.ownBlock = some g -> F g
 lu : q.zs.length <= 1099511627776
 lv : q.d.length <= 1099511627776
theorem Good.turn {S : Nat -> Prop} {q : Itm} (h : Good w F q) (t : Turn S w w') (hS : ∀ g, F g -> ¬ S g) : Good w' F q :=
 ⟨ownsRow_turn h.ou t (fun g hg => hS g (h.fu g hg)), ownsRow_turn h.ov t (fun g hg => hS g (h.fv g hg)), h.fu, h.fv, h.lu, h.lv⟩
theorem Good.below {q : Itm} (h : Good w F q) (k : Below w.heap.size w w') : Good w' F q := h.turn (S := fun _ => False) (Turn.of_below _ k) (fun _ _ => id)
theorem Good.more {q : Itm} (h : Good w F q) (hF : ∀ g, F g -> F' g) : Good w F' q := ⟨h.ou, h.ov, fun g hg => hF g (h.fu g hg), fun g hg => hF g (h.fv g hg), h.lu, h.lv⟩
theorem Good.row {q : Itm} {s : Nat} {e : TypeId} {v : Value} {l : List Value} (h : Good w F q) (hr : w.ownsRow B e s v n l) (h1 : 3 ≠ e) (h2 : 5 ≠ e) (hg : w.grownBy w' v.ownBlock) : Good w' F q :=
 ⟨ownsRow_apart h.ou hr h1 hg, ownsRow_apart h.ov hr h2 hg, h.fu, h.fv, h.lu, h.lv⟩
theorem Good.blk {q : Itm} {e : TypeId} {l : List Value} (h : Good w F q) (hb : Blk w B e g l) (h1 : 3 ≠ e) (h2 : 5 ≠ e) (hg : w.grownBy w' (some g)) : Good w' F q :=
 ⟨World.ownsRow.kept h.ou hg (.inr (ownsRow_blk h.ou hb h1)), World.ownsRow.kept h.ov hg (.inr (ownsRow_blk h.ov hb h2)), h.fu, h.fv, h.lu, h.lv⟩
structure NShell (e : TypeId) (w : World) (F : Nat -> Prop) (g : Nat) (v : Value) (X : List Itm) : Prop where
 cells : Blk w 0 e g [v]
 row : OwnM w 0 v X
 mine : ∀ b, v.ownBlock = some b -> F b
 own : F g
 low : ∀ k, F k -> k < w.heap.size
 each : ∀ q ∈ X, Good w F q
 most : X.length <= 4096
theorem NShell.turn {S : Nat -> Prop} {e : TypeId} {v : Value} {X : List Itm} (h : NShell e w F g v X) (t : Turn S w w') (hS : ∀ k, F k -> ¬ S k) : NShell e w' F g v X :=
 ⟨h.cells.turn t (hS g h.own), ownsRow_turn h.row t (fun b hb => hS b (h.mine b hb)), h.mine, h.own, fun k hk => Nat.lt_of_lt_of_le (h.low k hk) t.size, fun q hq => (h.each q hq).turn t hS, h.most⟩
theorem NShell.below {e : TypeId} {v : Value} {X : List Itm} (h : NShell e w F g v X) (k : Below w.heap.size w w') : NShell e w' F g v X := h.turn (S := fun _ => False) (Turn.of_below _ k) (fun _ _ => id)
theorem NShell.more {e : TypeId} {v : Value} {X : List Itm} (h : NShell e w F g v X) (hF : ∀ k, F k -> F' k) (hl : ∀ k, F' k -> k < w.heap.size) : NShell e w F' g v X :=
 ⟨h.cells, h.row, fun b hb => hF b (h.mine b hb), hF g h.own, hl, fun q hq => (h.each q hq).more hF, h.most⟩
theorem OwnM.form {v : Value} {X : List Itm} (h : OwnM w 0 v X) : ∃ A c, v = .slice A X.length c /\ X.length <= c /\ c <= 9223372036854775807 /\ (A = none -> c = 0) /\
  ∀ i (hi : i < X.length), ∃ g, A = some ⟨g, 0, none⟩ /\ v.ownBlock = some g /\ g < w.heap.size /\ w.cell? ⟨g, i * 5, none⟩ = some (.int .i64 X[i].f) /\ w.cell? ⟨g, i * 5 + 1, none⟩ = some (.int .i64 X[i].t) /\ w.cell? ⟨g, i * 5 + 2, none⟩ = some (.int .i64 X[i].k) /\ w.cell? ⟨g, i * 5 + 3, none⟩ = some X[i].u /\ w.cell? ⟨g, i * 5 + 4, none⟩ = some X[i].v /\ ∀ j, w.frozen? ⟨g, j, none⟩ = false := by
 have hr := h;unfold OwnM at hr;rcases hr.2 with ⟨rfl, hn⟩ | ⟨g, cap, cur, rfl, hb, hg, h1, h2, _⟩
 ·exact ⟨none, 0, by rw [hn], by omega, by decide, fun _ => rfl, fun i hi => by omega⟩
 ·refine ⟨_, cap, rfl, h1, by unfold maxLen at h2; omega, (fun e => by cases e), fun i hi => ?_⟩;have hl := cellsM_length X;obtain ⟨q0, q1, q2, q3, q4⟩ := cellsM_at X i hi;exact ⟨g, rfl, rfl, heap_lt hg, by rw [World.ownsRow.cellAt hr _ (by omega)]; exact q0, by rw [World.ownsRow.cellAt hr _ (by omega)]; exact q1, by rw [World.ownsRow.cellAt hr _ (by omega)]; exact q2, by rw [World.ownsRow.cellAt hr _ (by omega)]; exact q3, by rw [World.ownsRow.cellAt hr _ (by omega)]; exact q4, fun j => World.ownsRow.frozenAt hr j⟩
def IsMg (w : World) (u : Value) (Y : List Itm) : Prop :=
 (∃ A c, u = .slice A Y.length c /\ (A = none -> c = 0 /\ Y = []) /\ ∀ ad, A = some ad -> ∀ j z, (cellsM Y)[j]? = some z -> w.cell? (ad.add j) = some z) /\ ∀ z ∈ cellsM Y, z.oneCell' = true
theorem IsMg.below {u : Value} {Y : List Itm} (h : IsMg w u Y) (k : Below w.heap.size w w') : IsMg w' u Y := by
 obtain ⟨⟨A, c, e, h1, h2⟩, h3⟩ := h;exact ⟨⟨A, c, e, h1, fun ad ha j z hz => by
  have := h2 ad ha j z hz;exact (k.cell (cell_lt this)).trans this⟩, h3⟩
theorem one_cellsM : ∀ {X : List Itm}, (∀ q ∈ X, Good w F q) -> ∀ z ∈ cellsM X, z.oneCell' = true
 | [], _, z, hz => by cases hz
 | p :: r, h, z, hz => by
  simp only [cellsM, List.mem_cons] at hz;rcases hz with rfl | rfl | rfl | rfl | rfl | hz
  ·rfl
  ·rfl
  ·rfl
  ·obtain ⟨A, c, e, _⟩ := (h p (by simp)).ou.isI;rw [e]
   rfl
  ·obtain ⟨A, c, e, _⟩ := (h p (by simp)).ov.form;rw [e]
   rfl
  ·exact one_cellsM (fun q hq => h q (by simp [hq])) z hz
theorem OwnM.take {A : Option Addr} {X : List Itm} (h : OwnM w B (.slice A X.length c) X) (h1 : ∀ q ∈ X, Good w F q) (i : Nat) (hi : i <= X.length) : IsMg w (.slice A i c) (X.take i) := by
 have hl : (X.take i).length = i := by rw [List.length_take]; omega
 refine ⟨⟨A, c, by rw [hl], fun e => ?_, fun ad e j z hz => ?_⟩, one_cellsM fun q hq => h1 q (List.mem_of_mem_take hq)⟩
 ·subst e;unfold OwnM at h;rcases h.2 with ⟨e, hn⟩ | ⟨g, cap, cur, e, _⟩
  ·simp only [Value.slice.injEq] at e;have : X = [] := List.eq_nil_of_length_eq_zero hn;exact ⟨e.2.2, by rw [this]; simp⟩
  ·simp at e
 ·subst e;rw [cellsM_take X i hi, List.getElem?_take] at hz;split at hz
  ·unfold OwnM at h;rcases h.2 with ⟨e, hn⟩ | ⟨g, cap, cur, e, _⟩
   ·simp at e
   ·simp only [Value.slice.injEq, Option.some.injEq] at e;obtain ⟨rfl, _, _⟩ := e;rw [add_off, Nat.zero_add];have hj : j < (cellsM X).length := (List.getElem?_eq_some_iff.1 hz).1;rw [World.ownsRow.cellAt h j (by rw [cellsM_length] at hj; exact hj)];exact hz
  ·cases hz
theorem OwnM.drop {A : Option Addr} {X : List Itm} (h : OwnM w B (.slice A X.length c) X) (h1 : ∀ q ∈ X, Good w F q) (i : Nat) (hi : i <= X.length) (A' : Option Addr) (hA : A = none /\ A' = none \/ ∃ g, A = some ⟨g, 0, none⟩ /\ A' = some ⟨g, if c = i then 0 else i * 5, none⟩) :
  IsMg w (.slice A' (X.length - i) (c - i)) (X.drop i) := by
 have hl : (X.drop i).length = X.length - i := List.length_drop;refine ⟨⟨A', c - i, by rw [hl], fun e => ?_, fun ad e j z hz => ?_⟩, one_cellsM fun q hq => h1 q (List.mem_of_mem_drop hq)⟩
 ·subst e;rcases hA with ⟨rfl, _⟩ | ⟨g, _, e⟩
  ·unfold OwnM at h;rcases h.2 with ⟨e, hn⟩ | ⟨g, cap, cur, e, _⟩
   ·simp only [Value.slice.injEq] at e;have : X = [] := List.eq_nil_of_length_eq_zero hn;exact ⟨by omega, by rw [this]; simp⟩
   ·simp at e
  ·cases e
 ·subst e;rw [cellsM_drop X i hi, List.getElem?_drop] at hz;have hj : i * 5 + j < (cellsM X).length := (List.getElem?_eq_some_iff.1 hz).1;rw [cellsM_length] at hj;rcases hA with ⟨_, e⟩ | ⟨g, rfl, e⟩
  ·cases e
  ·unfold OwnM at h;rcases h.2 with ⟨e', hn⟩ | ⟨g', cap, cur, e', _, _, hcap, _⟩
   ·simp at e'
   ·simp only [Value.slice.injEq, Option.some.injEq, Addr.mk.injEq] at e';obtain ⟨⟨rfl, _, _⟩, hn', hc'⟩ := e';subst hc';rw [if_neg (by omega)] at e;cases e
    rw [add_off, World.ownsRow.cellAt h _ (by omega)];exact hz
theorem OwnM.empty (w : World) : OwnM (w.alloc (.cells #[] 34)) w.heap.size (.slice (some ⟨w.heap.size, 0, none⟩) 0 0) [] := by
 unfold OwnM;exact ⟨rfl, .inr ⟨_, 0, #[], rfl, Nat.le_refl _, heap_alloc_new w _, Nat.le_refl _, Nat.zero_le _, rfl, rfl⟩⟩
def NetAt (e : TypeId) (w : World) (F : Nat -> Prop) (g : Nat) (L : List (Int × Int × Int × List Int × List Nat)) : Prop := ∃ v X, L = X.map Itm.says /\ NShell e w F g v X
theorem NetAt.turn {S : Nat -> Prop} {e : TypeId} {L : List (Int × Int × Int × List Int × List Nat)} (h : NetAt e w F g L) (t : Turn S w w') (hS : ∀ k, F k -> ¬ S k) : NetAt e w' F g L := by
 obtain ⟨v, X, hl, h⟩ := h;exact ⟨v, X, hl, h.turn t hS⟩
theorem NetAt.below {e : TypeId} {L : List (Int × Int × Int × List Int × List Nat)} (h : NetAt e w F g L) (k : Below w.heap.size w w') : NetAt e w' F g L := h.turn (S := fun _ => False) (Turn.of_below _ k) (fun _ _ => id)
theorem NetAt.low {e : TypeId} {L : List (Int × Int × Int × List Int × List Nat)} (h : NetAt e w F g L) : ∀ k, F k -> k < w.heap.size := by
 obtain ⟨v, X, hl, h⟩ := h;exact h.low
def andNew (F : Nat -> Prop) (w w' : World) (k : Nat) : Prop := F k \/ (w.heap.size <= k /\ k < w'.heap.size)
theorem andNew.next (t : Turn F w w') : Next F w (andNew F w w') w' := ⟨t, fun _ hk => hk.imp id (fun h => h.1)⟩
theorem andNew.low (hF : ∀ k, F k -> k < w.heap.size) (h : w.heap.size <= w'.heap.size) : ∀ k, andNew F w w' k -> k < w'.heap.size := fun k hk => hk.elim (fun e => Nat.lt_of_lt_of_le (hF k e) h) (fun e => e.2)
theorem Own.stored {xs : List Nat} (h : Own w B (.slice (some ⟨g, 0, none⟩) n c) xs) (hn : xs.length = n) (k z : Nat) :
  Own (w.setCell ⟨g, k, none⟩ (.int .u8 (z : Int))) B (.slice (some ⟨g, 0, none⟩) n c) (xs.set k z) := by
 subst hn;unfold Own at h ⊢;have := (World.ownsRow.stored h k (.int .u8 (z : Int))).1;simpa [List.map_set] using this
theorem Own.at_ {v : Value} {xs : List Nat} (h : Own w B v xs) (hn : xs.length = n) (h1 : 1 <= n) :
  ∃ g c, v = .slice (some ⟨g, 0, none⟩) n c /\ B <= g /\ n <= c /\ c <= 9223372036854775807 /\ (∀ k, k < n -> w.cell? ⟨g, k, none⟩ = some (.int .u8 ((xs.getD k 0 : Nat) : Int))) /\ ∀ k, w.frozen? ⟨g, k, none⟩ = false := by
 subst hn;have h0 := h;unfold Own at h;rcases h.2 with ⟨rfl, hn⟩ | ⟨g, cap, cur, rfl, hb, hg, hc, hm, _⟩
 ·omega
 ·refine ⟨g, cap, rfl, hb, hc, by unfold maxLen at hm; omega, fun k hk => ?_, fun k => World.ownsRow.frozenAt h k⟩;rw [World.ownsRow.cellAt h k (by omega)];simp [hk]
theorem place (n : Int) (len : Nat) (h : 1 <= len) : ∃ k : Nat, k < len /\ (n.tmod (len : Int) = (k : Int) \/ n.tmod (len : Int) = (k : Int) - (len : Int)) := by
 rcases tmod_cases n (len : Int) with ⟨_, e⟩ | ⟨_, e⟩
 ·have h1 := Int.emod_nonneg n (b := (len : Int)) (by omega);have h2 := Int.emod_lt_of_pos n (b := (len : Int)) (by omega);exact ⟨(n % (len : Int)).toNat, by omega, .inl (by rw [e]; omega)⟩
 ·have h1 := Int.emod_nonneg (-n) (b := (len : Int)) (by omega);have h2 := Int.emod_lt_of_pos (-n) (b := (len : Int)) (by omega);by_cases h0 : -n % (len : Int) = 0
  ·exact ⟨0, by omega, .inl (by rw [e, h0]; rfl)⟩
  ·exact ⟨((len : Int) - -n % (len : Int)).toNat, by omega, .inr (by rw [e]; omega)⟩
theorem take_ext {xs ys : List Nat} (hx : k < xs.length) (hy : k < ys.length) (h : xs.take k = ys.take k) (e : xs.getD k 0 = ys.getD k 0) : xs.take (k + 1) = ys.take (k + 1) := by
 rw [List.take_succ_eq_append_getElem hx, List.take_succ_eq_append_getElem hy, h];have e1 : xs.getD k 0 = xs[k] := by simp [hx]
 have e2 : ys.getD k 0 = ys[k] := by simp [hy]
 rw [<- e1, <- e2, e]
set_option maxHeartbeats 400000 in
theorem same_any (A B : Option Addr) (n m ca cb : Nat) (xs ys : List Nat) (w : World) (hA : Rd w A xs) (hB : Rd w B ys) (hn : n = xs.length) (hm : m = ys.length)
  (ln : n <= 9223372036854775807) (lm : m <= 9223372036854775807) :
  Calls Tryz.prog 13 #[.slice A n ca, .slice B m cb] w fun e w' => e = .returned (.bool (decide (xs = ys))) /\ ∃ d, w' = w.drewN d := by
 by_cases hl : n = m
 ·subst hl;have hne0 : ((n : Int) != (n : Int)) = false := by simp
  have HN := hide hn;have HM := hide hm;clear hn hm;go_enter Tryz.func13, Tryz.ntmps13;go_wp2
  go_loopw [5] (fun i wr => ∃ k d : Nat, k <= n /\ i = .int .i64 (k : Int) /\ Hid (xs.take k = ys.take k) /\ wr = w.drewN d) (fun i _ => n - (intOf i).toNat)
  case atStart => exact ⟨0, 0, Nat.zero_le _, rfl, rfl, rfl⟩
  case round =>
   obtain ⟨k, d, hk, rfl, hs, rfl⟩ := hrel;by_cases hlt : k < n
   ·obtain ⟨b1, o1, rfl, c1⟩ := hA (by intro e; rw [HN.out, e] at hlt; simp at hlt);obtain ⟨b2, o2, rfl, c2⟩ := hB (by intro e; rw [HM.out, e] at hlt; simp at hlt);have k1 := c1 k (by rw [<- HN.out]; exact hlt);have k2 := c2 k (by rw [<- HM.out]; exact hlt);obtain ⟨x, hx⟩ : ∃ x, x = xs.getD k 0 := ⟨_, rfl⟩;obtain ⟨y, hy⟩ : ∃ y, y = ys.getD k 0 := ⟨_, rfl⟩;rw [<- hx] at k1;rw [<- hy] at k2;have HX := hide hx;have HY := hide hy;clear hx hy c1 c2 hA hB;by_cases hxy : x = y
    ·subst hxy;have hne1 : ((x : Int) != (x : Int)) = false := by simp
     go_wp2
     go_quiet (fail)
     go_wp2
     go_roundw
     case rel => exact ⟨k + 1, _, by omega, by go_num, take_ext (by rw [<- HN.out]; exact hlt) (by rw [<- HM.out]; exact hlt) hs.out (by rw [<- HX.out, <- HY.out]), rfl⟩
     case measure => simp [intOf]; omega
    ·have hne1 : ((x : Int) != (y : Int)) = true := by simp; omega
     go_wp2
     go_quiet (fail)
     go_wp2
     go_ret;refine ⟨ret_bool ?_, _, World.drewN_drewN _ _ _⟩;symm;rw [decide_eq_false_iff_not];intro e;exact hxy (by rw [HX.out, HY.out, e])
   ·go_wp2
    go_ret;refine ⟨ret_bool ?_, _, rfl⟩;symm;rw [decide_eq_true_eq];have e := hs.out;rw [List.take_of_length_le (by rw [<- HN.out]; omega), List.take_of_length_le (by rw [<- HM.out]; omega)] at e;exact e
 ·have hne0 : ((n : Int) != (m : Int)) = true := by simp; omega
  have hd : decide (xs = ys) = false := by
   rw [decide_eq_false_iff_not];intro e;exact hl (by rw [hn, hm, e])
  rw [hd];clear hd;have HN := hide hn;have HM := hide hm;clear hn hm;go_enter Tryz.func13, Tryz.ntmps13;go_wp2
  go_ret;exact ⟨rfl, 0, rfl⟩
end Go.Proofs.YtedlibkkeegnaaaGreat
