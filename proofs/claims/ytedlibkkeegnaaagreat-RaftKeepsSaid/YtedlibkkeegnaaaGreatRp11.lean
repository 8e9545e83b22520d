/- What a disk.Disk is in memory: a block of three cells, a map, and a row of bytes for each file. No condition but the widths. What each call does to a disk, as l -/
import Derived.Test.YtedlibkkeegnaaaGreatRp7
import Derived.Test.YtedlibkkeegnaaaGreatRp2
namespace Go.Proofs.YtedlibkkeegnaaaGreat
open Go.RowKit Go.Maps Go.WideMaps
variable {w w' : World} {F F' : Nat -> Prop} {B room d g n b : Nat}
abbrev Fil := Value × List Nat × Nat
def filV (a : Fil) : Value := .agg #[a.1, .int .i64 (a.2.2 : Int)]
def filL (a : Fil) : Nat := a.2.1.length
def noFil : Value := .agg #[.slice none 0 0, .int .i64 0]
abbrev DiskL := List (Str × (List Nat × Nat))
def absX (X : List (Str × Fil)) : DiskL := mapK (fun a : Fil => a.2) X
def usedL (L : DiskL) : Nat := sumK (fun a : List Nat × Nat => a.1.length) L
structure Shell (w : World) (F : Nat -> Prop) (d room : Nat) (X : List (Str × Fil)) : Prop where
 cells : ∃ mv, Blk w 0 52 d [.int .i64 (room : Int), .int .i64 ((sumK filL X : Nat) : Int), .map mv] /\ ((mv = none /\ X = []) \/ ∃ b, mv = some b /\ F b /\ w.ownsMap Tryz.prog 9 tok b X.length (strP filV X))
 own : F d
 low : ∀ k, F k -> k < w.heap.size
 most : room <= 1073741824
 used : sumK filL X <= room
 few : X.length <= 256
 shape : ∀ p ∈ X, (∃ A c, p.2.1 = .slice A p.2.2.1.length c) /\ p.2.2.2 <= p.2.2.1.length
 rise : Rise X
 names : ∀ p ∈ X, p.1.length <= 64
structure Files (w : World) (F : Nat -> Prop) (X : List (Str × Fil)) : Prop where
 each : ∀ p ∈ X, Own w 0 p.2.1 p.2.2.1 /\ (∀ g, p.2.1.ownBlock = some g -> F g) /\ ∀ x ∈ p.2.2.1, x < 256
 apart : ∀ p ∈ X, ∀ q ∈ X, p.1 ≠ q.1 -> ∀ g, p.2.1.ownBlock = some g -> q.2.1.ownBlock ≠ some g
def DiskAt (w : World) (F : Nat -> Prop) (d room : Nat) (L : DiskL) : Prop := ∃ X, L = absX X /\ Shell w F d room X /\ Files w F X
def U8 (w w' : World) : Prop := ∀ (g : Nat) (cur : Array Value), w.heap[g]? = some (Obj.cells cur 5 (0, 0)) -> w'.heap[g]? = some (Obj.cells cur 5 (0, 0))
theorem U8.refl (w : World) : U8 w w := fun _ _ h => h
theorem U8.trans {a b c : World} (h : U8 a b) (k : U8 b c) : U8 a c := fun g cur e => k g cur (h g cur e)
theorem U8.of_below (h : Below w.heap.size w w') : U8 w w' := fun g cur e => by rw [h.block g (heap_lt e)]; exact e
theorem U8.drewN (h : U8 w w') (n : Nat) : U8 w (w'.drewN n) := h
theorem U8.own {v : Value} {xs : List Nat} (h : U8 w w') (o : Own w B v xs) : Own w' B v xs := by
 unfold Own at o ⊢;refine ⟨o.1, ?_⟩;rcases o.2 with hn | ⟨g, cap, cur, hv, h1, h2, r⟩
 ·exact .inl hn
 ·exact .inr ⟨g, cap, cur, hv, h1, h g cur h2, r⟩
theorem Files.u8 {X : List (Str × Fil)} (h : Files w F X) (k : U8 w w') (hF : ∀ g, F g -> F' g) : Files w' F' X :=
 ⟨fun p hp => ⟨k.own (h.each p hp).1, fun g hg => hF g ((h.each p hp).2.1 g hg), (h.each p hp).2.2⟩, h.apart⟩
theorem Files.turn {S : Nat -> Prop} {X : List (Str × Fil)} (h : Files w F X) (t : Turn S w w') (hS : ∀ g, F g -> ¬ S g) : Files w' F X :=
 ⟨fun p hp => ⟨(h.each p hp).1.turn t (fun g hg => hS g ((h.each p hp).2.1 g hg)), (h.each p hp).2⟩, h.apart⟩
theorem Files.sub {X Y : List (Str × Fil)} (h : Files w F X) (hs : ∀ p ∈ Y, p ∈ X) : Files w F Y :=
 ⟨fun p hp => h.each p (hs p hp), fun p hp q hq => h.apart p (hs p hp) q (hs q hq)⟩
theorem Files.put {X : List (Str × Fil)} {k : Str} {a : Fil} (h : Files w F (delK k X)) (ho : Own w 0 a.1 a.2.1) (hF : ∀ g, a.1.ownBlock = some g -> F g) (hb : ∀ x ∈ a.2.1, x < 256)
  (hap : ∀ p ∈ delK k X, ∀ g, a.1.ownBlock = some g -> p.2.1.ownBlock ≠ some g) : Files w F (putK k a X) := by
 have hm : ∀ p, p ∈ putK k a X -> p = (k, a) \/ p ∈ delK k X := fun p hp => by
  rcases mem_putK.1 hp with e | ⟨h1, h2⟩
  ·exact .inl e
  ·exact .inr (mem_delK.2 ⟨h1, h2⟩)
 refine ⟨fun p hp => ?_, fun p hp q hq hne g hg => ?_⟩
 ·rcases hm p hp with rfl | hp
  ·exact ⟨ho, hF, hb⟩
  ·exact h.each p hp
 ·rcases hm p hp with rfl | hp <;> rcases hm q hq with rfl | hq
  ·exact absurd rfl hne
  ·exact hap q hq g hg
  ·intro e;exact hap p hp g e hg
  ·exact h.apart p hp q hq hne g hg
theorem ownsMap_turn {S : Nat -> Prop} {P : Program} {k : TypeId} {R : Value -> Option (DataW Value × List MemPlace)} {D : DataW Value} (h : w.ownsMap P k R b n D) (t : Turn S w w') (ho : ¬ S b) : w'.ownsMap P k R b n D := by
 have hlt := h.lt;obtain ⟨es, clock, hb, r⟩ := h;exact ⟨es, clock, by rw [t.block b hlt ho]; exact hb, r⟩
theorem ownsMap_tight {P : Program} {k : TypeId} {R : Value -> Option (DataW Value × List MemPlace)} {D : DataW Value} (h : w.ownsMap P k R b n D) : w.ownsMap P k R b (Maps.size D) D := by
 obtain ⟨es, clock, hb, Ft, hs, rfl⟩ := h;refine ⟨es, clock, hb, Ft, ?_, rfl⟩
 show es.size <= ((es.toList.map (WideElems.rg P k R)).foldr DataW.insert []).length
 rw [length_sorted];simp
theorem Shell.turn {S : Nat -> Prop} {X : List (Str × Fil)} (h : Shell w F d room X) (t : Turn S w w') (hS : ∀ g, F g -> ¬ S g) : Shell w' F d room X := by
 obtain ⟨mv, hb, hm⟩ := h.cells;refine ⟨⟨mv, hb.turn t (hS d h.own), ?_⟩, h.own, fun k hk => Nat.lt_of_lt_of_le (h.low k hk) t.size, h.most, h.used, h.few, h.shape, h.rise, h.names⟩;rcases hm with hm | ⟨b, e, hf, hm⟩
 ·exact .inl hm
 ·exact .inr ⟨b, e, hf, ownsMap_turn hm t (hS b hf)⟩
theorem not_map_cells {P : Program} {k : TypeId} {R : Value -> Option (DataW Value × List MemPlace)} {D : DataW Value} (h : w.ownsMap P k R b n D) {cur : Array Value} {e : TypeId} {fr : Nat × Nat} : w.heap[b]? ≠ some (.cells cur e fr) := by
 obtain ⟨es, clock, hb, _⟩ := h;rw [hb];intro e;simp at e
theorem Shell.bytes {X : List (Str × Fil)} {cur : Array Value} {fr : Nat × Nat} (h : Shell w F d room X) (hg : w.heap[g]? = some (.cells cur 5 fr)) (t : w.grownBy w' (some g)) : Shell w' F d room X := by
 obtain ⟨mv, hb, hm⟩ := h.cells;have hd : ¬ (some d = some g) := by
  intro e;have e : d = g := by simpa using e
  subst e;obtain ⟨_, c2, h2, _⟩ := hb;rw [h2] at hg;simp only [Option.some.injEq, Obj.cells.injEq] at hg;exact absurd hg.2.1 (by decide)
 refine ⟨⟨mv, hb.turn (Turn.of_grown t) hd, ?_⟩, h.own, fun k hk => Nat.lt_of_lt_of_le (h.low k hk) t.size, h.most, h.used, h.few, h.shape, h.rise, h.names⟩;rcases hm with hm | ⟨b, e, hf, hm⟩
 ·exact .inl hm
 ·refine .inr ⟨b, e, hf, ownsMap_turn hm (Turn.of_grown t) ?_⟩;intro e2;have e2 : b = g := by simpa using e2
  subst e2;exact not_map_cells hm hg
theorem Shell.more {X : List (Str × Fil)} (h : Shell w F d room X) (hF : ∀ k, F k -> F' k) (hl : ∀ k, F' k -> k < w.heap.size) : Shell w F' d room X := by
 obtain ⟨mv, hb, hm⟩ := h.cells;refine ⟨⟨mv, hb, ?_⟩, hF d h.own, hl, h.most, h.used, h.few, h.shape, h.rise, h.names⟩;rcases hm with hm | ⟨b, e, hf, hm⟩
 ·exact .inl hm
 ·exact .inr ⟨b, e, hF b hf, hm⟩
theorem Shell.below {X : List (Str × Fil)} (h : Shell w F d room X) (k : Below w.heap.size w w') : Shell w' F d room X := h.turn (S := fun _ => False) (Turn.of_below _ k) (fun _ _ => id)
theorem DiskAt.turn {S : Nat -> Prop} {L : DiskL} (h : DiskAt w F d room L) (t : Turn S w w') (hS : ∀ g, F g -> ¬ S g) : DiskAt w' F d room L := by
 obtain ⟨X, e, hs, hf⟩ := h;exact ⟨X, e, hs.turn t hS, hf.turn t hS⟩
theorem DiskAt.below {L : DiskL} (h : DiskAt w F d room L) (k : Below w.heap.size w w') : DiskAt w' F d room L := h.turn (S := fun _ => False) (Turn.of_below _ k) (fun _ _ => id)
theorem DiskAt.low {L : DiskL} (h : DiskAt w F d room L) : ∀ k, F k -> k < w.heap.size := by
 obtain ⟨X, e, hs, hf⟩ := h;exact hs.low
theorem absX_used (X : List (Str × Fil)) : usedL (absX X) = sumK filL X := by unfold usedL absX; rw [sumK_map]; rfl
theorem absX_put (k : Str) (a : Fil) (X : List (Str × Fil)) : absX (putK k a X) = putK k a.2 (absX X) := putK_map _ _ _ _
theorem absX_del (k : Str) (X : List (Str × Fil)) : absX (delK k X) = delK k (absX X) := delK_map _ _ _
theorem absX_get (k : Str) (X : List (Str × Fil)) : getK k (absX X) = (getK k X).map fun a => a.2 := getK_map _ _ _
theorem absX_length (X : List (Str × Fil)) : (absX X).length = X.length := mapK_length _ _
theorem DiskAt.facts {L : DiskL} (h : DiskAt w F d room L) : Rise L /\ L.length <= 256 /\ usedL L <= room /\ room <= 1073741824 /\ (∀ p ∈ L, p.2.2 <= p.2.1.length /\ ∀ x ∈ p.2.1, x < 256) /\ ∀ p ∈ L, p.1.length <= 64 := by
 obtain ⟨X, rfl, hs, hf⟩ := h;refine ⟨rise_map _ hs.rise, by rw [absX_length]; exact hs.few, by rw [absX_used]; exact hs.used, hs.most, fun p hp => ?_, fun p hp => ?_⟩
 ·obtain ⟨q, hq, rfl⟩ := List.mem_map.1 hp;exact ⟨(hs.shape q hq).2, (hf.each q hq).2.2⟩
 ·obtain ⟨q, hq, rfl⟩ := List.mem_map.1 hp;exact hs.names q hq
def foundV (o : Option Fil) : Value := (o.map filV).getD noFil
theorem zero_fil (w : World) : (zeroValue 74).run Tryz.prog w = .ok noFil w := by kernel_rfl
theorem look_ok {X : List (Str × Fil)} (h : w.ownsMap Tryz.prog 9 tok b n (strP filV X)) (s : ByteArray) (hs : s.size <= maxLen) :
  (Instr.lookup 50 (.map (some b)) (.string s) true).run Tryz.prog w = .ok (.tuple #[foundV (getK s.data.toList X), .bool (getK s.data.toList X).isSome]) w := by
 obtain ⟨v, ps, hrun, hv⟩ := h.look_ok (string_keyed Tryz.underlying9) Tryz.underlying50 (zero_fil w) (zd := .held noFil) (zp := []) rfl (keyOf_string_mk Tryz.underlying9 hs);rw [strP_has] at hrun;rw [strP_at] at hv;rw [hrun];unfold tok at hv;simp only [Option.some.injEq, Prod.mk.injEq] at hv;obtain ⟨hv, _⟩ := hv;unfold foundV;rcases hg : getK s.data.toList X with _ | a
 ·rw [hg] at hv;simp only [Option.map_none, Option.getD_none, DataW.held.injEq] at hv;rw [hv]
  rfl
 ·rw [hg] at hv;simp only [Option.map_some, Option.getD_some, DataW.held.injEq] at hv;rw [hv]
  rfl
theorem look_val {X : List (Str × Fil)} (h : w.ownsMap Tryz.prog 9 tok b n (strP filV X)) (s : ByteArray) (hs : s.size <= maxLen) :
  (Instr.lookup 50 (.map (some b)) (.string s) false).run Tryz.prog w = .ok (foundV (getK s.data.toList X)) w := by
 obtain ⟨v, ps, hrun, hv⟩ := h.lookup (string_keyed Tryz.underlying9) Tryz.underlying50 (zero_fil w) (zd := .held noFil) (zp := []) rfl (keyOf_string_mk Tryz.underlying9 hs);rw [strP_at] at hv;rw [hrun];unfold tok at hv;simp only [Option.some.injEq, Prod.mk.injEq] at hv;obtain ⟨hv, _⟩ := hv;unfold foundV;rcases hg : getK s.data.toList X with _ | a
 ·rw [hg] at hv;simp only [Option.map_none, Option.getD_none, DataW.held.injEq] at hv;rw [hv]
  rfl
 ·rw [hg] at hv;simp only [Option.map_some, Option.getD_some, DataW.held.injEq] at hv;rw [hv]
  rfl
theorem look_nil_ok (w : World) (s : ByteArray) (hs : s.size <= maxLen) :
  (Instr.lookup 50 (.map none) (.string s) true).run Tryz.prog w = .ok (.tuple #[noFil, .bool false]) w :=
 Maps.look_nil true (string_keyed Tryz.underlying9) Tryz.underlying50 (zero_fil w) (keyOf_string_mk Tryz.underlying9 hs)
end Go.Proofs.YtedlibkkeegnaaaGreat
namespace Go.Proofs.YtedlibkkeegnaaaGreat
open Go.RowKit Go.Maps
variable {w : World} {F : Nat -> Prop} {room d : Nat}
def oldB (k : Str) (L : DiskL) : List Nat := ((getK k L).map (·.1)).getD []
def oldN (k : Str) (L : DiskL) : Nat := ((getK k L).map (·.2)).getD 0
def appL (room : Nat) (k : Str) (p : List Nat) (L : DiskL) : DiskL × Nat :=
 if ¬ (1 <= k.length /\ k.length <= 64) then (L, 1)
 else if (getK k L = none /\ 256 <= L.length) \/ room < usedL L + p.length then (L, 6)
 else (putK k (oldB k L ++ p, oldN k L) L, 0)
theorem str_len (s : ByteArray) : s.data.toList.length = s.size := rfl
structure Sane (room : Nat) (L : DiskL) : Prop where
 rise : Rise L
 few : L.length <= 256
 used : usedL L <= room
 most : room <= 1073741824
 last : ∀ q ∈ L, q.2.2 <= q.2.1.length
theorem DiskAt.sane {L : DiskL} (h : DiskAt w F d room L) : Sane room L := by
 obtain ⟨h1, h2, h3, h4, h5, _⟩ := h.facts;exact ⟨h1, h2, h3, h4, fun q hq => (h5 q hq).1⟩
theorem used_get {L : DiskL} {k : Str} {a : List Nat × Nat} (hr : Rise L) (h : getK k L = some a) : a.1.length <= usedL L := by
 unfold usedL;rw [sumK_del _ k hr, h];simp
theorem Sane.len {L : DiskL} (h : Sane room L) {k : Str} {a : List Nat × Nat} (hg : getK k L = some a) : a.1.length <= 1073741824 :=
 Nat.le_trans (used_get h.rise hg) (Nat.le_trans h.used h.most)
def syncL (k : Str) (L : DiskL) : DiskL × Nat := match getK k L with
 | none => (L, 7)
 | some a => (putK k (a.1, a.1.length) L, 0)
def remL (k : Str) (L : DiskL) : DiskL × Nat := match getK k L with
 | none => (L, 7)
 | some _ => (delK k L, 0)
def renL (k t : Str) (L : DiskL) : DiskL × Nat := if ¬ (1 <= t.length /\ t.length <= 64) then (L, 1) else match getK k L with
 | none => (L, 7)
 | some a => (putK t a (delK k L), 0)
def cutL (k : Str) (z : Int) (L : DiskL) : DiskL × Nat := match getK k L with
 | none => (L, 7)
 | some a => if z < 0 \/ (a.1.length : Int) < z then (L, 1) else (putK k (a.1.take z.toNat, min a.2 z.toNat) L, 0)
def readL (k : Str) (L : DiskL) : List Nat × Nat := match getK k L with
 | none => ([], 7)
 | some a => (a.1, 0)
theorem wpList_lookup_run {P : Program} {ops : Array Oper} {rest : List Oper} {o : Oper} {a : Act} {Q : Exit -> Act -> World -> Prop}
  (hg : o.guard = none) (m x : Operand) (t : TypeId) (c : Bool) (hop : o.op = Op.lookup t m x c) (mv key v : Value) (hm : a.eval m = mv) (hx : a.eval x = key)
  (hrun : (Instr.lookup t mv key c).run P w = .ok v w) (hK : wpList P ops Q rest (a.put o.dst v) w) : wpList P ops Q (o :: rest) a w := by
 refine wpList_plain hg fun K' hK' => ?_
 unfold Oper.wp;simp [execOp, hop, hm, hx, hrun, Result.andThen];exact hK' _ _ hK
theorem isName_any (s : ByteArray) (w : World) (_hs : s.size <= 9223372036854775807) :
  Calls Tryz.prog 135 #[.string s] w fun e w' => e = .returned (.bool (decide (1 <= s.size /\ s.size <= 64))) /\ w' = w := by
 by_cases h1 : 1 <= s.size
 ·have e : decide (1 <= s.size /\ s.size <= 64) = decide ((s.size : Int) <= 64) := by
   rw [decide_eq_decide];omega
  rw [e];clear e;go_enter Tryz.func135, Tryz.ntmps135;go_wp2
  go_ret;exact ⟨rfl, rfl⟩
 ·have e : decide (1 <= s.size /\ s.size <= 64) = false := decide_eq_false (fun h => h1 h.1);rw [e];clear e;go_enter Tryz.func135, Tryz.ntmps135;go_wp2
  go_ret;exact ⟨rfl, rfl⟩
theorem found_form {X : List (Str × Fil)} (h : Shell w F d room X) (k : Str) : ∃ A n c l, foundV (getK k X) = .agg #[.slice A n c, .int .i64 (l : Nat)] /\ n = ((getK k X).map filL).getD 0 /\ (getK k X = none -> A = none /\ c = 0 /\ l = 0) /\
  ∀ a, getK k X = some a -> a.1 = .slice A n c /\ a.2.1.length = n /\ a.2.2 = l := by
 unfold foundV;rcases hg : getK k X with _ | a
 ·exact ⟨none, 0, 0, 0, rfl, rfl, fun _ => ⟨rfl, rfl, rfl⟩, fun a e => by cases e⟩
 ·obtain ⟨A, c, e⟩ := (h.shape _ (getK_mem hg)).1;simp only at e;refine ⟨A, a.2.1.length, c, a.2.2, ?_, rfl, fun e => (by cases e), fun b e' => ?_⟩
  ·simp only [Option.map_some, Option.getD_some, filV];rw [e]
  ·cases e'
   exact ⟨e, rfl, rfl⟩
theorem find_any (F : Nat -> Prop) (d room : Nat) (X : List (Str × Fil)) (s : ByteArray) (w : World) (hS : Shell w F d room X) (hs : s.size <= maxLen) :
  Calls Tryz.prog 84 #[.pointer (some ⟨d, 0, none⟩), .string s] w fun e w' => e = .returned (.tuple #[foundV (getK s.data.toList X), .bool (getK s.data.toList X).isSome]) /\ Below w.heap.size w w' := by
 obtain ⟨mv, hB, hm⟩ := hS.cells;have c2 : w.cell? ⟨d, 2, none⟩ = some (.map mv) := hB.cell 2;have hd : d < w.heap.size := hB.lt;have hlook : ∀ W, Below w.heap.size w W -> (Instr.lookup 50 (.map mv) (.string s) true).run Tryz.prog W = .ok (.tuple #[foundV (getK s.data.toList X), .bool (getK s.data.toList X).isSome]) W := by
  intro W hW;rcases hm with ⟨rfl, rfl⟩ | ⟨b, rfl, _, hm⟩
  ·exact look_nil_ok W s hs
  ·exact look_ok (ownsMap_turn (S := fun _ => False) hm (Turn.of_below _ hW) id) s hs
 obtain ⟨A, n, c, l, hf, hrest⟩ := found_form hS s.data.toList;clear hrest;rw [hf] at hlook ⊢;obtain ⟨is, his⟩ : ∃ is, is = (getK s.data.toList X).isSome := ⟨_, rfl⟩;rw [<- his] at hlook ⊢;have HL := hide hlook;clear hlook hf his hm;go_enter Tryz.func84, Tryz.ntmps84;go_wp2_with (at_lookup; refine halt ?_)
 refine ⟨?_⟩;refine wpList_lookup_run rfl _ _ _ _ rfl _ _ _ rfl rfl (HL.out _ (below_alloc _ _)) ?_;go_wp2_with fail
 refine bodyPost_ret (v := .tuple #[.agg #[.slice A n c, .int .i64 l], .bool is]) (by simp [results, Tryz.results84, go_sem]) rfl ⟨rfl, ?_⟩;exact (below_alloc _ _).alloc (Nat.le_of_lt (by simp)) _

end Go.Proofs.YtedlibkkeegnaaaGreat
