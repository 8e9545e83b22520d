/- What a disk.Disk is in memory: a block of three cells, a map, and a row of bytes for each file. No condition but the widths. What each call does to a disk, as lists. No condition. A volume's places, its file's bytes and what each call does to them, without a program. No condition. The contracts of the disk's own isName and find. Condition: a name is no longer than a string may be. What a volume.Vol is in memory: a block of three cells and a map; looking up in it. No condition but the widths. -/
import Derived.Test.YtehgjkckhjggbaaVr7
import Derived.Test.YtehgjkckhjggbaaVr1
namespace Go.Proofs.Ytehgjkckhjggbaa
open Go.RowKit Go.Maps Go.WideMaps
/-- A file: its slice, its bytes, how many last. -/
abbrev Fil := Value × List Nat × Nat
def filV (a : Fil) : Value := .agg #[a.1, .int .i64 (a.2.2 : Int)]
def filL (a : Fil) : Nat := a.2.1.length
def noFil : Value := .agg #[.slice none 0 0, .int .i64 0]
/-- The files as the document has them: rising by name, bytes, how many last. -/
abbrev DiskL := List (Str × (List Nat × Nat))
def absX (X : List (Str × Fil)) : DiskL := mapK (fun a : Fil => a.2) X
def usedL (L : DiskL) : Nat := sumK (fun a : List Nat × Nat => a.1.length) L
/-- The disk's own blocks, but for the files' bytes. -/
structure Shell (w : World) (F : Nat → Prop) (d room : Nat) (X : List (Str × Fil)) : Prop where
  cells : ∃ mv, Blk w 0 72 d [.int .i64 (room : Int), .int .i64 ((sumK filL X : Nat) : Int), .map mv] ∧ ((mv = none ∧ X = []) ∨ ∃ b, mv = some b ∧ F b ∧ w.ownsMap Try.prog 9 tok b X.length (strP filV X))
  own : F d
  low : ∀ k, F k → k < w.heap.size
  most : room ≤ 1073741824
  used : sumK filL X ≤ room
  few : X.length ≤ 256
  shape : ∀ p ∈ X, (∃ A c, p.2.1 = .slice A p.2.2.1.length c) ∧ p.2.2.2 ≤ p.2.2.1.length
  rise : Rise X
  names : ∀ p ∈ X, p.1.length ≤ 64
/-- The files' bytes. -/
structure Files (w : World) (F : Nat → Prop) (X : List (Str × Fil)) : Prop where
  each : ∀ p ∈ X, Own w 0 p.2.1 p.2.2.1 ∧ (∀ g, p.2.1.ownBlock = some g → F g) ∧ ∀ x ∈ p.2.2.1, x < 256
  apart : ∀ p ∈ X, ∀ q ∈ X, p.1 ≠ q.1 → ∀ g, p.2.1.ownBlock = some g → q.2.1.ownBlock ≠ some g
/-- d is a disk of so much room that holds these files; its blocks are those of F. -/
def DiskAt (w : World) (F : Nat → Prop) (d room : Nat) (L : DiskL) : Prop := ∃ X, L = absX X ∧ Shell w F d room X ∧ Files w F X
/-- No block of bytes has turned. -/
def U8 (w w' : World) : Prop := ∀ (g : Nat) (cur : Array Value), w.heap[g]? = some (Obj.cells cur 5 (0, 0)) → w'.heap[g]? = some (Obj.cells cur 5 (0, 0))
theorem U8.refl (w : World) : U8 w w := fun _ _ h => h
theorem U8.trans {a b c : World} (h : U8 a b) (k : U8 b c) : U8 a c := fun g cur e => k g cur (h g cur e)
theorem U8.of_below {w w' : World} (h : Below w.heap.size w w') : U8 w w' := fun g cur e => by rw [h.block g (heap_lt e)]; exact e
theorem U8.drewN {w w' : World} (h : U8 w w') (n : Nat) : U8 w (w'.drewN n) := h
theorem U8.own {w w' : World} {B : Nat} {v : Value} {xs : List Nat} (h : U8 w w') (o : Own w B v xs) : Own w' B v xs := by
  unfold Own at o ⊢
  refine ⟨o.1, ?_⟩
  rcases o.2 with hn | ⟨g, cap, cur, hv, h1, h2, r⟩
  · exact .inl hn
  · exact .inr ⟨g, cap, cur, hv, h1, h g cur h2, r⟩
theorem Files.u8 {w w' : World} {F F' : Nat → Prop} {X : List (Str × Fil)} (h : Files w F X) (k : U8 w w') (hF : ∀ g, F g → F' g) : Files w' F' X :=
  ⟨fun p hp => ⟨k.own (h.each p hp).1, fun g hg => hF g ((h.each p hp).2.1 g hg), (h.each p hp).2.2⟩, h.apart⟩
theorem Files.turn {S : Nat → Prop} {w w' : World} {F : Nat → Prop} {X : List (Str × Fil)} (h : Files w F X) (t : Turn S w w') (hS : ∀ g, F g → ¬ S g) : Files w' F X :=
  ⟨fun p hp => ⟨(h.each p hp).1.turn t (fun g hg => hS g ((h.each p hp).2.1 g hg)), (h.each p hp).2⟩, h.apart⟩
theorem Files.sub {w : World} {F : Nat → Prop} {X Y : List (Str × Fil)} (h : Files w F X) (hs : ∀ p ∈ Y, p ∈ X) : Files w F Y :=
  ⟨fun p hp => h.each p (hs p hp), fun p hp q hq => h.apart p (hs p hp) q (hs q hq)⟩
/-- A file is laid whose bytes lie apart from all others'. -/
theorem Files.put {w : World} {F : Nat → Prop} {X : List (Str × Fil)} {k : Str} {a : Fil} (h : Files w F (delK k X)) (ho : Own w 0 a.1 a.2.1) (hF : ∀ g, a.1.ownBlock = some g → F g) (hb : ∀ x ∈ a.2.1, x < 256)
    (hap : ∀ p ∈ delK k X, ∀ g, a.1.ownBlock = some g → p.2.1.ownBlock ≠ some g) : Files w F (putK k a X) := by
  have hm : ∀ p, p ∈ putK k a X → p = (k, a) ∨ p ∈ delK k X := fun p hp => by
    rcases mem_putK.1 hp with e | ⟨h1, h2⟩
    · exact .inl e
    · exact .inr (mem_delK.2 ⟨h1, h2⟩)
  refine ⟨fun p hp => ?_, fun p hp q hq hne g hg => ?_⟩
  · rcases hm p hp with rfl | hp
    · exact ⟨ho, hF, hb⟩
    · exact h.each p hp
  · rcases hm p hp with rfl | hp <;> rcases hm q hq with rfl | hq
    · exact absurd rfl hne
    · exact hap q hq g hg
    · intro e
      exact hap p hp g e hg
    · exact h.apart p hp q hq hne g hg
theorem ownsMap_turn {S : Nat → Prop} {w w' : World} {P : Program} {k : TypeId} {R : Value → Option (DataW Value × List MemPlace)} {b n : Nat} {D : DataW Value} (h : w.ownsMap P k R b n D) (t : Turn S w w') (ho : ¬ S b) : w'.ownsMap P k R b n D := by
  have hlt := h.lt
  obtain ⟨es, clock, hb, r⟩ := h
  exact ⟨es, clock, by rw [t.block b hlt ho]; exact hb, r⟩
theorem ownsMap_tight {w : World} {P : Program} {k : TypeId} {R : Value → Option (DataW Value × List MemPlace)} {b n : Nat} {D : DataW Value} (h : w.ownsMap P k R b n D) : w.ownsMap P k R b (Maps.size D) D := by
  obtain ⟨es, clock, hb, Ft, hs, rfl⟩ := h
  refine ⟨es, clock, hb, Ft, ?_, rfl⟩
  show es.size ≤ ((es.toList.map (WideElems.rg P k R)).foldr DataW.insert []).length
  rw [length_sorted]
  simp
theorem Shell.turn {S : Nat → Prop} {w w' : World} {F : Nat → Prop} {d room : Nat} {X : List (Str × Fil)} (h : Shell w F d room X) (t : Turn S w w') (hS : ∀ g, F g → ¬ S g) : Shell w' F d room X := by
  obtain ⟨mv, hb, hm⟩ := h.cells
  refine ⟨⟨mv, hb.turn t (hS d h.own), ?_⟩, h.own, fun k hk => Nat.lt_of_lt_of_le (h.low k hk) t.size, h.most, h.used, h.few, h.shape, h.rise, h.names⟩
  rcases hm with hm | ⟨b, e, hf, hm⟩
  · exact .inl hm
  · exact .inr ⟨b, e, hf, ownsMap_turn hm t (hS b hf)⟩
theorem not_map_cells {w : World} {P : Program} {k : TypeId} {R : Value → Option (DataW Value × List MemPlace)} {b n : Nat} {D : DataW Value} (h : w.ownsMap P k R b n D) {cur : Array Value} {e : TypeId} {fr : Nat × Nat} : w.heap[b]? ≠ some (.cells cur e fr) := by
  obtain ⟨es, clock, hb, _⟩ := h
  rw [hb]
  intro e
  simp at e
/-- Where only bytes have turned, the shell stands. -/
theorem Shell.bytes {w w' : World} {F : Nat → Prop} {d room : Nat} {X : List (Str × Fil)} {g : Nat} {cur : Array Value} {fr : Nat × Nat} (h : Shell w F d room X) (hg : w.heap[g]? = some (.cells cur 5 fr)) (t : w.grownBy w' (some g)) : Shell w' F d room X := by
  obtain ⟨mv, hb, hm⟩ := h.cells
  have hd : ¬ (some d = some g) := by
    intro e
    have e : d = g := by simpa using e
    subst e
    obtain ⟨_, c2, h2, _⟩ := hb
    rw [h2] at hg
    simp only [Option.some.injEq, Obj.cells.injEq] at hg
    exact absurd hg.2.1 (by decide)
  refine ⟨⟨mv, hb.turn (Turn.of_grown t) hd, ?_⟩, h.own, fun k hk => Nat.lt_of_lt_of_le (h.low k hk) t.size, h.most, h.used, h.few, h.shape, h.rise, h.names⟩
  rcases hm with hm | ⟨b, e, hf, hm⟩
  · exact .inl hm
  · refine .inr ⟨b, e, hf, ownsMap_turn hm (Turn.of_grown t) ?_⟩
    intro e2
    have e2 : b = g := by simpa using e2
    subst e2
    exact not_map_cells hm hg
theorem Shell.more {w : World} {F F' : Nat → Prop} {d room : Nat} {X : List (Str × Fil)} (h : Shell w F d room X) (hF : ∀ k, F k → F' k) (hl : ∀ k, F' k → k < w.heap.size) : Shell w F' d room X := by
  obtain ⟨mv, hb, hm⟩ := h.cells
  refine ⟨⟨mv, hb, ?_⟩, hF d h.own, hl, h.most, h.used, h.few, h.shape, h.rise, h.names⟩
  rcases hm with hm | ⟨b, e, hf, hm⟩
  · exact .inl hm
  · exact .inr ⟨b, e, hF b hf, hm⟩
theorem Shell.below {w w' : World} {F : Nat → Prop} {d room : Nat} {X : List (Str × Fil)} (h : Shell w F d room X) (k : Below w.heap.size w w') : Shell w' F d room X := h.turn (S := fun _ => False) (Turn.of_below _ k) (fun _ _ => id)
theorem DiskAt.turn {S : Nat → Prop} {w w' : World} {F : Nat → Prop} {d room : Nat} {L : DiskL} (h : DiskAt w F d room L) (t : Turn S w w') (hS : ∀ g, F g → ¬ S g) : DiskAt w' F d room L := by
  obtain ⟨X, e, hs, hf⟩ := h
  exact ⟨X, e, hs.turn t hS, hf.turn t hS⟩
theorem DiskAt.below {w w' : World} {F : Nat → Prop} {d room : Nat} {L : DiskL} (h : DiskAt w F d room L) (k : Below w.heap.size w w') : DiskAt w' F d room L := h.turn (S := fun _ => False) (Turn.of_below _ k) (fun _ _ => id)
theorem DiskAt.low {w : World} {F : Nat → Prop} {d room : Nat} {L : DiskL} (h : DiskAt w F d room L) : ∀ k, F k → k < w.heap.size := by
  obtain ⟨X, e, hs, hf⟩ := h
  exact hs.low
theorem absX_used (X : List (Str × Fil)) : usedL (absX X) = sumK filL X := by unfold usedL absX; rw [sumK_map]; rfl
theorem absX_put (k : Str) (a : Fil) (X : List (Str × Fil)) : absX (putK k a X) = putK k a.2 (absX X) := putK_map _ _ _ _
theorem absX_del (k : Str) (X : List (Str × Fil)) : absX (delK k X) = delK k (absX X) := delK_map _ _ _
theorem absX_get (k : Str) (X : List (Str × Fil)) : getK k (absX X) = (getK k X).map fun a => a.2 := getK_map _ _ _
theorem absX_length (X : List (Str × Fil)) : (absX X).length = X.length := mapK_length _ _
theorem DiskAt.facts {w : World} {F : Nat → Prop} {d room : Nat} {L : DiskL} (h : DiskAt w F d room L) : Rise L ∧ L.length ≤ 256 ∧ usedL L ≤ room ∧ room ≤ 1073741824 ∧ (∀ p ∈ L, p.2.2 ≤ p.2.1.length ∧ ∀ x ∈ p.2.1, x < 256) ∧ ∀ p ∈ L, p.1.length ≤ 64 := by
  obtain ⟨X, rfl, hs, hf⟩ := h
  refine ⟨rise_map _ hs.rise, by rw [absX_length]; exact hs.few, by rw [absX_used]; exact hs.used, hs.most, fun p hp => ?_, fun p hp => ?_⟩
  · obtain ⟨q, hq, rfl⟩ := List.mem_map.1 hp
    exact ⟨(hs.shape q hq).2, (hf.each q hq).2.2⟩
  · obtain ⟨q, hq, rfl⟩ := List.mem_map.1 hp
    exact hs.names q hq
/-- What a look-up by name finds. -/
def foundV (o : Option Fil) : Value := (o.map filV).getD noFil
theorem zero_fil (w : World) : (zeroValue 93).run Try.prog w = .ok noFil w := by kernel_rfl
theorem look_ok {w : World} {b n : Nat} {X : List (Str × Fil)} (h : w.ownsMap Try.prog 9 tok b n (strP filV X)) (s : ByteArray) (hs : s.size ≤ maxLen) :
    (Instr.lookup 70 (.map (some b)) (.string s) true).run Try.prog w = .ok (.tuple #[foundV (getK s.data.toList X), .bool (getK s.data.toList X).isSome]) w := by
  obtain ⟨v, ps, hrun, hv⟩ := h.look_ok (string_keyed Try.underlying9) Try.underlying70 (zero_fil w) (zd := .held noFil) (zp := []) rfl (keyOf_string_mk Try.underlying9 hs)
  rw [strP_has] at hrun
  rw [strP_at] at hv
  rw [hrun]
  unfold tok at hv
  simp only [Option.some.injEq, Prod.mk.injEq] at hv
  obtain ⟨hv, _⟩ := hv
  unfold foundV
  rcases hg : getK s.data.toList X with _ | a
  · rw [hg] at hv
    simp only [Option.map_none, Option.getD_none, DataW.held.injEq] at hv
    rw [hv]
    rfl
  · rw [hg] at hv
    simp only [Option.map_some, Option.getD_some, DataW.held.injEq] at hv
    rw [hv]
    rfl
theorem look_val {w : World} {b n : Nat} {X : List (Str × Fil)} (h : w.ownsMap Try.prog 9 tok b n (strP filV X)) (s : ByteArray) (hs : s.size ≤ maxLen) :
    (Instr.lookup 70 (.map (some b)) (.string s) false).run Try.prog w = .ok (foundV (getK s.data.toList X)) w := by
  obtain ⟨v, ps, hrun, hv⟩ := h.lookup (string_keyed Try.underlying9) Try.underlying70 (zero_fil w) (zd := .held noFil) (zp := []) rfl (keyOf_string_mk Try.underlying9 hs)
  rw [strP_at] at hv
  rw [hrun]
  unfold tok at hv
  simp only [Option.some.injEq, Prod.mk.injEq] at hv
  obtain ⟨hv, _⟩ := hv
  unfold foundV
  rcases hg : getK s.data.toList X with _ | a
  · rw [hg] at hv
    simp only [Option.map_none, Option.getD_none, DataW.held.injEq] at hv
    rw [hv]
    rfl
  · rw [hg] at hv
    simp only [Option.map_some, Option.getD_some, DataW.held.injEq] at hv
    rw [hv]
    rfl
theorem look_nil_ok (w : World) (s : ByteArray) (hs : s.size ≤ maxLen) :
    (Instr.lookup 70 (.map none) (.string s) true).run Try.prog w = .ok (.tuple #[noFil, .bool false]) w :=
  Maps.look_nil true (string_keyed Try.underlying9) Try.underlying70 (zero_fil w) (keyOf_string_mk Try.underlying9 hs)
theorem look_nil_val (w : World) (s : ByteArray) (hs : s.size ≤ maxLen) :
    (Instr.lookup 70 (.map none) (.string s) false).run Try.prog w = .ok noFil w :=
  Maps.look_nil false (string_keyed Try.underlying9) Try.underlying70 (zero_fil w) (keyOf_string_mk Try.underlying9 hs)
end Go.Proofs.Ytehgjkckhjggbaa
namespace Go.Proofs.Ytehgjkckhjggbaa
open Go.RowKit Go.Maps
def oldB (k : Str) (L : DiskL) : List Nat := ((getK k L).map (·.1)).getD []
def oldN (k : Str) (L : DiskL) : Nat := ((getK k L).map (·.2)).getD 0
/-- What the document says of Append: the files behind it, and the answer. -/
def appL (room : Nat) (k : Str) (p : List Nat) (L : DiskL) : DiskL × Nat :=
  if ¬ (1 ≤ k.length ∧ k.length ≤ 64) then (L, 1)
  else if (getK k L = none ∧ 256 ≤ L.length) ∨ room < usedL L + p.length then (L, 6)
  else (putK k (oldB k L ++ p, oldN k L) L, 0)
theorem str_len (s : ByteArray) : s.data.toList.length = s.size := rfl
structure Sane (room : Nat) (L : DiskL) : Prop where
  rise : Rise L
  few : L.length ≤ 256
  used : usedL L ≤ room
  most : room ≤ 1073741824
  last : ∀ q ∈ L, q.2.2 ≤ q.2.1.length
theorem DiskAt.sane {w : World} {F : Nat → Prop} {d room : Nat} {L : DiskL} (h : DiskAt w F d room L) : Sane room L := by
  obtain ⟨h1, h2, h3, h4, h5, _⟩ := h.facts
  exact ⟨h1, h2, h3, h4, fun q hq => (h5 q hq).1⟩
theorem used_get {L : DiskL} {k : Str} {a : List Nat × Nat} (hr : Rise L) (h : getK k L = some a) : a.1.length ≤ usedL L := by
  unfold usedL
  rw [sumK_del _ k hr, h]
  simp
theorem Sane.len {room : Nat} {L : DiskL} (h : Sane room L) {k : Str} {a : List Nat × Nat} (hg : getK k L = some a) : a.1.length ≤ 1073741824 :=
  Nat.le_trans (used_get h.rise hg) (Nat.le_trans h.used h.most)
def syncL (k : Str) (L : DiskL) : DiskL × Nat := match getK k L with
  | none => (L, 7)
  | some a => (putK k (a.1, a.1.length) L, 0)
def remL (k : Str) (L : DiskL) : DiskL × Nat := match getK k L with
  | none => (L, 7)
  | some _ => (delK k L, 0)
def renL (k t : Str) (L : DiskL) : DiskL × Nat := if ¬ (1 ≤ t.length ∧ t.length ≤ 64) then (L, 1) else match getK k L with
  | none => (L, 7)
  | some a => (putK t a (delK k L), 0)
def cutL (k : Str) (z : Int) (L : DiskL) : DiskL × Nat := match getK k L with
  | none => (L, 7)
  | some a => if z < 0 ∨ (a.1.length : Int) < z then (L, 1) else (putK k (a.1.take z.toNat, min a.2 z.toNat) L, 0)
def rotL (k : Str) (z : Int) (y : Nat) (L : DiskL) : DiskL × Nat := match getK k L with
  | none => (L, 7)
  | some a => if z < 0 ∨ (a.1.length : Int) ≤ z then (L, 7) else (putK k (a.1.set z.toNat (a.1.getD z.toNat 0 ^^^ y), a.2) L, 0)
def readL (k : Str) (L : DiskL) : List Nat × Nat := match getK k L with
  | none => ([], 7)
  | some a => (a.1, 0)
end Go.Proofs.Ytehgjkckhjggbaa
namespace Go.Proofs.Ytehgjkckhjggbaa
open Go.RowKit Go.Maps
/-- Where a needle stands: its key, the place, how many bytes, its cookie, whether it is a mark. -/
structure Pl where
  key : Nat
  at_ : Nat
  n : Nat
  cook : Nat
  dead : Bool
deriving DecidableEq
def plV (p : Pl) : Value := .agg #[.int .u64 (p.key : Int), .int .i64 (p.at_ : Int), .int .i64 (p.n : Int), .int .u32 (p.cook : Int), .bool p.dead]
def noPl : Pl := ⟨0, 0, 0, 0, false⟩
/-- What is there of each key, rising by keys. -/
abbrev PlL := List Pl
def getP (k : Nat) (T : PlL) : Option Pl := T.find? fun p => p.key == k
def delP (k : Nat) (T : PlL) : PlL := T.filter fun p => p.key != k
def insP (p : Pl) : PlL → PlL
  | [] => [p]
  | q :: r => if p.key < q.key then p :: q :: r else q :: insP p r
def putP (p : Pl) (T : PlL) : PlL := insP p (delP p.key T)
def RiseP (T : PlL) : Prop := T.Pairwise fun p q => p.key < q.key
theorem mem_insP {p x : Pl} : ∀ {T : PlL}, x ∈ insP p T ↔ x = p ∨ x ∈ T
  | [] => by simp [insP]
  | q :: r => by
    unfold insP
    split
    · simp
    · rw [List.mem_cons, mem_insP, List.mem_cons]
      constructor
      · rintro (h | h | h)
        · exact .inr (.inl h)
        · exact .inl h
        · exact .inr (.inr h)
      · rintro (h | h | h)
        · exact .inr (.inl h)
        · exact .inl h
        · exact .inr (.inr h)
theorem mem_delP {k : Nat} {x : Pl} {T : PlL} : x ∈ delP k T ↔ x ∈ T ∧ x.key ≠ k := by simp [delP]
theorem mem_putP {p x : Pl} {T : PlL} : x ∈ putP p T ↔ x = p ∨ (x ∈ T ∧ x.key ≠ p.key) := by
  unfold putP
  rw [mem_insP, mem_delP]
theorem delP_rise {k : Nat} {T : PlL} (h : RiseP T) : RiseP (delP k T) := h.filter _
theorem insP_rise {p : Pl} : ∀ {T : PlL}, RiseP T → (∀ q ∈ T, q.key ≠ p.key) → RiseP (insP p T)
  | [], _, _ => by simp [insP, RiseP]
  | q :: r, h, hne => by
    have hq := hne q List.mem_cons_self
    have hr : RiseP r := (List.pairwise_cons.1 h).2
    unfold insP
    split
    · next hlt =>
      refine List.pairwise_cons.2 ⟨fun x hx => ?_, h⟩
      rcases List.mem_cons.1 hx with rfl | hx
      · exact hlt
      · exact Nat.lt_trans hlt ((List.pairwise_cons.1 h).1 x hx)
    · refine List.pairwise_cons.2 ⟨fun x hx => ?_, insP_rise hr (fun y hy => hne y (List.mem_cons_of_mem _ hy))⟩
      rcases mem_insP.1 hx with rfl | hx
      · omega
      · exact (List.pairwise_cons.1 h).1 x hx
theorem putP_rise {p : Pl} {T : PlL} (h : RiseP T) : RiseP (putP p T) := insP_rise (delP_rise h) fun _ hq => (mem_delP.1 hq).2
theorem getP_mem {k : Nat} {p : Pl} {T : PlL} (h : getP k T = some p) : p ∈ T ∧ p.key = k := by
  unfold getP at h
  have h2 := List.find?_some h
  exact ⟨List.mem_of_find?_eq_some h, by simpa using h2⟩
theorem getP_none {k : Nat} {T : PlL} (h : getP k T = none) : ∀ p ∈ T, p.key ≠ k := fun p hp => by
  unfold getP at h
  have := List.find?_eq_none.1 h p hp
  simpa using this
theorem riseP_inj {T : PlL} (h : RiseP T) {p q : Pl} (hp : p ∈ T) (hq : q ∈ T) (e : p.key = q.key) : p = q := by
  induction T with
  | nil => cases hp
  | cons x r ih =>
    obtain ⟨h1, h2⟩ := List.pairwise_cons.1 h
    rcases List.mem_cons.1 hp with ep | hp2
    · rcases List.mem_cons.1 hq with eq | hq2
      · rw [ep, eq]
      · have := h1 q hq2; rw [← ep] at this; omega
    · rcases List.mem_cons.1 hq with eq | hq2
      · have := h1 p hp2; rw [← eq] at this; omega
      · exact ih h2 hp2 hq2
theorem mem_getP {p : Pl} {T : PlL} (h : RiseP T) (hp : p ∈ T) : getP p.key T = some p := by
  rcases e : getP p.key T with _ | q
  · exact absurd rfl (getP_none e p hp)
  · obtain ⟨h1, h2⟩ := getP_mem e
    rw [riseP_inj h h1 hp h2]
theorem getP_put_same {p : Pl} {T : PlL} (h : RiseP T) : getP p.key (putP p T) = some p := mem_getP (putP_rise h) (mem_putP.2 (.inl rfl))
theorem getP_put_other {k : Nat} {p : Pl} {T : PlL} (h : RiseP T) (hne : k ≠ p.key) : getP k (putP p T) = getP k T := by
  rcases e : getP k T with _ | q
  · rcases e2 : getP k (putP p T) with _ | q
    · rfl
    · obtain ⟨h1, h2⟩ := getP_mem e2
      rcases mem_putP.1 h1 with rfl | ⟨h1, _⟩
      · exact absurd h2.symm hne
      · exact absurd h2 (getP_none e q h1)
  · obtain ⟨h1, h2⟩ := getP_mem e
    have h3 : q ∈ putP p T := mem_putP.2 (.inr ⟨h1, by rw [h2]; exact hne⟩)
    have := mem_getP (putP_rise h) h3
    rw [h2] at this
    exact this
theorem putP_len (p : Pl) (T : PlL) : (putP p T).length ≤ T.length + 1 := by
  have h1 : ∀ l : PlL, (insP p l).length = l.length + 1 := by
    intro l
    induction l with
    | nil => rfl
    | cons q r ih =>
      unfold insP
      split
      · rfl
      · rw [List.length_cons, ih, List.length_cons]
  unfold putP
  rw [h1]
  have := List.length_filter_le (fun q : Pl => q.key != p.key) T
  unfold delP
  omega
/-! ### the map's datum -/
def plP (T : PlL) : DataW Value := .map (T.map fun p => (.int .u64 (p.key : Int), .held (plV p)))
theorem plP_put (p : Pl) (T : PlL) : (plP T).put (.int .u64 (p.key : Int)) (.held (plV p)) = plP (putP p T) := by
  have h1 : ∀ T : PlL, DataW.insert (Lit.int .u64 (p.key : Int), DataW.held (plV p)) (T.map fun q => (Lit.int .u64 (q.key : Int), DataW.held (plV q))) = (insP p T).map fun q => (Lit.int .u64 (q.key : Int), DataW.held (plV q)) := by
    intro T
    induction T with
    | nil => rfl
    | cons q r ih =>
      by_cases h : p.key < q.key
      · have h' : (p.key : Int) < (q.key : Int) := by omega
        simp [insP, DataW.insert, Lit.before, h, h']
      · have h' : ¬ (p.key : Int) < (q.key : Int) := by omega
        simp [insP, DataW.insert, Lit.before, h, h', ih]
  have h2 : (T.map fun q => (Lit.int .u64 (q.key : Int), DataW.held (plV q))).filter (fun x => !x.1.sameKey (.int .u64 (p.key : Int))) = (delP p.key T).map fun q => (Lit.int .u64 (q.key : Int), DataW.held (plV q)) := by
    unfold delP
    rw [List.filter_map]
    congr 1
    refine List.filter_congr fun q _ => ?_
    simp only [Function.comp, Lit.sameKey, bne]
    by_cases h : q.key = p.key
    · simp [h]
    · have h' : ¬ ((q.key : Int) = (p.key : Int)) := by omega
      simp [h, h']
  unfold plP DataW.put putP
  simp only
  rw [h2, h1]
theorem plP_at (k : Nat) (z : DataW Value) : ∀ T : PlL, (plP T).atKey (.int .u64 (k : Int)) z = ((getP k T).map fun p => DataW.held (plV p)).getD z
  | [] => rfl
  | q :: r => by
    have ih := plP_at k z r
    unfold plP DataW.atKey getP at ih ⊢
    by_cases h : q.key = k
    · simp [Lit.sameKey, h]
    · have h1 : ¬ ((q.key : Int) = (k : Int)) := by omega
      have h' : (q.key == k) = false := by simp [h]
      simp only [List.map_cons, List.find?_cons, Lit.sameKey, h', h1, and_false, decide_false] at ih ⊢
      exact ih
theorem plP_has (k : Nat) (T : PlL) : Maps.has (plP T) (.int .u64 (k : Int)) = (getP k T).isSome := by
  unfold plP getP
  rw [Maps.has_eq, List.any_map]
  have : ((fun x : Lit × DataW Value => x.1.sameKey (.int .u64 (k : Int))) ∘ fun p : Pl => (Lit.int .u64 (p.key : Int), DataW.held (plV p))) = fun p : Pl => p.key == k := by
    funext p
    simp only [Function.comp, Lit.sameKey]
    by_cases h : p.key = k
    · simp [h]
    · have h1 : ¬ ((p.key : Int) = (k : Int)) := by omega
      have h' : (p.key == k) = false := by simp [h]
      simp [h1, h']
  rw [this]
  induction T with
  | nil => rfl
  | cons y r ih =>
    rw [List.any_cons, List.find?_cons]
    rcases (y.key == k) <;> simp [ih]
theorem plP_size (T : PlL) : Maps.size (plP T) = T.length := by simp [plP, Maps.size]
/-! ### what the calls do -/
/-- A needle more is taken in: of a key the first mark counts, and without one the first needle. -/
def takeL (p : Pl) (T : PlL) : PlL := match getP p.key T with
  | none => putP p T
  | some q => if p.dead = true ∧ q.dead = false then putP p T else T
theorem takeL_rise {p : Pl} {T : PlL} (h : RiseP T) : RiseP (takeL p T) := by
  unfold takeL
  split
  · exact putP_rise h
  · split
    · exact putP_rise h
    · exact h
theorem takeL_mem {p x : Pl} {T : PlL} (h : x ∈ takeL p T) : x = p ∨ x ∈ T := by
  unfold takeL at h
  have hp : x ∈ putP p T → x = p ∨ x ∈ T := fun h => (mem_putP.1 h).imp id (fun h => h.1)
  split at h
  · exact hp h
  · split at h
    · exact hp h
    · exact .inr h
theorem takeL_len (p : Pl) (T : PlL) : (takeL p T).length ≤ T.length + 1 := by
  unfold takeL
  split
  · exact putP_len p T
  · split
    · exact putP_len p T
    · omega
/-- The place of a needle that begins some bytes. -/
def plOf (r : (Nat × Nat × Bool × List Nat) × Nat × Nat) (at_ : Nat) : Pl := ⟨r.1.1, at_, r.2.1, r.1.2.1, r.1.2.2.1⟩
/-- Needles are read from a place on; the first number bounds the rounds. -/
def readV : Nat → List Nat → Nat → PlL → Nat × PlL
  | 0, _, at_, T => (at_, T)
  | f + 1, b, at_, T => if (ndDec (b.drop at_)).2.2 ≠ 0 ∧ (ndDec (b.drop at_)).2.2 ≠ 4 then (at_, T) else readV f b (at_ + (ndDec (b.drop at_)).2.1) (takeL (plOf (ndDec (b.drop at_)) at_) T)
/-- So many decimal digits of a number, the highest first. -/
def digV : Nat → Nat → List UInt8
  | 0, _ => []
  | j + 1, n => digV j (n / 10) ++ [UInt8.ofNat (48 + n % 10)]
theorem digV_len (j : Nat) : ∀ n, (digV j n).length = j := by
  induction j with
  | zero => intro n; rfl
  | succ j ih => intro n; unfold digV; rw [List.length_append, ih]; rfl
/-- The name of a volume's file. -/
def nameV (id : Nat) : ByteArray := ⟨([118] ++ digV 8 id ++ [46, 100, 97, 116]).toArray⟩
theorem nameV_size (id : Nat) : (nameV id).size = 13 := by
  show ([118] ++ digV 8 id ++ [46, 100, 97, 116]).toArray.size = 13
  simp [digV_len]
theorem digitV_ok (k : Nat) : (UInt8.ofNat (48 + k % 10)).toNat = 48 + k % 10 := by
  rw [UInt8.toNat_ofNat']
  omega
theorem digV_head : ∀ (j n : Nat), digV (j + 1) n = UInt8.ofNat (48 + n / 10 ^ j % 10) :: digV j n := by
  intro j
  induction j with
  | zero => intro n; simp [digV]
  | succ j ih =>
    intro n
    conv => lhs; unfold digV
    rw [ih]
    conv => rhs; unfold digV
    rw [List.cons_append, Nat.div_div_eq_div_mul, Nat.pow_succ, Nat.mul_comm 10]
/-- The row of eight digits behind so many rounds. -/
def fillV (j n : Nat) : List Nat := List.replicate (8 - j) 0 ++ (digV j n).map UInt8.toNat
theorem fillV_len (j n : Nat) (h : j ≤ 8) : (fillV j n).length = 8 := by
  unfold fillV
  rw [List.length_append, List.length_replicate, List.length_map, digV_len]
  omega
theorem fillV_step (j n : Nat) (h : j < 8) : (fillV j n).set (7 - j) (48 + n / 10 ^ j % 10) = fillV (j + 1) n := by
  unfold fillV
  rw [digV_head, List.map_cons]
  have e : 8 - j = (7 - j) + 1 := by omega
  have e2 : 8 - (j + 1) = 7 - j := by omega
  rw [e, e2, List.replicate_succ', List.append_assoc, List.set_append_right _ _ (by simp)]
  simp only [List.length_replicate, Nat.sub_self]
  rw [digitV_ok]
  rfl
theorem fillV_all (n : Nat) : fillV 8 n = (digV 8 n).map UInt8.toNat := rfl
/-- A volume's head. -/
def headV (id : Nat) : List Nat := [103, 118, 1, 0] ++ be32 id
theorem headV_len (id : Nat) : (headV id).length = 8 := rfl
theorem headV_byte (id : Nat) : ∀ x ∈ headV id, x < 256 := by
  intro x hx
  rcases List.mem_append.1 hx with hx | hx
  · simp at hx; omega
  · exact be32_byte id x hx
end Go.Proofs.Ytehgjkckhjggbaa
namespace Go.Proofs.Ytehgjkckhjggbaa
open Go.RowKit Go.Maps
theorem wpList_lookup_run {P : Program} {w : World} {ops : Array Oper} {rest : List Oper} {o : Oper} {a : Act} {Q : Exit → Act → World → Prop}
    (hg : o.guard = none) (m x : Operand) (t : TypeId) (c : Bool) (hop : o.op = Op.lookup t m x c) (mv key v : Value) (hm : a.eval m = mv) (hx : a.eval x = key)
    (hrun : (Instr.lookup t mv key c).run P w = .ok v w) (hK : wpList P ops Q rest (a.put o.dst v) w) : wpList P ops Q (o :: rest) a w := by
  refine wpList_plain hg fun K' hK' => ?_
  unfold Oper.wp
  simp [execOp, hop, hm, hx, hrun, Result.andThen]
  exact hK' _ _ hK
theorem isName_any (s : ByteArray) (w : World) (_hs : s.size ≤ 9223372036854775807) :
    Calls Try.prog 112 #[.string s] w fun e w' => e = .returned (.bool (decide (1 ≤ s.size ∧ s.size ≤ 64))) ∧ w' = w := by
  by_cases h1 : 1 ≤ s.size
  · have e : decide (1 ≤ s.size ∧ s.size ≤ 64) = decide ((s.size : Int) ≤ 64) := by
      rw [decide_eq_decide]
      omega
    rw [e]
    clear e
    go_enter Try.func112, Try.ntmps112
    go_wp2
    go_ret
    exact ⟨rfl, rfl⟩
  · have e : decide (1 ≤ s.size ∧ s.size ≤ 64) = false := decide_eq_false (fun h => h1 h.1)
    rw [e]
    clear e
    go_enter Try.func112, Try.ntmps112
    go_wp2
    go_ret
    exact ⟨rfl, rfl⟩
theorem find_nil (s : ByteArray) (w : World) :
    Calls Try.prog 53 #[.pointer none, .string s] w fun e w' => e = .returned (.tuple #[noFil, .bool false]) ∧ Below w.heap.size w w' := by
  go_enter Try.func53, Try.ntmps53
  go_wp2_with fail
  refine bodyPost_ret (v := .tuple #[noFil, .bool false]) (by simp [results, Try.results53, go_sem, noFil]) rfl ⟨rfl, below_alloc _ _⟩
/-- The form of what is found. -/
theorem found_form {w : World} {F : Nat → Prop} {d room : Nat} {X : List (Str × Fil)} (h : Shell w F d room X) (k : Str) : ∃ A n c l, foundV (getK k X) = .agg #[.slice A n c, .int .i64 (l : Nat)] ∧ n = ((getK k X).map filL).getD 0 ∧ (getK k X = none → A = none ∧ c = 0 ∧ l = 0) ∧
    ∀ a, getK k X = some a → a.1 = .slice A n c ∧ a.2.1.length = n ∧ a.2.2 = l := by
  unfold foundV
  rcases hg : getK k X with _ | a
  · exact ⟨none, 0, 0, 0, rfl, rfl, fun _ => ⟨rfl, rfl, rfl⟩, fun a e => by cases e⟩
  · obtain ⟨A, c, e⟩ := (h.shape _ (getK_mem hg)).1
    simp only at e
    refine ⟨A, a.2.1.length, c, a.2.2, ?_, rfl, fun e => (by cases e), fun b e' => ?_⟩
    · simp only [Option.map_some, Option.getD_some, filV]
      rw [e]
    · cases e'
      exact ⟨e, rfl, rfl⟩
theorem find_any (F : Nat → Prop) (d room : Nat) (X : List (Str × Fil)) (s : ByteArray) (w : World) (hS : Shell w F d room X) (hs : s.size ≤ maxLen) :
    Calls Try.prog 53 #[.pointer (some ⟨d, 0, none⟩), .string s] w fun e w' => e = .returned (.tuple #[foundV (getK s.data.toList X), .bool (getK s.data.toList X).isSome]) ∧ Below w.heap.size w w' := by
  obtain ⟨mv, hB, hm⟩ := hS.cells
  have c2 : w.cell? ⟨d, 2, none⟩ = some (.map mv) := hB.cell 2
  have hd : d < w.heap.size := hB.lt
  have hlook : ∀ W, Below w.heap.size w W → (Instr.lookup 70 (.map mv) (.string s) true).run Try.prog W = .ok (.tuple #[foundV (getK s.data.toList X), .bool (getK s.data.toList X).isSome]) W := by
    intro W hW
    rcases hm with ⟨rfl, rfl⟩ | ⟨b, rfl, _, hm⟩
    · exact look_nil_ok W s hs
    · exact look_ok (ownsMap_turn (S := fun _ => False) hm (Turn.of_below _ hW) id) s hs
  obtain ⟨A, n, c, l, hf, hrest⟩ := found_form hS s.data.toList
  clear hrest
  rw [hf] at hlook ⊢
  obtain ⟨is, his⟩ : ∃ is, is = (getK s.data.toList X).isSome := ⟨_, rfl⟩
  rw [← his] at hlook ⊢
  have HL := hide hlook
  clear hlook hf his hm
  go_enter Try.func53, Try.ntmps53
  go_wp2_with (at_lookup; refine halt ?_)
  refine ⟨?_⟩
  refine wpList_lookup_run rfl _ _ _ _ rfl _ _ _ rfl rfl (HL.out _ (below_alloc _ _)) ?_
  go_wp2_with fail
  refine bodyPost_ret (v := .tuple #[.agg #[.slice A n c, .int .i64 l], .bool is]) (by simp [results, Try.results53, go_sem]) rfl ⟨rfl, ?_⟩
  exact (below_alloc _ _).alloc (Nat.le_of_lt (by simp)) _
end Go.Proofs.Ytehgjkckhjggbaa
namespace Go.Proofs.Ytehgjkckhjggbaa
open Go.RowKit Go.Maps Go.WideMaps
/-- A place whose numbers fit their widths. -/
structure PlFit (p : Pl) : Prop where
  key : p.key < 18446744073709551616
  cook : p.cook < 4294967296
  low : 8 ≤ p.at_
  at_ : p.at_ ≤ 1099511627776
  n : p.n ≤ 1099511627776
structure VolAt (w : World) (v d b : Nat) (s : ByteArray) (T : PlL) : Prop where
  blk : Blk w 0 87 v [.pointer (some ⟨d, 0, none⟩), .string s, .map (some b)]
  map : w.ownsMap Try.prog 31 tok b T.length (plP T)
  rise : RiseP T
  fit : ∀ p ∈ T, PlFit p
  few : T.length ≤ 1099511627776
theorem VolAt.turn {S : Nat → Prop} {w w' : World} {v d b : Nat} {s : ByteArray} {T : PlL} (h : VolAt w v d b s T) (t : Turn S w w') (hv : ¬ S v) (hb : ¬ S b) : VolAt w' v d b s T :=
  ⟨h.blk.turn t hv, ownsMap_turn h.map t hb, h.rise, h.fit, h.few⟩
theorem VolAt.below {w w' : World} {v d b : Nat} {s : ByteArray} {T : PlL} (h : VolAt w v d b s T) (k : Below w.heap.size w w') : VolAt w' v d b s T := h.turn (S := fun _ => False) (Turn.of_below _ k) id id
theorem VolAt.low {w : World} {v d b : Nat} {s : ByteArray} {T : PlL} (h : VolAt w v d b s T) : v < w.heap.size ∧ b < w.heap.size := ⟨h.blk.lt, h.map.lt⟩
theorem VolAt.ne {w : World} {v d b : Nat} {s : ByteArray} {T : PlL} (h : VolAt w v d b s T) : v ≠ b := by
  intro e
  obtain ⟨_, cur, hh, _⟩ := h.blk
  rw [e] at hh
  exact not_map_cells h.map hh
theorem zero_pl (w : World) : (zeroValue 83).run Try.prog w = .ok (plV noPl) w := by kernel_rfl
/-- What a look-up gives. -/
def foundP (o : Option Pl) : Pl := o.getD noPl
theorem key_u64 {k : Nat} (h : k < 18446744073709551616) : keyOf Try.prog 31 (.int .u64 (k : Int)) = some (.int .u64 (k : Int)) := keyOf_int_mk Try.underlying31 (by
  simp [Lit.wf, IntKind.min, IntKind.max, IntKind.signed, IntKind.bits]
  omega)
theorem look_pl {w : World} {b n : Nat} {T : PlL} (h : w.ownsMap Try.prog 31 tok b n (plP T)) (k : Nat) (hk : k < 18446744073709551616) :
    (Instr.lookup 85 (.map (some b)) (.int .u64 (k : Int)) true).run Try.prog w = .ok (.tuple #[plV (foundP (getP k T)), .bool (getP k T).isSome]) w := by
  obtain ⟨v, ps, hrun, hv⟩ := h.look_ok (int_keyed Try.underlying31) Try.underlying85 (zero_pl w) (zd := .held (plV noPl)) (zp := []) rfl (key_u64 hk)
  rw [plP_has] at hrun
  rw [plP_at] at hv
  rw [hrun]
  unfold tok at hv
  simp only [Option.some.injEq, Prod.mk.injEq] at hv
  obtain ⟨hv, _⟩ := hv
  unfold foundP
  rcases hg : getP k T with _ | a
  · rw [hg] at hv
    simp only [Option.map_none, Option.getD_none, DataW.held.injEq] at hv
    rw [hv]
    rfl
  · rw [hg] at hv
    simp only [Option.map_some, Option.getD_some, DataW.held.injEq] at hv
    rw [hv]
    rfl
theorem store_pl {w : World} {v d b : Nat} {s : ByteArray} {T : PlL} (h : VolAt w v d b s T) (p : Pl) (hp : PlFit p) (hl : T.length < 1099511627776) :
    ∃ w', (Instr.mapUpdate 85 (.map (some b)) (.int .u64 (p.key : Int)) (plV p)).run Try.prog w = .ok () w' ∧ VolAt w' v d b s (putP p T) ∧ Turn (fun k => k = b) w w' := by
  obtain ⟨w', hr, hm, hg⟩ := h.map.update (int_keyed Try.underlying31) Try.underlying85 (by unfold maxLen; omega) (key_u64 hp.key) (val := plV p) (d := .held (plV p)) (ps := []) rfl
  rw [plP_put] at hm
  have hm := ownsMap_tight hm
  rw [plP_size] at hm
  have t : Turn (fun k => k = b) w w' := (Turn.of_grown hg).mono (fun i e => Option.some.inj e)
  exact ⟨w', hr, ⟨h.blk.turn t h.ne, hm, putP_rise h.rise, fun q hq => (mem_putP.1 hq).elim (fun e => by rw [e]; exact hp) (fun e => h.fit q e.1), by have := putP_len p T; omega⟩, t⟩
end Go.Proofs.Ytehgjkckhjggbaa
