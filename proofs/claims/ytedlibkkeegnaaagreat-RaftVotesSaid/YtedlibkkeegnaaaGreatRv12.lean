/- A log in segments, as lists: names, records, what each call does. It names nothing of the program but the disk's lists. Names of segments: eight digits that are -/
import Derived.Test.YtedlibkkeegnaaaGreatRv11
import Derived.Test.YtedlibkkeegnaaaGreatRv9
namespace Go.Proofs.YtedlibkkeegnaaaGreat
open Go.RowKit Go.Maps
variable {w w' : World} {G G' : Nat -> Prop} {s : ByteArray} {B dp l m g n c i k b : Nat}
def digs : Nat -> Nat -> Str
 | 0, _ => []
 | j + 1, n => digs j (n / 10) ++ [UInt8.ofNat (48 + n % 10)]
def nameL (k : Str) (n : Nat) : Str := k ++ [46] ++ digs 8 n
def valD : Nat -> Str -> Option Nat
 | v, [] => some v
 | v, c :: cs => if c < 48 \/ 57 < c then none else valD (v * 10 + (c.toNat - 48)) cs
def numL (k s : Str) : Option Nat := if s.length ≠ k.length + 9 \/ s.take k.length ≠ k \/ s.getD k.length 0 ≠ 46 then none else valD 0 (s.drop (k.length + 1))
def recL (i : Nat) (p : List Nat) : List Nat := frameL (uvl i ++ p)
def recsL : Nat -> List (List Nat) -> List Nat
 | _, [] => []
 | i, p :: r => recL i p ++ recsL (i + 1) r
def readF : Nat -> List Nat -> Nat -> List (List Nat) × Nat × Bool
 | 0, _, _ => ([], 0, true)
 | f + 1, b, i =>
  if b.length = 0 then ([], 0, true)
  else if (decL b).2.2 ≠ 0 then ([], 0, false)
  else if (rvl 0 0 (decL b).1).2.2 ≠ 0 \/ (rvl 0 0 (decL b).1).1 ≠ i then ([], 0, false)
  else ((decL b).1.drop (rvl 0 0 (decL b).1).2.1 :: (readF f (b.drop (decL b).2.1) (i + 1)).1, (decL b).2.1 + (readF f (b.drop (decL b).2.1) (i + 1)).2.1, (readF f (b.drop (decL b).2.1) (i + 1)).2.2)
def segL (b : List Nat) (i : Nat) : List (List Nat) × Nat × Bool := readF b.length b i
abbrev Sg := Nat × List (List Nat)
structure LogL where
 segs : List Sg
 next : Nat
 dirty : List Nat
structure OpenS where
 bad : Bool
 log : LogL
 disk : DiskL
def openStep (k : Str) (o : OpenS) (name : Str) : OpenS :=
 match numL k name with
 | none => o
 | some n =>
  if o.bad = true \/ n < 1 \/ (o.log.segs ≠ [] /\ n ≠ o.log.next) then ⟨true, o.log, (remL name o.disk).1⟩
  else if (segL (readL name o.disk).1 n).2.2 = true then ⟨false, ⟨o.log.segs ++ [(n, (segL (readL name o.disk).1 n).1)], n + (segL (readL name o.disk).1 n).1.length, o.log.dirty ++ [n]⟩, o.disk⟩
  else if (segL (readL name o.disk).1 n).2.1 = 0 then ⟨true, o.log, (remL name o.disk).1⟩
  else ⟨true, ⟨o.log.segs ++ [(n, (segL (readL name o.disk).1 n).1)], n + (segL (readL name o.disk).1 n).1.length, o.log.dirty ++ [n]⟩, (cutL name ((segL (readL name o.disk).1 n).2.1 : Int) o.disk).1⟩
def openR (k : Str) (L : DiskL) : OpenS := (L.map (·.1)).foldl (openStep k) ⟨false, ⟨[], 1, []⟩, L⟩
def firstL (M : LogL) : Nat := (M.segs.head?.map (·.1)).getD M.next
def sizeL (k : Str) (L : DiskL) : Nat := ((getK k L).map (·.1.length)).getD 0
def freshL (k : Str) (M : LogL) (L : DiskL) : Bool := match M.segs.getLast? with
 | none => true
 | some s => decide (1024 <= sizeL (nameL k s.1) L)
def lastL (M : LogL) : Nat := (M.segs.getLast?.map (·.1)).getD M.next
def whereL (k : Str) (M : LogL) (L : DiskL) : Nat := if freshL k M L = true then M.next else lastL M
def laidL (l : List Sg) (p : List Nat) : List Sg := match l.getLast? with
 | none => []
 | some s => l.dropLast ++ [(s.1, s.2 ++ [p])]
def addL (room : Nat) (k : Str) (p : List Nat) (M : LogL) (L : DiskL) : (LogL × DiskL) × Nat × Nat :=
 if 1048566 < p.length then ((M, L), 0, 5)
 else if 99999999 <= M.next then ((M, L), 0, 6)
 else if (appL room (nameL k (whereL k M L)) (recL M.next p) L).2 ≠ 0 then ((M, L), 0, (appL room (nameL k (whereL k M L)) (recL M.next p) L).2)
 else ((⟨laidL (if freshL k M L = true then M.segs ++ [(M.next, [])] else M.segs) p, M.next + 1, M.dirty ++ [whereL k M L]⟩, (appL room (nameL k (whereL k M L)) (recL M.next p) L).1), M.next, 0)
def syncsL (k : Str) (l : List Nat) (L : DiskL) : DiskL := l.foldl (fun L n => (syncL (nameL k n) L).1) L
def getE (M : LogL) (i : Int) : List Nat × Nat := match M.segs.find? (fun s => decide ((s.1 : Int) <= i /\ i < (s.1 : Int) + s.2.length)) with
 | none => ([], 7)
 | some s => (s.2.getD (i - s.1).toNat [], 0)
theorem getE_cons {s : Sg} {r : List Sg} {nx : Nat} {d : List Nat} {z : Int} : getE ⟨s :: r, nx, d⟩ z = if (s.1 : Int) <= z /\ z < (s.1 : Int) + s.2.length then (s.2.getD (z - s.1).toNat [], 0) else getE ⟨r, nx, d⟩ z := by
 unfold getE;dsimp only;rw [List.find?_cons];by_cases h : (s.1 : Int) <= z /\ z < (s.1 : Int) + s.2.length
 ·rw [if_pos h, decide_eq_true h]
 ·rw [if_neg h, decide_eq_false h]
theorem digs_len : ∀ (j n : Nat), (digs j n).length = j := by
 intro j
 induction j with
 | zero => intro n; rfl
 | succ j ih => intro n; unfold digs; rw [List.length_append, ih]; rfl
theorem name_len (k : Str) (n : Nat) : (nameL k n).length = k.length + 9 := by
 unfold nameL;rw [List.length_append, List.length_append, digs_len];simp
theorem digit_ok (m : Nat) : (UInt8.ofNat (48 + m % 10)).toNat = 48 + m % 10 := by
 rw [UInt8.toNat_ofNat'];have : m % 10 < 10 := Nat.mod_lt _ (by decide);omega
theorem valD_step (v : Nat) (c : UInt8) (cs : Str) : valD v (c :: cs) = if c < 48 \/ 57 < c then none else valD (v * 10 + (c.toNat - 48)) cs := rfl
theorem digit_in (m : Nat) : ¬ (UInt8.ofNat (48 + m % 10) < 48 \/ 57 < UInt8.ofNat (48 + m % 10)) := by
 have h := digit_ok m;have h2 : m % 10 < 10 := Nat.mod_lt _ (by decide);rintro (e | e)
 ·have := UInt8.lt_iff_toNat_lt.1 e;rw [h] at this;have h3 : (48 : UInt8).toNat = 48 := rfl;omega
 ·have := UInt8.lt_iff_toNat_lt.1 e;rw [h] at this;have h3 : (57 : UInt8).toNat = 57 := rfl;omega
theorem valD_digs : ∀ (j n v : Nat) (cs : Str), valD v (digs j n ++ cs) = valD (v * 10 ^ j + n % 10 ^ j) cs := by
 intro j
 induction j with
 | zero => intro n v cs; simp [digs, Nat.mod_one]
 | succ j ih =>
  intro n v cs;unfold digs;rw [List.append_assoc, ih, List.singleton_append, valD_step, if_neg (digit_in n), digit_ok];congr 1;have e : n % 10 ^ (j + 1) = n / 10 % 10 ^ j * 10 + n % 10 := by
   rw [Nat.pow_succ, Nat.mul_comm (10 ^ j) 10, Nat.mod_mul];omega
  rw [e, Nat.pow_succ, Nat.add_mul, Nat.mul_assoc];omega
theorem num_name (k : Str) (h : n < 100000000) : numL k (nameL k n) = some n := by
 have hl := name_len k n;have e1 : (nameL k n).take k.length = k := by unfold nameL; rw [List.append_assoc, List.take_left' rfl]
 have e2 : (nameL k n).getD k.length 0 = 46 := by
  unfold nameL;rw [List.append_assoc];simp
 have e3 : (nameL k n).drop (k.length + 1) = digs 8 n := by
  unfold nameL;rw [List.drop_left' (by simp)]
 unfold numL;rw [if_neg (by rintro (h | h | h); exact h hl; exact h e1; exact h e2), e3];have := valD_digs 8 n 0 [];rw [List.append_nil] at this;rw [this]
 show some (0 * 10 ^ 8 + n % 10 ^ 8) = some n
 rw [Nat.mod_eq_of_lt (by exact h)];simp
theorem before_cons (a b : UInt8) (r q : Str) : bytesBefore (a :: r) (b :: q) = true ↔ a < b \/ (a = b /\ bytesBefore r q = true) := by
 have e : bytesBefore (a :: r) (b :: q) = (decide (a < b) || (a == b && bytesBefore r q)) := rfl;rw [e];simp
theorem before_pre : ∀ (k a b : Str), bytesBefore a b = true -> bytesBefore (k ++ a) (k ++ b) = true := by
 intro k
 induction k with
 | nil => intro a b h; exact h
 | cons c k ih => intro a b h; exact (before_cons _ _ _ _).2 (.inr ⟨rfl, ih a b h⟩)
theorem before_more : ∀ (a b x y : Str), a.length = b.length -> bytesBefore a b = true -> bytesBefore (a ++ x) (b ++ y) = true := by
 intro a
 induction a with
 | nil =>
  intro b x y hl h;rcases b with _ | ⟨c, b⟩
  ·rw [WideAt.bytes_irrefl] at h; cases h
  ·simp at hl
 | cons c a ih =>
  intro b x y hl h;rcases b with _ | ⟨d, b⟩
  ·simp at hl
  ·rcases (before_cons _ _ _ _).1 h with h1 | ⟨rfl, h1⟩
   ·exact (before_cons _ _ _ _).2 (.inl h1)
   ·exact (before_cons _ _ _ _).2 (.inr ⟨rfl, ih b x y (by simpa using hl) h1⟩)
theorem digit_lt {a : Nat} (h : a % 10 < b % 10) : UInt8.ofNat (48 + a % 10) < UInt8.ofNat (48 + b % 10) := by
 rw [UInt8.lt_iff_toNat_lt, digit_ok, digit_ok];omega
theorem digs_before : ∀ (j a b : Nat), a < b -> b < 10 ^ j -> bytesBefore (digs j a) (digs j b) = true := by
 intro j
 induction j with
 | zero => intro a b h1 h2; omega
 | succ j ih =>
  intro a b h1 h2;unfold digs;by_cases h : a / 10 < b / 10
  ·exact before_more _ _ _ _ (by rw [digs_len, digs_len]) (ih _ _ h (by rw [Nat.pow_succ] at h2; omega))
  ·have e : a / 10 = b / 10 := by omega
   rw [e];refine before_pre _ _ _ ((before_cons _ _ _ _).2 (.inl (digit_lt (by omega))))
theorem name_before (k : Str) {a : Nat} (h1 : a < b) (h2 : b < 100000000) : bytesBefore (nameL k a) (nameL k b) = true := by
 unfold nameL;rw [List.append_assoc, List.append_assoc];exact before_pre _ _ _ (before_pre _ _ _ (digs_before 8 a b h1 (by omega)))
theorem name_inj (k : Str) {a : Nat} (h1 : a < 100000000) (h2 : b < 100000000) (h : nameL k a = nameL k b) : a = b := by
 have e1 := num_name k h1;rw [h, num_name k h2] at e1;exact (Option.some.inj e1).symm
theorem digs_head : ∀ (j n : Nat), digs (j + 1) n = UInt8.ofNat (48 + n / 10 ^ j % 10) :: digs j n := by
 intro j
 induction j with
 | zero => intro n; simp [digs]
 | succ j ih =>
  intro n
  conv => lhs; unfold digs
  rw [ih]
  conv => rhs; unfold digs
  rw [List.cons_append, Nat.div_div_eq_div_mul, Nat.pow_succ, Nat.mul_comm 10]
def fillD (j n : Nat) : List Nat := List.replicate (8 - j) 0 ++ (digs j n).map UInt8.toNat
theorem fillD_len (j n : Nat) (h : j <= 8) : (fillD j n).length = 8 := by
 unfold fillD;rw [List.length_append, List.length_replicate, List.length_map, digs_len];omega
theorem fillD_step (j n : Nat) (h : j < 8) : (fillD j n).set (7 - j) (48 + n / 10 ^ j % 10) = fillD (j + 1) n := by
 unfold fillD;rw [digs_head, List.map_cons];have e : 8 - j = (7 - j) + 1 := by omega
 have e2 : 8 - (j + 1) = 7 - j := by omega
 rw [e, e2, List.replicate_succ', List.append_assoc, List.set_append_right _ _ (by simp)];simp only [List.length_replicate, Nat.sub_self];rw [digit_ok]
 rfl
theorem fillD_all (n : Nat) : fillD 8 n = (digs 8 n).map UInt8.toNat := by
 unfold fillD
 rfl
theorem readF_step (f : Nat) (b : List Nat) (i : Nat) : readF (f + 1) b i = if b.length = 0 then ([], 0, true)
  else if (decL b).2.2 ≠ 0 then ([], 0, false)
  else if (rvl 0 0 (decL b).1).2.2 ≠ 0 \/ (rvl 0 0 (decL b).1).1 ≠ i then ([], 0, false)
  else ((decL b).1.drop (rvl 0 0 (decL b).1).2.1 :: (readF f (b.drop (decL b).2.1) (i + 1)).1, (decL b).2.1 + (readF f (b.drop (decL b).2.1) (i + 1)).2.1, (readF f (b.drop (decL b).2.1) (i + 1)).2.2) := by
 conv => lhs; unfold readF
theorem decL_pos {b : List Nat} (h : (decL b).2.2 = 0) : 8 <= (decL b).2.1 := by
 unfold decL at h ⊢;split at h
 ·simp at h
 ·split at h
  ·simp at h
  ·split at h
   ·simp at h
   ·split at h
    ·simp at h
    ·rename_i h1 h2 h3 h4
     rw [if_neg h1, if_neg h2, if_neg h3, if_neg h4]
     show 8 <= 8 + val32 b
     omega
theorem readF_more : ∀ (f g : Nat) (b : List Nat) (i : Nat), b.length <= f -> b.length <= g -> readF f b i = readF g b i := by
 intro f
 induction f with
 | zero =>
  intro g b i hf _;rcases g with _ | g
  ·rfl
  ·rw [readF_step, if_pos (by omega)]; unfold readF; rfl
 | succ f ih =>
  intro g b i hf hg;rcases g with _ | g
  ·rw [readF_step, if_pos (by omega)]; unfold readF; rfl
  ·rw [readF_step, readF_step];by_cases h : b.length = 0
   ·rw [if_pos h, if_pos h]
   ·rw [if_neg h, if_neg h];by_cases e : (decL b).2.2 ≠ 0
    ·rw [if_pos e, if_pos e]
    ·have := decL_pos (b := b) (by omega);rw [if_neg e, if_neg e, ih g (b.drop (decL b).2.1) (i + 1) (by rw [List.length_drop]; omega) (by rw [List.length_drop]; omega)]
theorem seg_end (i : Nat) : segL [] i = ([], 0, true) := rfl
theorem seg_bad {b : List Nat} (i : Nat) (h : b.length ≠ 0) (e : (decL b).2.2 ≠ 0) : segL b i = ([], 0, false) := by
 unfold segL;obtain ⟨f, hf⟩ : ∃ f, b.length = f + 1 := ⟨b.length - 1, by omega⟩;rw [hf, readF_step, if_neg h, if_pos e]
theorem seg_other {b : List Nat} (i : Nat) (h : b.length ≠ 0) (e : (decL b).2.2 = 0) (hn : (rvl 0 0 (decL b).1).2.2 ≠ 0 \/ (rvl 0 0 (decL b).1).1 ≠ i) : segL b i = ([], 0, false) := by
 unfold segL;obtain ⟨f, hf⟩ : ∃ f, b.length = f + 1 := ⟨b.length - 1, by omega⟩;rw [hf, readF_step, if_neg h, if_neg (by omega), if_pos hn]
theorem seg_more {b : List Nat} (i : Nat) (h : b.length ≠ 0) (e : (decL b).2.2 = 0) (hn : ¬ ((rvl 0 0 (decL b).1).2.2 ≠ 0 \/ (rvl 0 0 (decL b).1).1 ≠ i)) :
  segL b i = ((decL b).1.drop (rvl 0 0 (decL b).1).2.1 :: (segL (b.drop (decL b).2.1) (i + 1)).1, (decL b).2.1 + (segL (b.drop (decL b).2.1) (i + 1)).2.1, (segL (b.drop (decL b).2.1) (i + 1)).2.2) := by
 unfold segL;obtain ⟨f, hf⟩ : ∃ f, b.length = f + 1 := ⟨b.length - 1, by omega⟩;have := decL_pos e;rw [hf, readF_step, if_neg h, if_neg (by omega), if_neg hn, readF_more f _ (b.drop (decL b).2.1) (i + 1) (by rw [List.length_drop]; omega) (Nat.le_refl _)]
def Fits (i : Nat) (p : List Nat) : Prop := i < 100000000 /\ p.length <= 1048566
theorem uvl_ten (h : i < 100000000) : (uvl i).length <= 10 := uvl_len64 i (by omega)
theorem rec_len (i : Nat) (p : List Nat) : (recL i p).length = 8 + ((uvl i).length + p.length) := by unfold recL; rw [frame_len, List.length_append]
def FitsAll : Nat -> List (List Nat) -> Prop
 | _, [] => True
 | i, p :: r => Fits i p /\ FitsAll (i + 1) r
theorem recs_app : ∀ (i : Nat) (a b : List (List Nat)), recsL i (a ++ b) = recsL i a ++ recsL (i + a.length) b := by
 intro i a
 induction a generalizing i with
 | nil => intro b; rfl
 | cons p r ih =>
  intro b
  show recL i p ++ recsL (i + 1) (r ++ b) = (recL i p ++ recsL (i + 1) r) ++ _
  rw [ih, List.append_assoc, List.length_cons];congr 3;omega
def RowU (G : Nat -> Prop) (w : World) (u : Value) (xs : List Nat) : Prop := IsB w u xs /\ (xs ≠ [] -> ∀ b, u.ownBlock = some b -> G b /\ ∃ cur fr, w.heap[b]? = some (.cells cur 5 fr))
theorem isB_low {u : Value} {xs : List Nat} (h : IsB w u xs) (hne : xs ≠ []) : ∀ b, u.ownBlock = some b -> b < w.heap.size := by
 obtain ⟨A, c, rfl, hr, _⟩ := h;obtain ⟨b, off, rfl, hc⟩ := hr hne;intro b' e;have e' : b = b' := by simpa [Value.ownBlock] using e
 subst e';exact cell_lt (hc 0 (List.length_pos_iff.2 hne))
theorem RowU.turn {S : Nat -> Prop} {u : Value} {xs : List Nat} (h : RowU G w u xs) (t : Turn S w w') (hS : ∀ g, (∃ cur fr, w.heap[g]? = some (.cells cur 5 fr)) -> G g -> ¬ S g) : RowU G w' u xs := by
 rcases xs with _ | ⟨x, r⟩
 ·obtain ⟨A, c, e, _, hn⟩ := h.1;exact ⟨⟨A, c, e, fun q => absurd rfl q, hn⟩, fun q => absurd rfl q⟩
 ·have hb : ∀ b, u.ownBlock = some b -> ¬ S b := fun b e => hS b (h.2 (by simp) b e).2 (h.2 (by simp) b e).1
  refine ⟨h.1.turn t hb, fun hne b e => ?_⟩;obtain ⟨h1, cur, fr, h2⟩ := h.2 hne b e;exact ⟨h1, cur, fr, by rw [t.block b (heap_lt h2) (hb b e)]; exact h2⟩
theorem RowU.mono {u : Value} {xs : List Nat} (h : RowU G w u xs) (hG : ∀ g, g < w.heap.size -> G g -> G' g) : RowU G' w u xs := ⟨h.1, fun hne b e => ⟨hG b (isB_low h.1 hne b e) (h.2 hne b e).1, (h.2 hne b e).2⟩⟩
theorem Own.rowU {u : Value} {xs : List Nat} (h : Own w B u xs) (hG : ∀ g, B <= g -> g < w.heap.size -> G g) : RowU G w u xs := by
 refine ⟨h.isB, fun hne b e => ⟨hG b (h.lt b e).1 (h.lt b e).2, ?_⟩⟩;unfold Own at h;rcases h.2 with ⟨rfl, _⟩ | ⟨g, cap, cur, rfl, _, hh, _⟩
 ·cases e
 ·have e' : g = b := by simpa [Value.ownBlock] using e
  subst e';exact ⟨_, _, hh⟩
theorem RowU.tail {xs : List Nat} (h : RowU G w (.slice (some ⟨b, 0, none⟩) n c) xs) (k m d o : Nat) (hI : IsB w (.slice (some ⟨b, o, none⟩) m d) (xs.drop k)) : RowU G w (.slice (some ⟨b, o, none⟩) m d) (xs.drop k) := by
 refine ⟨hI, fun hne b' e => ?_⟩;have hx : xs ≠ [] := fun e2 => hne (by rw [e2]; simp)
 have e' : b = b' := by simpa [Value.ownBlock] using e
 subst e';exact h.2 hx b rfl
theorem RowU.one {u : Value} {xs : List Nat} (h : RowU G w u xs) : u.oneCell' = true := by
 obtain ⟨A, c, rfl, _⟩ := h.1
 rfl
def endsL : Nat -> Nat -> List (List Nat) -> List Nat
 | _, _, [] => []
 | a, i, p :: r => (a + (recL i p).length) :: endsL (a + (recL i p).length) (i + 1) r
theorem endsL_len : ∀ (es : List (List Nat)) (a i : Nat), (endsL a i es).length = es.length
 | [], _, _ => rfl
 | p :: r, a, i => by simp only [endsL, List.length_cons, endsL_len r]
theorem endsL_get : ∀ (es : List (List Nat)) (a i k : Nat), k < es.length -> (endsL a i es).getD k 0 = a + (recsL i (es.take (k + 1))).length
 | [], _, _, _, h => absurd h (by simp)
 | p :: r, a, i, 0, _ => by simp [endsL, recsL]
 | p :: r, a, i, k + 1, h => by
  have h' : k < r.length := by simpa using h
  have ih := endsL_get r (a + (recL i p).length) (i + 1) k h';simp only [endsL, List.getD_cons_succ, List.take_succ_cons, recsL, List.length_append];rw [ih];omega
theorem endsL_snoc : ∀ (es : List (List Nat)) (a i : Nat) (p : List Nat), endsL a i (es ++ [p]) = endsL a i es ++ [a + (recsL i es).length + (recL (i + es.length) p).length]
 | [], a, i, p => by simp [endsL, recsL]
 | q :: r, a, i, p => by
  simp only [List.cons_append, endsL, recsL, endsL_snoc r, List.length_append, List.length_cons];rw [show i + 1 + r.length = i + (r.length + 1) by omega];simp [Nat.add_assoc]
def cellsN : List Value -> List Nat -> List Value
 | u :: us, e :: es => u :: .int .i64 (e : Int) :: cellsN us es
 | _, _ => []
theorem cellsN_app : ∀ (us vs : List Value) (es fs : List Nat), us.length = es.length -> cellsN (us ++ vs) (es ++ fs) = cellsN us es ++ cellsN vs fs
 | [], _, [], _, _ => rfl
 | u :: us, vs, e :: es, fs, h => by simp only [List.cons_append, cellsN, cellsN_app us vs es fs (by simpa using h)]
theorem cellsN_at : ∀ (us : List Value) (es : List Nat) (i : Nat), us.length = es.length -> i < us.length -> (cellsN us es)[i * 2]? = some (us.getD i (.slice none 0 0)) /\ (cellsN us es)[i * 2 + 1]? = some (.int .i64 ((es.getD i 0 : Nat) : Int))
 | u :: us, e :: es, 0, _, _ => by simp [cellsN]
 | u :: us, e :: es, i + 1, h, hi => by
  obtain ⟨h1, h2⟩ := cellsN_at us es i (by simpa using h) (by simpa using hi);have e1 : (i + 1) * 2 = i * 2 + 2 := by omega
  have e2 : (i + 1) * 2 + 1 = i * 2 + 1 + 2 := by omega
  rw [e2, e1];refine ⟨?_, ?_⟩
  ·simpa [cellsN] using h1
  ·show (cellsN (u :: us) (e :: es))[i * 2 + 1 + 2]? = _
   simpa [cellsN] using h2
def SegE (G : Nat -> Prop) (w : World) (v : Value) (f : Nat) (es : List (List Nat)) : Prop :=
 ∃ us, us.length = es.length /\ w.ownsRow 0 121 2 v es.length (cellsN us (endsL 0 f es)) /\ (∀ g, v.ownBlock = some g -> G g) /\ ∀ i, i < us.length -> RowU G w (us.getD i (.slice none 0 0)) (es.getD i [])
theorem SegE.nil (G : Nat -> Prop) (w : World) (f : Nat) : SegE G w (.slice none 0 0) f [] := ⟨[], rfl, World.ownsRow_nil _ _ _ _, (fun g h => by cases h), fun i h => absurd h (by simp)⟩
theorem ownsRow_typed {s : Nat} {e : TypeId} {v : Value} {l : List Value} (h : w.ownsRow B e s v n l) (hv : v.ownBlock = some g) : ∃ cur, w.heap[g]? = some (.cells cur e (0, 0)) := by
 rcases h.2 with ⟨rfl, _⟩ | ⟨g', cap, cur, rfl, _, hh, _⟩
 ·cases hv
 ·have e' : g' = g := by simpa [Value.ownBlock] using hv
  subst e';exact ⟨_, hh⟩
theorem SegE.turn {S : Nat -> Prop} {v : Value} {f : Nat} {es : List (List Nat)} (h : SegE G w v f es) (t : Turn S w w') (hv : ∀ g, v.ownBlock = some g -> ¬ S g)
  (hS : ∀ g, (∃ cur fr, w.heap[g]? = some (.cells cur 5 fr)) -> G g -> ¬ S g) : SegE G w' v f es := by
 obtain ⟨us, h1, h2, h3, h4⟩ := h;exact ⟨us, h1, ownsRow_turn h2 t hv, h3, fun i hi => (h4 i hi).turn t hS⟩
theorem SegE.mono {v : Value} {f : Nat} {es : List (List Nat)} (h : SegE G w v f es) (hG : ∀ g, g < w.heap.size -> G g -> G' g) : SegE G' w v f es := by
 obtain ⟨us, h1, h2, h3, h4⟩ := h;exact ⟨us, h1, h2, fun g hg => hG g (World.ownsRow.lt h2 g hg).2 (h3 g hg), fun i hi => (h4 i hi).mono hG⟩
theorem SegE.form {v : Value} {f : Nat} {es : List (List Nat)} (h : SegE G w v f es) : ∃ A c, v = .slice A es.length c /\ es.length <= c /\ c <= 9223372036854775807 /\ (A = none -> c = 0) /\
  ∀ i, i < es.length -> ∃ g u, A = some ⟨g, 0, none⟩ /\ g < w.heap.size /\ w.cell? ⟨g, i * 2, none⟩ = some u /\ w.cell? ⟨g, i * 2 + 1, none⟩ = some (.int .i64 ((recsL f (es.take (i + 1))).length : Int)) /\ RowU G w u (es.getD i []) := by
 obtain ⟨us, h1, h2, h3, h4⟩ := h;have hl : us.length = (endsL 0 f es).length := by rw [endsL_len, h1]
 rcases h2.2 with ⟨rfl, hn⟩ | ⟨g, cap, cur, rfl, hb, hg, c1, c2, _⟩
 ·exact ⟨none, 0, by rw [hn], by omega, by decide, fun _ => rfl, fun i hi => by omega⟩
 ·refine ⟨_, cap, rfl, c1, by unfold maxLen at c2; omega, (fun e => by cases e), fun i hi => ⟨g, us.getD i (.slice none 0 0), rfl, heap_lt hg, ?_, ?_, h4 i (by omega)⟩⟩
  ·rw [World.ownsRow.cellAt h2 (i * 2) (by omega)];exact (cellsN_at us _ i hl (by omega)).1
  ·rw [World.ownsRow.cellAt h2 (i * 2 + 1) (by omega), (cellsN_at us _ i hl (by omega)).2, endsL_get es 0 f i hi, Nat.zero_add]
abbrev Sgp := Nat × Value × Bool × List (List Nat)
def cellsP : List Sgp -> List Value
 | [] => []
 | x :: r => .int .i64 (x.1 : Int) :: x.2.1 :: .bool x.2.2.1 :: cellsP r
theorem cellsP_length : ∀ X : List Sgp, (cellsP X).length = X.length * 3
 | [] => rfl
 | x :: r => by simp only [cellsP, List.length_cons, cellsP_length r]; omega
theorem cellsP_append : ∀ X Y : List Sgp, cellsP (X ++ Y) = cellsP X ++ cellsP Y
 | [], _ => rfl
 | x :: r, Y => by simp [cellsP, cellsP_append r Y]
theorem cellsP_at : ∀ (X : List Sgp) (i : Nat) (h : i < X.length), (cellsP X)[i * 3]? = some (.int .i64 (X[i].1 : Int)) /\ (cellsP X)[i * 3 + 1]? = some X[i].2.1 /\ (cellsP X)[i * 3 + 2]? = some (.bool X[i].2.2.1)
 | x :: r, 0, _ => by simp [cellsP]
 | x :: r, i + 1, h => by
  have h' : i < r.length := by simpa using h
  obtain ⟨h1, h2, h3⟩ := cellsP_at r i h';have e1 : (i + 1) * 3 = i * 3 + 3 := by omega
  have e2 : (i + 1) * 3 + 1 = i * 3 + 1 + 3 := by omega
  have e3 : (i + 1) * 3 + 2 = i * 3 + 2 + 3 := by omega
  rw [e3, e2, e1];refine ⟨?_, ?_, ?_⟩
  ·simpa [cellsP] using h1
  ·show (cellsP (x :: r))[i * 3 + 1 + 3]? = _
   simpa [cellsP] using h2
  ·show (cellsP (x :: r))[i * 3 + 2 + 3]? = _
   simpa [cellsP] using h3
structure PLog where
 segs : List (Nat × List (List Nat) × Bool)
 next : Nat
def segP (x : Sgp) : Nat × List (List Nat) × Bool := (x.1, x.2.2.2, x.2.2.1)
structure PLogW (w : World) (G : Nat -> Prop) (l dp : Nat) (s : ByteArray) (vS : Value) (X : List Sgp) (nx : Nat) : Prop where
 cells : Blk w 0 114 l [.pointer (some ⟨dp, 0, none⟩), .string s, vS, .int .i64 (nx : Int)]
 row : w.ownsRow 0 119 3 vS X.length (cellsP X)
 each : ∀ x ∈ X, SegE G w x.2.1 x.1 x.2.2.2
 far : X.Pairwise (fun x y => ∀ g, x.2.1.ownBlock = some g -> y.2.1.ownBlock ≠ some g)
 own : G l
 mine : ∀ g, vS.ownBlock = some g -> G g
 low : ∀ g, G g -> g < w.heap.size
def PLogAt (w : World) (G : Nat -> Prop) (l dp : Nat) (s : ByteArray) (P : PLog) : Prop := ∃ vS X, P.segs = X.map segP /\ PLogW w G l dp s vS X P.next
theorem PLogW.turn {S : Nat -> Prop} {vS : Value} {X : List Sgp} {nx : Nat} (h : PLogW w G l dp s vS X nx) (t : Turn S w w') (hS : ∀ g, G g -> ¬ S g) : PLogW w' G l dp s vS X nx :=
 ⟨h.cells.turn t (hS l h.own), ownsRow_turn h.row t (fun g hg => hS g (h.mine g hg)), fun x hx => (h.each x hx).turn t (fun g hg => by obtain ⟨_, _, _, h3, _⟩ := h.each x hx; exact hS g (h3 g hg)) (fun g _ hg => hS g hg), h.far, h.own, h.mine, fun g hg => Nat.lt_of_lt_of_le (h.low g hg) t.size⟩
theorem PLogW.below {vS : Value} {X : List Sgp} {nx : Nat} (h : PLogW w G l dp s vS X nx) (k : Below w.heap.size w w') : PLogW w' G l dp s vS X nx := h.turn (S := fun _ => False) (Turn.of_below _ k) (fun _ _ => id)
theorem PLogAt.turn {S : Nat -> Prop} {P : PLog} (h : PLogAt w G l dp s P) (t : Turn S w w') (hS : ∀ g, G g -> ¬ S g) : PLogAt w' G l dp s P := by
 obtain ⟨vS, X, e, h⟩ := h;exact ⟨vS, X, e, h.turn t hS⟩
theorem PLogAt.below {P : PLog} (h : PLogAt w G l dp s P) (k : Below w.heap.size w w') : PLogAt w' G l dp s P := h.turn (S := fun _ => False) (Turn.of_below _ k) (fun _ _ => id)
theorem PLogAt.low {P : PLog} (h : PLogAt w G l dp s P) : ∀ g, G g -> g < w.heap.size := by
 obtain ⟨vS, X, e, h⟩ := h;exact h.low
theorem rowP_form {v : Value} {X : List Sgp} (h : w.ownsRow B 119 3 v X.length (cellsP X)) : ∃ A c, v = .slice A X.length c /\ X.length <= c /\ c <= 9223372036854775807 /\ (A = none -> c = 0) /\
  ∀ i (hi : i < X.length), ∃ g, A = some ⟨g, 0, none⟩ /\ B <= g /\ g < w.heap.size /\ w.cell? ⟨g, i * 3, none⟩ = some (.int .i64 (X[i].1 : Int)) /\ w.cell? ⟨g, i * 3 + 1, none⟩ = some X[i].2.1 /\ w.cell? ⟨g, i * 3 + 2, none⟩ = some (.bool X[i].2.2.1) /\ ∀ j, w.frozen? ⟨g, j, none⟩ = false := by
 rcases h.2 with ⟨rfl, hn⟩ | ⟨g, cap, cur, rfl, hb, hg, h1, h2, _⟩
 ·exact ⟨none, 0, by rw [hn], by omega, by decide, fun _ => rfl, fun i hi => by omega⟩
 ·refine ⟨_, cap, rfl, h1, by unfold maxLen at h2; omega, (fun e => by cases e), fun i hi => ⟨g, rfl, hb, heap_lt hg, ?_, ?_, ?_, fun j => World.ownsRow.frozenAt h j⟩⟩
  ·rw [World.ownsRow.cellAt h (i * 3) (by omega)];exact (cellsP_at X i hi).1
  ·rw [World.ownsRow.cellAt h (i * 3 + 1) (by omega)];exact (cellsP_at X i hi).2.1
  ·rw [World.ownsRow.cellAt h (i * 3 + 2) (by omega)];exact (cellsP_at X i hi).2.2
def SofarG (xs : List Nat) (i k : Nat) (acc : List (List Nat)) : Prop :=
 (segL xs i).1 = acc ++ (segL (xs.drop k) (i + acc.length)).1 /\ (segL xs i).2.1 = k + (segL (xs.drop k) (i + acc.length)).2.1 /\ (segL xs i).2.2 = (segL (xs.drop k) (i + acc.length)).2.2 /\ acc.length <= k
theorem SofarG.start (xs : List Nat) (i : Nat) : SofarG xs i 0 [] := by
 unfold SofarG;rw [List.drop_zero];exact ⟨rfl, (Nat.zero_add _).symm, rfl, Nat.le_refl _⟩
theorem SofarG.next {xs : List Nat} {acc : List (List Nat)} (h : SofarG xs i k acc) (hk : k < xs.length) (e : (decL (xs.drop k)).2.2 = 0) (hn : (rvl 0 0 (decL (xs.drop k)).1).2.2 = 0) (hv : (rvl 0 0 (decL (xs.drop k)).1).1 = i + acc.length) :
  SofarG xs i (k + (decL (xs.drop k)).2.1) (acc ++ [(decL (xs.drop k)).1.drop (rvl 0 0 (decL (xs.drop k)).1).2.1]) := by
 obtain ⟨g1, g2, g3, g4⟩ := h;have hne : (xs.drop k).length ≠ 0 := by rw [List.length_drop]; omega
 have hm := seg_more (i + acc.length) hne e (by rintro (h1 | h1); exact h1 hn; exact h1 hv);have h8 := decL_pos e;rw [hm] at g1 g2 g3;unfold SofarG;rw [List.length_append, List.length_singleton, <- Nat.add_assoc, <- List.drop_drop];refine ⟨by rw [g1, List.append_assoc]; rfl, (by rw [g2]; exact (Nat.add_assoc _ _ _).symm), g3, by omega⟩
theorem SofarG.bad {xs : List Nat} {acc : List (List Nat)} (h : SofarG xs i k acc) (hk : k < xs.length) (e : (decL (xs.drop k)).2.2 ≠ 0 \/ (rvl 0 0 (decL (xs.drop k)).1).2.2 ≠ 0 \/ (rvl 0 0 (decL (xs.drop k)).1).1 ≠ i + acc.length) : segL xs i = (acc, k, false) := by
 obtain ⟨g1, g2, g3, _⟩ := h;have hne : (xs.drop k).length ≠ 0 := by rw [List.length_drop]; omega
 have hs : segL (xs.drop k) (i + acc.length) = ([], 0, false) := by
  by_cases h0 : (decL (xs.drop k)).2.2 = 0
  ·exact seg_other _ hne h0 (e.resolve_left (fun h => h h0))
  ·exact seg_bad _ hne h0
 rw [hs] at g1 g2 g3;rw [List.append_nil] at g1;exact Prod.ext g1 (Prod.ext g2 g3)
theorem SofarG.done {xs : List Nat} {acc : List (List Nat)} (h : SofarG xs i k acc) (hk : xs.length <= k) : segL xs i = (acc, k, true) := by
 obtain ⟨g1, g2, g3, _⟩ := h;have hd : xs.drop k = [] := List.drop_of_length_le hk;rw [hd, seg_end] at g1 g2 g3;rw [List.append_nil] at g1;exact Prod.ext g1 (Prod.ext g2 g3)
theorem rvl_in {xs : List Nat} (hb : ∀ x ∈ xs, x < 256) (h : (rvl 0 0 xs).2.2 = 0) : (rvl 0 0 xs).2.1 <= xs.length := by
 rcases e : rvl 0 0 xs with ⟨v, m, q⟩;rw [e] at h;have h : q = 0 := h;subst h;obtain ⟨u, _, _, h3, h4⟩ := rvl_inv xs 0 0 v m hb (by omega) e;have := congrArg List.length h3;rw [List.length_append, List.length_drop] at this
 show m <= xs.length
 omega
abbrev Fl := Nat × (List Nat × Nat)
def Rises (X : List Fl) : Prop := X.Pairwise (fun a b => a.1 < b.1) /\ ∀ x ∈ X, 1 <= x.1 /\ x.1 < 100000000
theorem Rises.tail {x : Fl} {X : List Fl} (h : Rises (x :: X)) : Rises X := ⟨(List.pairwise_cons.1 h.1).2, fun y hy => h.2 y (List.mem_cons_of_mem _ hy)⟩
abbrev Tl := Nat × List (List Nat) × Nat
def fileT (t : Tl) : Fl := (t.1, (recsL t.1 t.2.1, t.2.2))
def segT (t : Tl) : Sg := (t.1, t.2.1)
def flatS (S : List Sg) : List (List Nat) := S.flatMap fun s => s.2
def Chain : Nat -> List Sg -> Nat -> Prop
 | i, [], n => i = n
 | i, s :: r, n => s.1 = i /\ Chain (i + s.2.length) r n
theorem chain_len : ∀ {S : List Sg} {i n : Nat}, Chain i S n -> n = i + (flatS S).length := by
 intro S
 induction S with
 | nil => intro i n h; simp [flatS]; exact h.symm
 | cons s r ih =>
  intro i n h;have := ih h.2;rw [this];simp [flatS];omega
theorem chain_app : ∀ {S R : List Sg} {i n m : Nat}, Chain i S n -> Chain n R m -> Chain i (S ++ R) m := by
 intro S
 induction S with
 | nil => intro R i n m h1 h2; have : i = n := h1; rw [this]; exact h2
 | cons s r ih => intro R i n m h1 h2; exact ⟨h1.1, ih h1.2 h2⟩
theorem chain_first {S : List Sg} {d : List Nat} (h : Chain i S n) : firstL ⟨S, n, d⟩ = i := by
 rcases S with _ | ⟨s, r⟩
 ·exact Eq.symm h
 ·exact h.1
theorem getE_chain : ∀ {S : List Sg} {i n nx : Nat} {d : List Nat} (z : Int), Chain i S n -> getE ⟨S, nx, d⟩ z = if (i : Int) <= z /\ z < (n : Int) then ((flatS S).getD (z - i).toNat [], 0) else ([], 7) := by
 intro S
 induction S with
 | nil =>
  intro i n nx d z h;have : i = n := h;rw [if_neg (by omega)]
  rfl
 | cons s r ih =>
  intro i n nx d z h;obtain ⟨h1, h2⟩ := h;have hl := chain_len h2;rw [getE_cons, ih z h2, h1];by_cases hz : (i : Int) <= z /\ z < (i : Int) + s.2.length
  ·rw [if_pos hz, if_pos (by omega)];have e : (flatS (s :: r)).getD (z - i).toNat [] = s.2.getD (z - i).toNat [] := by
    show (s.2 ++ flatS r).getD (z - i).toNat [] = _
    simp only [List.getD_eq_getElem?_getD];rw [List.getElem?_append_left (by omega)]
   rw [e]
  ·rw [if_neg hz];by_cases hw : (i : Int) <= z /\ z < (n : Int)
   ·rw [if_pos hw, if_pos (by omega)];have e : (flatS (s :: r)).getD (z - i).toNat [] = (flatS r).getD (z - ((i + s.2.length : Nat) : Int)).toNat [] := by
     show (s.2 ++ flatS r).getD (z - i).toNat [] = _
     simp only [List.getD_eq_getElem?_getD];rw [List.getElem?_append_right (by omega)];congr 2;omega
    rw [e]
   ·rw [if_neg hw, if_neg (by omega)]
structure GoodT (i : Nat) (T : List Tl) (n : Nat) : Prop where
 chain : Chain i (T.map segT) n
 some : ∀ t ∈ T, t.2.1 ≠ []
 fits : ∀ t ∈ T, FitsAll t.1 t.2.1
 last : ∀ t ∈ T, t.2.2 <= (recsL t.1 t.2.1).length
theorem GoodT.tail {t : Tl} {T : List Tl} (h : GoodT i (t :: T) n) : GoodT (i + t.2.1.length) T n :=
 ⟨h.chain.2, fun x hx => h.some x (List.mem_cons_of_mem _ hx), fun x hx => h.fits x (List.mem_cons_of_mem _ hx), fun x hx => h.last x (List.mem_cons_of_mem _ hx)⟩
inductive Crashed : List Tl -> List Fl -> Prop where
 | nil : Crashed [] []
 | cons {T : List Tl} {X : List Fl} (t : Tl) (m : Nat) (h1 : t.2.2 <= m) (h2 : m <= (recsL t.1 t.2.1).length) (h : Crashed T X) : Crashed (t :: T) ((t.1, ((recsL t.1 t.2.1).take m, m)) :: X)
theorem Crashed.rises {T : List Tl} {X : List Fl} (h : Crashed T X) (hr : Rises (T.map fileT)) : Rises X := by
 have e : ∀ {T : List Tl} {X : List Fl}, Crashed T X -> X.map (·.1) = (T.map fileT).map (·.1) := fun {T X} h => by
  induction h with
  | nil => rfl
  | cons t m _ _ _ ih => rw [List.map_cons, List.map_cons, List.map_cons, ih]; rfl
 obtain ⟨h1, h2⟩ := hr;have h3 := List.pairwise_map (f := fun x : Fl => x.1) (R := fun a b => a < b) (l := T.map fileT);refine ⟨?_, fun x hx => ?_⟩
 ·have p := h3.2 h1;rw [<- e h, List.pairwise_map] at p;exact p
 ·have hx1 : x.1 ∈ X.map (·.1) := List.mem_map.2 ⟨x, hx, rfl⟩;rw [e h] at hx1;obtain ⟨y, hy, hy2⟩ := List.mem_map.1 hx1;rw [<- hy2];exact h2 y hy
theorem chain_split : ∀ {S R : List Sg} {i n : Nat}, Chain i (S ++ R) n -> ∃ m, Chain i S m /\ Chain m R n := by
 intro S
 induction S with
 | nil => intro R i n h; exact ⟨i, rfl, h⟩
 | cons s r ih =>
  intro R i n h;obtain ⟨m, h1, h2⟩ := ih h.2;exact ⟨m, ⟨h.1, h1⟩, h2⟩
abbrev Sgf := Nat × List (List Nat) × Bool
def bareP (x : Sgf) : Sg := (x.1, x.2.1)
theorem chain_idx : ∀ {S : List Sg} {i n : Nat}, Chain i S n -> (∀ a (h : a + 1 < S.length), S[a + 1].1 = S[a].1 + S[a].2.length) /\ (∀ h : 0 < S.length, S[0].1 = i /\ S[S.length - 1].1 + S[S.length - 1].2.length = n) := by
 intro S
 induction S with
 | nil => intro i n _; exact ⟨fun a h => absurd h (by simp), fun h => absurd h (by simp)⟩
 | cons s r ih =>
  intro i n h;obtain ⟨h1, h2⟩ := h;obtain ⟨g1, g2⟩ := ih h2;refine ⟨fun a h => ?_, fun h => ⟨h1, ?_⟩⟩
  ·rcases a with _ | a
   ·have hr : 0 < r.length := by simpa using h
    have := (g2 hr).1;simp only [List.getElem_cons_succ, List.getElem_cons_zero];rw [this, h1]
   ·have hr : a + 1 < r.length := by simpa using h
    simp only [List.getElem_cons_succ];exact g1 a hr
  ·rcases r with _ | ⟨t, r⟩
   ·have h2 : i + s.2.length = n := h2
    show s.1 + s.2.length = n
    rw [h1];exact h2
   ·have := (g2 (by simp)).2;simpa using this
theorem chain_rise {S : List Sg} (h : Chain i S n) (hs : ∀ s ∈ S.dropLast, s.2 ≠ []) : ∀ a b (ha : a < S.length) (hb : b < S.length), a < b -> S[a].1 < S[b].1 := by
 have hstep : ∀ a (h2 : a + 1 < S.length), S[a].1 < S[a + 1].1 := fun a h2 => by
  rw [(chain_idx h).1 a h2];have hm : S[a] ∈ S.dropLast := by
   rw [List.dropLast_eq_take];exact List.mem_take_iff_getElem.2 ⟨a, by omega, rfl⟩
  have := List.length_pos_iff.2 (hs _ hm);omega
 intro a b ha hb hab;obtain ⟨d, rfl⟩ : ∃ d, b = a + 1 + d := ⟨b - a - 1, by omega⟩
 induction d with
 | zero => exact hstep a hb
 | succ d ih => exact Nat.lt_trans (ih (by omega) (by omega)) (hstep (a + 1 + d) hb)
theorem chain_ends {S : List Sg} (h : Chain i S n) (hs : ∀ s ∈ S.dropLast, s.2 ≠ []) : ∀ a b (ha : a < S.length) (hb : b < S.length), a < b -> S[a].1 + S[a].2.length <= S[b].1 := by
 intro a b ha hb hab;rw [<- (chain_idx h).1 a (by omega)];by_cases hd : a + 1 = b
 ·subst hd;exact Nat.le_refl _
 ·exact Nat.le_of_lt (chain_rise h hs (a + 1) b (by omega) hb (by omega))
theorem getE_at {S : List Sg} {j : Nat} {d : List Nat} {z : Int} (hj : j < S.length) (h1 : (S[j].1 : Int) <= z) (h2 : z < (S[j].1 : Int) + S[j].2.length) (h3 : ∀ k (hk : k < j), (S[k].1 : Int) + S[k].2.length <= z) : getE ⟨S, n, d⟩ z = (S[j].2.getD (z - S[j].1).toNat [], 0) := by
 unfold getE;dsimp only;have e : S.find? (fun s => decide ((s.1 : Int) <= z /\ z < (s.1 : Int) + s.2.length)) = some S[j] := by
  rw [List.find?_eq_some_iff_getElem];refine ⟨by simpa using ⟨h1, h2⟩, j, hj, rfl, fun k hk => ?_⟩;have := h3 k hk;simp only [Bool.not_eq_eq_eq_not, Bool.not_true, decide_eq_false_iff_not];omega
 rw [e]
theorem getE_ahead {S : List Sg} {j : Nat} {d : List Nat} {z : Int} (h : Chain i S n) (hs : ∀ s ∈ S.dropLast, s.2 ≠ []) (hz1 : (i : Int) <= z) (hz2 : z < (n : Int)) (hjl : j <= S.length) (hj : ∀ k (hk : k < S.length), k < j ↔ (S[k].1 : Int) < z + 1) :
  ∃ _ : 1 <= j, ∃ h2 : j - 1 < S.length, (S[j - 1].1 : Int) <= z /\ z < (S[j - 1].1 : Int) + S[j - 1].2.length /\ getE ⟨S, n, d⟩ z = (S[j - 1].2.getD (z - S[j - 1].1).toNat [], 0) := by
 obtain ⟨c1, c2⟩ := chain_idx h;have hpos : 0 < S.length := by
  rcases S with _ | ⟨s, r⟩
  ·have : i = n := h;omega
  ·simp
 have h0 := (c2 hpos).1;have hn := (c2 hpos).2;have hj1 : 1 <= j := by
  have := (hj 0 hpos).2 (by rw [h0]; omega);omega
 have hjs : j - 1 < S.length := by omega
 have k1 : (S[j - 1].1 : Int) <= z := by
  have := (hj (j - 1) hjs).1 (by omega);omega
 have k2 : z < (S[j - 1].1 : Int) + S[j - 1].2.length := by
  by_cases hjl2 : j < S.length
  ·have e := c1 (j - 1) (by omega);have e2 : S[j - 1 + 1]'(by omega) = S[j] := by congr 1; omega
   rw [e2] at e;have := fun q => (hj j hjl2).2 q
   have h5 : ¬ ((S[j].1 : Int) < z + 1) := fun q => by have := this q; omega
   omega
  ·have e2 : S[S.length - 1]'(by omega) = S[j - 1] := by congr 1; omega
   rw [e2] at hn;omega
 refine ⟨hj1, hjs, k1, k2, getE_at hjs k1 k2 fun k hk => ?_⟩;have := chain_ends h hs k (j - 1) (by omega) hjs hk;omega
theorem getE_out {S : List Sg} {d : List Nat} {z : Int} (h : Chain i S n) (hz : z < (i : Int) \/ (n : Int) <= z) : getE ⟨S, n, d⟩ z = ([], 7) := by
 rw [getE_chain z h, if_neg (by omega)]
theorem ext_takeP (s : ByteArray) (b : Nat) : (s.extract 0 b).toList = s.data.toList.take b := by
 rw [ByteArray.toList_eq, ByteArray.data_extract, Array.toList_extract];simp [List.extract]
theorem ext_dropP (s : ByteArray) (b : Nat) : (s.extract b s.size).data.toList = s.data.toList.drop b := by
 rw [ByteArray.data_extract, Array.toList_extract];have h : s.data.toList.length = s.size := rfl;simp [List.extract];exact List.take_of_length_le (by rw [List.length_drop, h]; exact Nat.le_refl _)
theorem drop_byteP (s : Str) (p : Nat) (hp : p < s.length) : s.drop p = s.getD p 0 :: s.drop (p + 1) := by
 rw [List.drop_eq_getElem_cons hp];simp [hp]
set_option maxRecDepth 100000 in
theorem hasprefix_any (s k : ByteArray) (w : World) :
  Calls Tryz.prog 142 #[.string s, .string k] w fun e w' => e = .returned (.bool (decide (s.data.toList.take k.size = k.data.toList))) /\ Below w.heap.size w w' := by
 obtain ⟨b, hb⟩ : ∃ b, k.size = b := ⟨_, rfl⟩;obtain ⟨a, ha⟩ : ∃ a, s.size = a := ⟨_, rfl⟩;have hsl : s.data.toList.length = a := ha;have hkl : k.data.toList.length = b := hb;by_cases hle : b <= a
 ·by_cases h : s.data.toList.take k.size = k.data.toList
  ·have hpre : ((s.extract 0 k.size).toList == k.toList) = true := by
    rw [ext_takeP, ByteArray.toList_eq];simpa using h
   have hd : decide (s.data.toList.take k.size = k.data.toList) = true := decide_eq_true h;rw [hd];rw [hb] at hpre;have h1 : (b : Int) <= (a : Int) := by omega
   clear hd h hsl hkl;go_enter Tryz.func142, Tryz.ntmps142;go_wp2_with fail
   go_ret;exact ⟨rfl, Below.refl _ _⟩
  ·have hpre : ((s.extract 0 k.size).toList == k.toList) = false := by
    rw [ext_takeP, ByteArray.toList_eq];simpa using h
   have hd : decide (s.data.toList.take k.size = k.data.toList) = false := decide_eq_false h;rw [hd];rw [hb] at hpre;have h1 : (b : Int) <= (a : Int) := by omega
   clear hd h hsl hkl;go_enter Tryz.func142, Tryz.ntmps142;go_wp2_with fail
   go_ret;exact ⟨rfl, Below.refl _ _⟩
 ·have hd : decide (s.data.toList.take k.size = k.data.toList) = false := decide_eq_false (fun e => by
   have := congrArg List.length e;rw [List.length_take, hkl, hsl, hb] at this;omega)
  rw [hd];have h1 : (a : Int) < (b : Int) := by omega
  clear hd hsl hkl;go_enter Tryz.func142, Tryz.ntmps142;go_wp2_with fail
  go_ret;exact ⟨rfl, Below.refl _ _⟩
theorem prefix_size {k : ByteArray} (h : s.data.toList.take k.size = k.data.toList) : k.size <= s.size := by
 have := congrArg List.length h;have h1 : s.data.toList.length = s.size := rfl;have h2 : k.data.toList.length = k.size := rfl;rw [List.length_take, h1, h2] at this;omega
set_option maxRecDepth 100000 in
theorem cutprefix_in (s k : ByteArray) (w : World) (h : s.data.toList.take k.size = k.data.toList) :
  Calls Tryz.prog 134 #[.string s, .string k] w fun e w' => ∃ u : ByteArray, e = .returned (.tuple #[.string u, .bool true]) /\ u.data.toList = s.data.toList.drop k.size /\ Below w.heap.size w w' := by
 have HP := hasprefix_any s k w;rw [decide_eq_true h] at HP;have HP := hide HP;have hsz := prefix_size h;have hu := ext_dropP s k.size;obtain ⟨b, hb⟩ : ∃ b, k.size = b := ⟨_, rfl⟩;obtain ⟨a, ha⟩ : ∃ a, s.size = a := ⟨_, rfl⟩;rw [hb, ha] at hu;rw [hb, ha] at hsz;rw [hb];have h1 : (b : Int) <= (a : Int) := by omega
 have h2 : (0 : Int) <= (b : Int) := by omega
 have HU := hide hu;clear hsz hu h;go_enter Tryz.func134, Tryz.ntmps134;go_wp2_with fail
 refine HP.out.mono ?_;rintro e w1 ⟨rfl, k1⟩;have K1 := hide k1;clear k1;go_wp2_with fail
 go_ret2;exact ⟨_, rfl, HU.out, K1.out⟩
set_option maxRecDepth 100000 in
theorem cutprefix_no (s k : ByteArray) (w : World) (h : s.data.toList.take k.size ≠ k.data.toList) :
  Calls Tryz.prog 134 #[.string s, .string k] w fun e w' => e = .returned (.tuple #[.string s, .bool false]) /\ Below w.heap.size w w' := by
 have HP := hasprefix_any s k w;rw [decide_eq_false h] at HP;have HP := hide HP;clear h;go_enter Tryz.func134, Tryz.ntmps134;go_wp2_with fail
 refine HP.out.mono ?_;rintro e w1 ⟨rfl, k1⟩;have K1 := hide k1;clear k1;go_wp2_with fail
 go_ret2;exact ⟨rfl, K1.out⟩
set_option maxRecDepth 100000 in
theorem cutpre_yes (s k : ByteArray) (w : World) (h : s.data.toList.take k.size = k.data.toList) :
  Calls Tryz.prog 111 #[.string s, .string k] w fun e w' => ∃ u : ByteArray, e = .returned (.tuple #[.string u, .bool true]) /\ u.data.toList = s.data.toList.drop k.size /\ Below w.heap.size w w' := by
 have HP := hide (cutprefix_in s k w h);clear h;go_enter Tryz.func111, Tryz.ntmps111;go_wp2_with fail
 refine HP.out.mono ?_;rintro e w1 ⟨u, rfl, hu, k1⟩;have K1 := hide k1;have HU := hide hu;clear k1 hu;go_wp2_with fail
 go_ret2;exact ⟨_, rfl, HU.out, K1.out⟩
set_option maxRecDepth 100000 in
theorem cutpre_no (s k : ByteArray) (w : World) (h : s.data.toList.take k.size ≠ k.data.toList) :
  Calls Tryz.prog 111 #[.string s, .string k] w fun e w' => e = .returned (.tuple #[.string s, .bool false]) /\ Below w.heap.size w w' := by
 have HP := hide (cutprefix_no s k w h);clear h;go_enter Tryz.func111, Tryz.ntmps111;go_wp2_with fail
 refine HP.out.mono ?_;rintro e w1 ⟨rfl, k1⟩;have K1 := hide k1;clear k1;go_wp2_with fail
 go_ret2;exact ⟨rfl, K1.out⟩
theorem numL_no {k s : Str} (h : s.take (k.length + 1) ≠ k ++ [46]) : numL k s = none := by
 unfold numL;by_cases hl : s.length = k.length + 9
 ·by_cases h1 : s.take k.length = k
  ·by_cases h2 : s.getD k.length 0 = 46
   ·refine absurd ?_ h;have e4 := drop_byteP s k.length (by omega);rw [h2] at e4;have e5 : s = k ++ 46 :: s.drop (k.length + 1) := by
     conv => lhs; rw [<- List.take_append_drop k.length s, h1, e4]
    rw [e5, show k ++ 46 :: s.drop (k.length + 1) = (k ++ [46]) ++ s.drop (k.length + 1) by simp];rw [List.take_left' (by simp)]
   ·rw [if_pos (.inr (.inr h2))]
  ·rw [if_pos (.inr (.inl h1))]
 ·rw [if_pos (.inl hl)]
theorem numL_yes {k s : Str} (h : s.take (k.length + 1) = k ++ [46]) : numL k s = if (s.drop (k.length + 1)).length ≠ 8 then none else valD 0 (s.drop (k.length + 1)) := by
 have hl : k.length + 1 <= s.length := by
  have := congrArg List.length h;rw [List.length_take, List.length_append] at this;simp at this;omega
 have h1 : s.take k.length = k := by
  have := congrArg (List.take k.length) h;rw [List.take_take, show min k.length (k.length + 1) = k.length by omega, List.take_left' rfl] at this;exact this
 have h2 : s.getD k.length 0 = 46 := by
  have := congrArg (fun l : Str => l.getD k.length 0) h;simp only [List.getD_eq_getElem?_getD] at this ⊢;rw [List.getElem?_take_of_lt (by omega)] at this;rw [this];simp
 unfold numL;rw [List.length_drop];by_cases h8 : s.length = k.length + 9
 ·rw [if_neg (by rintro (e | e | e); exact e h8; exact e h1; exact e h2), if_neg (by omega)]
 ·rw [if_pos (.inl h8), if_pos (by omega)]
end Go.Proofs.YtedlibkkeegnaaaGreat
