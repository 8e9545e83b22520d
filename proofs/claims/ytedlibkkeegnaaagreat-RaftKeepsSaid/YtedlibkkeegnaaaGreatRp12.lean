/- A log in segments, as lists: names, records, what each call does. It names nothing of the program but the disk's lists. Names of segments: eight digits that are -/
import Derived.Test.YtedlibkkeegnaaaGreatRp11
import Derived.Test.YtedlibkkeegnaaaGreatRp9
namespace Go.Proofs.YtedlibkkeegnaaaGreat
open Go.RowKit Go.Maps
variable {w w' : World} {G G' : Nat -> Prop} {s : ByteArray} {B dp l m g n c i k b : Nat}
def digs : Nat -> Nat -> Str
 | 0, _ => []
 | j + 1, n => digs j (n / 10) ++ [UInt8.ofNat (48 + n % 10)]
def nameL (k : Str) (n : Nat) : Str := k ++ [46] ++ digs 8 n
def valD : Nat -> Str -> Option Nat
 | v, [] => some v
 | v, c :: cs => if c < 48 \/ 57 < c then none else valD (v * 10 + (c.toNat - 48)) cs
def numL (k s : Str) : Option Nat := if s.length ≠ k.length + 9 \/ s.take k.length ≠ k \/ s.getD k.length 0 ≠ 46 then none else valD 0 (s.drop (k.length + 1))
def recL (i : Nat) (p : List Nat) : List Nat := frameL (uvl i ++ p)
def recsL : Nat -> List (List Nat) -> List Nat
 | _, [] => []
 | i, p :: r => recL i p ++ recsL (i + 1) r
def readF : Nat -> List Nat -> Nat -> List (List Nat) × Nat × Bool
 | 0, _, _ => ([], 0, true)
 | f + 1, b, i =>
  if b.length = 0 then ([], 0, true)
  else if (decL b).2.2 ≠ 0 then ([], 0, false)
  else if (rvl 0 0 (decL b).1).2.2 ≠ 0 \/ (rvl 0 0 (decL b).1).1 ≠ i then ([], 0, false)
  else ((decL b).1.drop (rvl 0 0 (decL b).1).2.1 :: (readF f (b.drop (decL b).2.1) (i + 1)).1, (decL b).2.1 + (readF f (b.drop (decL b).2.1) (i + 1)).2.1, (readF f (b.drop (decL b).2.1) (i + 1)).2.2)
def segL (b : List Nat) (i : Nat) : List (List Nat) × Nat × Bool := readF b.length b i
abbrev Sg := Nat × List (List Nat)
structure LogL where
 segs : List Sg
 next : Nat
 dirty : List Nat
structure OpenS where
 bad : Bool
 log : LogL
 disk : DiskL
def openStep (k : Str) (o : OpenS) (name : Str) : OpenS :=
 match numL k name with
 | none => o
 | some n =>
  if o.bad = true \/ n < 1 \/ (o.log.segs ≠ [] /\ n ≠ o.log.next) then ⟨true, o.log, (remL name o.disk).1⟩
  else if (segL (readL name o.disk).1 n).2.2 = true then ⟨false, ⟨o.log.segs ++ [(n, (segL (readL name o.disk).1 n).1)], n + (segL (readL name o.disk).1 n).1.length, o.log.dirty ++ [n]⟩, o.disk⟩
  else if (segL (readL name o.disk).1 n).2.1 = 0 then ⟨true, o.log, (remL name o.disk).1⟩
  else ⟨true, ⟨o.log.segs ++ [(n, (segL (readL name o.disk).1 n).1)], n + (segL (readL name o.disk).1 n).1.length, o.log.dirty ++ [n]⟩, (cutL name ((segL (readL name o.disk).1 n).2.1 : Int) o.disk).1⟩
def openR (k : Str) (L : DiskL) : OpenS := (L.map (·.1)).foldl (openStep k) ⟨false, ⟨[], 1, []⟩, L⟩
def firstL (M : LogL) : Nat := (M.segs.head?.map (·.1)).getD M.next
def sizeL (k : Str) (L : DiskL) : Nat := ((getK k L).map (·.1.length)).getD 0
def freshL (k : Str) (M : LogL) (L : DiskL) : Bool := match M.segs.getLast? with
 | none => true
 | some s => decide (1024 <= sizeL (nameL k s.1) L)
def lastL (M : LogL) : Nat := (M.segs.getLast?.map (·.1)).getD M.next
def whereL (k : Str) (M : LogL) (L : DiskL) : Nat := if freshL k M L = true then M.next else lastL M
def laidL (l : List Sg) (p : List Nat) : List Sg := match l.getLast? with
 | none => []
 | some s => l.dropLast ++ [(s.1, s.2 ++ [p])]
def addL (room : Nat) (k : Str) (p : List Nat) (M : LogL) (L : DiskL) : (LogL × DiskL) × Nat × Nat :=
 if 1048566 < p.length then ((M, L), 0, 5)
 else if 99999999 <= M.next then ((M, L), 0, 6)
 else if (appL room (nameL k (whereL k M L)) (recL M.next p) L).2 ≠ 0 then ((M, L), 0, (appL room (nameL k (whereL k M L)) (recL M.next p) L).2)
 else ((⟨laidL (if freshL k M L = true then M.segs ++ [(M.next, [])] else M.segs) p, M.next + 1, M.dirty ++ [whereL k M L]⟩, (appL room (nameL k (whereL k M L)) (recL M.next p) L).1), M.next, 0)
def syncsL (k : Str) (l : List Nat) (L : DiskL) : DiskL := l.foldl (fun L n => (syncL (nameL k n) L).1) L
def getE (M : LogL) (i : Int) : List Nat × Nat := match M.segs.find? (fun s => decide ((s.1 : Int) <= i /\ i < (s.1 : Int) + s.2.length)) with
 | none => ([], 7)
 | some s => (s.2.getD (i - s.1).toNat [], 0)
theorem getE_cons {s : Sg} {r : List Sg} {nx : Nat} {d : List Nat} {z : Int} : getE ⟨s :: r, nx, d⟩ z = if (s.1 : Int) <= z /\ z < (s.1 : Int) + s.2.length then (s.2.getD (z - s.1).toNat [], 0) else getE ⟨r, nx, d⟩ z := by
 unfold getE;dsimp only;rw [List.find?_cons];by_cases h : (s.1 : Int) <= z /\ z < (s.1 : Int) + s.2.length
 ·rw [if_pos h, decide_eq_true h]
 ·rw [if_neg h, decide_eq_false h]
theorem digs_len : ∀ (j n : Nat), (digs j n).length = j := by
 intro j
 induction j with
 | zero => intro n; rfl
 | succ j ih => intro n; unfold digs; rw [List.length_append, ih]; rfl
theorem name_len (k : Str) (n : Nat) : (nameL k n).length = k.length + 9 := by
 unfold nameL;rw [List.length_append, List.length_append, digs_len];simp
theorem digit_ok (m : Nat) : (UInt8.ofNat (48 + m % 10)).toNat = 48 + m % 10 := by
 rw [UInt8.toNat_ofNat'];have : m % 10 < 10 := Nat.mod_lt _ (by decide);omega
theorem valD_step (v : Nat) (c : UInt8) (cs : Str) : valD v (c :: cs) = if c < 48 \/ 57 < c then none else valD (v * 10 + (c.toNat - 48)) cs := rfl
theorem digit_in (m : Nat) : ¬ (UInt8.ofNat (48 + m % 10) < 48 \/ 57 < UInt8.ofNat (48 + m % 10)) := by
 have h := digit_ok m;have h2 : m % 10 < 10 := Nat.mod_lt _ (by decide);rintro (e | e)
 ·have := UInt8.lt_iff_toNat_lt.1 e;rw [h] at this;have h3 : (48 : UInt8).toNat = 48 := rfl;omega
 ·have := UInt8.lt_iff_toNat_lt.1 e;rw [h] at this;have h3 : (57 : UInt8).toNat = 57 := rfl;omega
theorem valD_digs : ∀ (j n v : Nat) (cs : Str), valD v (digs j n ++ cs) = valD (v * 10 ^ j + n % 10 ^ j) cs := by
 intro j
 induction j with
 | zero => intro n v cs; simp [digs, Nat.mod_one]
 | succ j ih =>
  intro n v cs;unfold digs;rw [List.append_assoc, ih, List.singleton_append, valD_step, if_neg (digit_in n), digit_ok];congr 1;have e : n % 10 ^ (j + 1) = n / 10 % 10 ^ j * 10 + n % 10 := by
   rw [Nat.pow_succ, Nat.mul_comm (10 ^ j) 10, Nat.mod_mul];omega
  rw [e, Nat.pow_succ, Nat.add_mul, Nat.mul_assoc];omega
theorem num_name (k : Str) (h : n < 100000000) : numL k (nameL k n) = some n := by
 have hl := name_len k n;have e1 : (nameL k n).take k.length = k := by unfold nameL; rw [List.append_assoc, List.take_left' rfl]
 have e2 : (nameL k n).getD k.length 0 = 46 := by
  unfold nameL;rw [List.append_assoc];simp
 have e3 : (nameL k n).drop (k.length + 1) = digs 8 n := by
  unfold nameL;rw [List.drop_left' (by simp)]
 unfold numL;rw [if_neg (by rintro (h | h | h); exact h hl; exact h e1; exact h e2), e3];have := valD_digs 8 n 0 [];rw [List.append_nil] at this;rw [this]
 show some (0 * 10 ^ 8 + n % 10 ^ 8) = some n
 rw [Nat.mod_eq_of_lt (by exact h)];simp
theorem before_cons (a b : UInt8) (r q : Str) : bytesBefore (a :: r) (b :: q) = true ↔ a < b \/ (a = b /\ bytesBefore r q = true) := by
 have e : bytesBefore (a :: r) (b :: q) = (decide (a < b) || (a == b && bytesBefore r q)) := rfl;rw [e];simp
theorem before_pre : ∀ (k a b : Str), bytesBefore a b = true -> bytesBefore (k ++ a) (k ++ b) = true := by
 intro k
 induction k with
 | nil => intro a b h; exact h
 | cons c k ih => intro a b h; exact (before_cons _ _ _ _).2 (.inr ⟨rfl, ih a b h⟩)
theorem before_more : ∀ (a b x y : Str), a.length = b.length -> bytesBefore a b = true -> bytesBefore (a ++ x) (b ++ y) = true := by
 intro a
 induction a with
 | nil =>
  intro b x y hl h;rcases b with _ | ⟨c, b⟩
  ·rw [WideAt.bytes_irrefl] at h; cases h
  ·simp at hl
 | cons c a ih =>
  intro b x y hl h;rcases b with _ | ⟨d, b⟩
  ·simp at hl
  ·rcases (before_cons _ _ _ _).1 h with h1 | ⟨rfl, h1⟩
   ·exact (before_cons _ _ _ _).2 (.inl h1)
   ·exact (before_cons _ _ _ _).2 (.inr ⟨rfl, ih b x y (by simpa using hl) h1⟩)
theorem digit_lt {a : Nat} (h : a % 10 < b % 10) : UInt8.ofNat (48 + a % 10) < UInt8.ofNat (48 + b % 10) := by
 rw [UInt8.lt_iff_toNat_lt, digit_ok, digit_ok];omega
theorem digs_before : ∀ (j a b : Nat), a < b -> b < 10 ^ j -> bytesBefore (digs j a) (digs j b) = true := by
 intro j
 induction j with
 | zero => intro a b h1 h2; omega
 | succ j ih =>
  intro a b h1 h2;unfold digs;by_cases h : a / 10 < b / 10
  ·exact before_more _ _ _ _ (by rw [digs_len, digs_len]) (ih _ _ h (by rw [Nat.pow_succ] at h2; omega))
  ·have e : a / 10 = b / 10 := by omega
   rw [e];refine before_pre _ _ _ ((before_cons _ _ _ _).2 (.inl (digit_lt (by omega))))
theorem name_before (k : Str) {a : Nat} (h1 : a < b) (h2 : b < 100000000) : bytesBefore (nameL k a) (nameL k b) = true := by
 unfold nameL;rw [List.append_assoc, List.append_assoc];exact before_pre _ _ _ (before_pre _ _ _ (digs_before 8 a b h1 (by omega)))
theorem name_inj (k : Str) {a : Nat} (h1 : a < 100000000) (h2 : b < 100000000) (h : nameL k a = nameL k b) : a = b := by
 have e1 := num_name k h1;rw [h, num_name k h2] at e1;exact (Option.some.inj e1).symm
theorem digs_head : ∀ (j n : Nat), digs (j + 1) n = UInt8.ofNat (48 + n / 10 ^ j % 10) :: digs j n := by
 intro j
 induction j with
 | zero => intro n; simp [digs]
 | succ j ih =>
  intro n
  conv => lhs; unfold digs
  rw [ih]
  conv => rhs; unfold digs
  rw [List.cons_append, Nat.div_div_eq_div_mul, Nat.pow_succ, Nat.mul_comm 10]
def fillD (j n : Nat) : List Nat := List.replicate (8 - j) 0 ++ (digs j n).map UInt8.toNat
theorem fillD_len (j n : Nat) (h : j <= 8) : (fillD j n).length = 8 := by
 unfold fillD;rw [List.length_append, List.length_replicate, List.length_map, digs_len];omega
theorem fillD_step (j n : Nat) (h : j < 8) : (fillD j n).set (7 - j) (48 + n / 10 ^ j % 10) = fillD (j + 1) n := by
 unfold fillD;rw [digs_head, List.map_cons];have e : 8 - j = (7 - j) + 1 := by omega
 have e2 : 8 - (j + 1) = 7 - j := by omega
 rw [e, e2, List.replicate_succ', List.append_assoc, List.set_append_right _ _ (by simp)];simp only [List.length_replicate, Nat.sub_self];rw [digit_ok]
 rfl
theorem fillD_all (n : Nat) : fillD 8 n = (digs 8 n).map UInt8.toNat := by
 unfold fillD
 rfl
theorem readF_step (f : Nat) (b : List Nat) (i : Nat) : readF (f + 1) b i = if b.length = 0 then ([], 0, true)
  else if (decL b).2.2 ≠ 0 then ([], 0, false)
  else if (rvl 0 0 (decL b).1).2.2 ≠ 0 \/ (rvl 0 0 (decL b).1).1 ≠ i then ([], 0, false)
  else ((decL b).1.drop (rvl 0 0 (decL b).1).2.1 :: (readF f (b.drop (decL b).2.1) (i + 1)).1, (decL b).2.1 + (readF f (b.drop (decL b).2.1) (i + 1)).2.1, (readF f (b.drop (decL b).2.1) (i + 1)).2.2) := by
 conv => lhs; unfold readF
theorem decL_pos {b : List Nat} (h : (decL b).2.2 = 0) : 8 <= (decL b).2.1 := by
 unfold decL at h ⊢;split at h
 ·simp at h
 ·split at h
  ·simp at h
  ·split at h
   ·simp at h
   ·split at h
    ·simp at h
    ·rename_i h1 h2 h3 h4
     rw [if_neg h1, if_neg h2, if_neg h3, if_neg h4]
     show 8 <= 8 + val32 b
     omega
theorem readF_more : ∀ (f g : Nat) (b : List Nat) (i : Nat), b.length <= f -> b.length <= g -> readF f b i = readF g b i := by
 intro f
 induction f with
 | zero =>
  intro g b i hf _;rcases g with _ | g
  ·rfl
  ·rw [readF_step, if_pos (by omega)]; unfold readF; rfl
 | succ f ih =>
  intro g b i hf hg;rcases g with _ | g
  ·rw [readF_step, if_pos (by omega)]; unfold readF; rfl
  ·rw [readF_step, readF_step];by_cases h : b.length = 0
   ·rw [if_pos h, if_pos h]
   ·rw [if_neg h, if_neg h];by_cases e : (decL b).2.2 ≠ 0
    ·rw [if_pos e, if_pos e]
    ·have := decL_pos (b := b) (by omega);rw [if_neg e, if_neg e, ih g (b.drop (decL b).2.1) (i + 1) (by rw [List.length_drop]; omega) (by rw [List.length_drop]; omega)]
theorem seg_end (i : Nat) : segL [] i = ([], 0, true) := rfl
theorem seg_bad {b : List Nat} (i : Nat) (h : b.length ≠ 0) (e : (decL b).2.2 ≠ 0) : segL b i = ([], 0, false) := by
 unfold segL;obtain ⟨f, hf⟩ : ∃ f, b.length = f + 1 := ⟨b.length - 1, by omega⟩;rw [hf, readF_step, if_neg h, if_pos e]
theorem seg_other {b : List Nat} (i : Nat) (h : b.length ≠ 0) (e : (decL b).2.2 = 0) (hn : (rvl 0 0 (decL b).1).2.2 ≠ 0 \/ (rvl 0 0 (decL b).1).1 ≠ i) : segL b i = ([], 0, false) := by
 unfold segL;obtain ⟨f, hf⟩ : ∃ f, b.length = f + 1 := ⟨b.length - 1, by omega⟩;rw [hf, readF_step, if_neg h, if_neg (by omega), if_pos hn]
theorem seg_more {b : List Nat} (i : Nat) (h : b.length ≠ 0) (e : (decL b).2.2 = 0) (hn : ¬ ((rvl 0 0 (decL b).1).2.2 ≠ 0 \/ (rvl 0 0 (decL b).1).1 ≠ i)) :
  segL b i = ((decL b).1.drop (rvl 0 0 (decL b).1).2.1 :: (segL (b.drop (decL b).2.1) (i + 1)).1, (decL b).2.1 + (segL (b.drop (decL b).2.1) (i + 1)).2.1, (segL (b.drop (decL b).2.1) (i + 1)).2.2) := by
 unfold segL;obtain ⟨f, hf⟩ : ∃ f, b.length = f + 1 := ⟨b.length - 1, by omega⟩;have := decL_pos e;rw [hf, readF_step, if_neg h, if_neg (by omega), if_neg hn, readF_more f _ (b.drop (decL b).2.1) (i + 1) (by rw [List.length_drop]; omega) (Nat.le_refl _)]
def Fits (i : Nat) (p : List Nat) : Prop := i < 100000000 /\ p.length <= 1048566
theorem uvl_ten (h : i < 100000000) : (uvl i).length <= 10 := uvl_len64 i (by omega)
theorem rec_len (i : Nat) (p : List Nat) : (recL i p).length = 8 + ((uvl i).length + p.length) := by unfold recL; rw [frame_len, List.length_append]
theorem rec_dec {p : List Nat} (h : Fits i p) (more : List Nat) : decL (recL i p ++ more) = (uvl i ++ p, (recL i p).length, 0) := by
 have h1 := uvl_ten h.1;have h2 := h.2;rw [rec_len];unfold recL;rw [dec_back (uvl i ++ p) more (by rw [List.length_append]; omega), List.length_append]
theorem rec_rvl (h : i < 100000000) (p : List Nat) : rvl 0 0 (uvl i ++ p) = (i, (uvl i).length, 0) := by
 have := rvl_uvl p i 0 0 (by omega) (by omega) (.inl rfl);rw [this];simp
theorem seg_cons {p : List Nat} (h : Fits i p) (b : List Nat) : segL (recL i p ++ b) i = (p :: (segL b (i + 1)).1, (recL i p).length + (segL b (i + 1)).2.1, (segL b (i + 1)).2.2) := by
 have hd := rec_dec h b;have hl := rec_len i p;have hr := rec_rvl h.1 p;rw [seg_more i (by rw [List.length_append]; omega) (by rw [hd]) (by rw [hd, hr]; simp), hd, hr, List.drop_left' rfl];dsimp only;rw [List.drop_left' rfl]
theorem dec_torn {p : List Nat} (hp : p.length <= 1048576) (hm : m < (frameL p).length) : (decL ((frameL p).take m)).2.2 ≠ 0 := by
 rw [frame_len] at hm;have hl : ((frameL p).take m).length = m := by rw [List.length_take, frame_len]; omega
 by_cases h8 : m < 8
 ·have e : decL ((frameL p).take m) = ([], 0, 2) := by unfold decL; rw [if_pos (by rw [hl]; exact h8)]
  rw [e]
  decide
 ·have hv : val32 ((frameL p).take m) = p.length := by
   have e1 : frameL p = be32 p.length ++ (be32 (sumS (be32 p.length ++ p)) ++ p) := by unfold frameL; rw [List.append_assoc]
   rw [e1, List.take_append, List.take_of_length_le (by rw [be32_len]; omega)];exact val32_be _ (by omega) _
  have e : decL ((frameL p).take m) = ([], 0, 2) := by
   unfold decL;rw [hv, hl, if_neg (by omega), if_neg (by omega), if_pos (by omega)]
  rw [e]
  decide
def FitsAll : Nat -> List (List Nat) -> Prop
 | _, [] => True
 | i, p :: r => Fits i p /\ FitsAll (i + 1) r
theorem recs_app : ∀ (i : Nat) (a b : List (List Nat)), recsL i (a ++ b) = recsL i a ++ recsL (i + a.length) b := by
 intro i a
 induction a generalizing i with
 | nil => intro b; rfl
 | cons p r ih =>
  intro b
  show recL i p ++ recsL (i + 1) (r ++ b) = (recL i p ++ recsL (i + 1) r) ++ _
  rw [ih, List.append_assoc, List.length_cons];congr 3;omega
theorem fits_app : ∀ (i : Nat) (a b : List (List Nat)), FitsAll i (a ++ b) ↔ FitsAll i a /\ FitsAll (i + a.length) b := by
 intro i a
 induction a generalizing i with
 | nil => intro b; simp [FitsAll]
 | cons p r ih =>
  intro b
  show Fits i p /\ FitsAll (i + 1) (r ++ b) ↔ (Fits i p /\ FitsAll (i + 1) r) /\ _
  rw [ih, List.length_cons, and_assoc];have e : i + 1 + r.length = i + (r.length + 1) := by omega
  rw [e]
theorem seg_whole : ∀ (es : List (List Nat)) (i : Nat), FitsAll i es -> segL (recsL i es) i = (es, (recsL i es).length, true) := by
 intro es
 induction es with
 | nil => intro i _; rfl
 | cons p r ih =>
  intro i h
  show segL (recL i p ++ recsL (i + 1) r) i = (p :: r, (recL i p ++ recsL (i + 1) r).length, true)
  rw [seg_cons h.1, ih (i + 1) h.2, List.length_append]
theorem seg_torn : ∀ (es : List (List Nat)) (i m : Nat), FitsAll i es -> m <= (recsL i es).length ->
  ∃ j, j <= es.length /\ (segL ((recsL i es).take m) i).1 = es.take j /\ (segL ((recsL i es).take m) i).2.1 = (recsL i (es.take j)).length /\ (recsL i (es.take j)).length <= m /\
   ((segL ((recsL i es).take m) i).2.2 = true -> m = (recsL i (es.take j)).length) /\ (j < es.length -> m < (recsL i (es.take (j + 1))).length) := by
 intro es
 induction es with
 | nil =>
  intro i m _ hm;have h0 : m = 0 := by
   have : (recsL i []).length = 0 := rfl;omega
  subst h0;exact ⟨0, Nat.le_refl _, rfl, rfl, Nat.le_refl _, fun _ => rfl, fun h => absurd h (by simp)⟩
 | cons p r ih =>
  intro i m h hm;have e1 : recsL i (p :: r) = recL i p ++ recsL (i + 1) r := rfl;have hrl := rec_len i p;by_cases hlt : m < (recL i p).length
  ·refine ⟨0, Nat.zero_le _, ?_⟩;have e2 : (recsL i (p :: r)).take m = (recL i p).take m := by rw [e1, List.take_append_of_le_length (by omega)]
   rw [e2];have h1 : (recsL i ((p :: r).take 1)).length = (recL i p).length := by
    show (recL i p ++ []).length = _
    rw [List.append_nil]
   by_cases h0 : m = 0
   ·subst h0;exact ⟨rfl, rfl, Nat.le_refl _, fun _ => rfl, fun _ => by rw [h1]; exact hlt⟩
   ·have hl : ((recL i p).take m).length = m := by rw [List.length_take]; omega
    have hd : (decL ((recL i p).take m)).2.2 ≠ 0 := dec_torn (by rw [List.length_append]; have := uvl_ten h.1.1; have := h.1.2; omega) hlt;rw [seg_bad i (by rw [hl]; exact h0) hd];exact ⟨rfl, rfl, Nat.zero_le _, (fun hh => by cases hh), fun _ => by rw [h1]; exact hlt⟩
  ·have e2 : (recsL i (p :: r)).take m = recL i p ++ (recsL (i + 1) r).take (m - (recL i p).length) := by
    rw [e1, List.take_append, List.take_of_length_le (by omega)]
   have hm2 : m - (recL i p).length <= (recsL (i + 1) r).length := by
    rw [e1, List.length_append] at hm;omega
   obtain ⟨j, j1, j2, j3, j4, j5, j6⟩ := ih (i + 1) (m - (recL i p).length) h.2 hm2;have e3 : ∀ k, (recsL i ((p :: r).take (k + 1))).length = (recL i p).length + (recsL (i + 1) (r.take k)).length := fun k => by
    show (recL i p ++ recsL (i + 1) (r.take k)).length = _
    rw [List.length_append]
   refine ⟨j + 1, by rw [List.length_cons]; omega, ?_⟩;rw [e2, seg_cons h.1, e3];refine ⟨?_, ?_, by omega, fun hh => ?_, fun hh => ?_⟩
   ·show p :: _ = p :: _
    rw [j2]
   ·show _ + _ = _ + _
    rw [j3]
   ·have := j5 hh;omega
   ·rw [List.length_cons] at hh;have := j6 (by omega);rw [e3];omega
def RowU (G : Nat -> Prop) (w : World) (u : Value) (xs : List Nat) : Prop := IsB w u xs /\ (xs ≠ [] -> ∀ b, u.ownBlock = some b -> G b /\ ∃ cur fr, w.heap[b]? = some (.cells cur 5 fr))
theorem isB_low {u : Value} {xs : List Nat} (h : IsB w u xs) (hne : xs ≠ []) : ∀ b, u.ownBlock = some b -> b < w.heap.size := by
 obtain ⟨A, c, rfl, hr, _⟩ := h;obtain ⟨b, off, rfl, hc⟩ := hr hne;intro b' e;have e' : b = b' := by simpa [Value.ownBlock] using e
 subst e';exact cell_lt (hc 0 (List.length_pos_iff.2 hne))
theorem RowU.turn {S : Nat -> Prop} {u : Value} {xs : List Nat} (h : RowU G w u xs) (t : Turn S w w') (hS : ∀ g, (∃ cur fr, w.heap[g]? = some (.cells cur 5 fr)) -> G g -> ¬ S g) : RowU G w' u xs := by
 rcases xs with _ | ⟨x, r⟩
 ·obtain ⟨A, c, e, _, hn⟩ := h.1;exact ⟨⟨A, c, e, fun q => absurd rfl q, hn⟩, fun q => absurd rfl q⟩
 ·have hb : ∀ b, u.ownBlock = some b -> ¬ S b := fun b e => hS b (h.2 (by simp) b e).2 (h.2 (by simp) b e).1
  refine ⟨h.1.turn t hb, fun hne b e => ?_⟩;obtain ⟨h1, cur, fr, h2⟩ := h.2 hne b e;exact ⟨h1, cur, fr, by rw [t.block b (heap_lt h2) (hb b e)]; exact h2⟩
theorem RowU.mono {u : Value} {xs : List Nat} (h : RowU G w u xs) (hG : ∀ g, g < w.heap.size -> G g -> G' g) : RowU G' w u xs := ⟨h.1, fun hne b e => ⟨hG b (isB_low h.1 hne b e) (h.2 hne b e).1, (h.2 hne b e).2⟩⟩
theorem Own.rowU {u : Value} {xs : List Nat} (h : Own w B u xs) (hG : ∀ g, B <= g -> g < w.heap.size -> G g) : RowU G w u xs := by
 refine ⟨h.isB, fun hne b e => ⟨hG b (h.lt b e).1 (h.lt b e).2, ?_⟩⟩;unfold Own at h;rcases h.2 with ⟨rfl, _⟩ | ⟨g, cap, cur, rfl, _, hh, _⟩
 ·cases e
 ·have e' : g = b := by simpa [Value.ownBlock] using e
  subst e';exact ⟨_, _, hh⟩
theorem RowU.tail {xs : List Nat} (h : RowU G w (.slice (some ⟨b, 0, none⟩) n c) xs) (k m d o : Nat) (hI : IsB w (.slice (some ⟨b, o, none⟩) m d) (xs.drop k)) : RowU G w (.slice (some ⟨b, o, none⟩) m d) (xs.drop k) := by
 refine ⟨hI, fun hne b' e => ?_⟩;have hx : xs ≠ [] := fun e2 => hne (by rw [e2]; simp)
 have e' : b = b' := by simpa [Value.ownBlock] using e
 subst e';exact h.2 hx b rfl
theorem RowU.one {u : Value} {xs : List Nat} (h : RowU G w u xs) : u.oneCell' = true := by
 obtain ⟨A, c, rfl, _⟩ := h.1
 rfl
def endsL : Nat -> Nat -> List (List Nat) -> List Nat
 | _, _, [] => []
 | a, i, p :: r => (a + (recL i p).length) :: endsL (a + (recL i p).length) (i + 1) r
theorem endsL_len : ∀ (es : List (List Nat)) (a i : Nat), (endsL a i es).length = es.length
 | [], _, _ => rfl
 | p :: r, a, i => by simp only [endsL, List.length_cons, endsL_len r]
theorem endsL_get : ∀ (es : List (List Nat)) (a i k : Nat), k < es.length -> (endsL a i es).getD k 0 = a + (recsL i (es.take (k + 1))).length
 | [], _, _, _, h => absurd h (by simp)
 | p :: r, a, i, 0, _ => by simp [endsL, recsL]
 | p :: r, a, i, k + 1, h => by
  have h' : k < r.length := by simpa using h
  have ih := endsL_get r (a + (recL i p).length) (i + 1) k h';simp only [endsL, List.getD_cons_succ, List.take_succ_cons, recsL, List.length_append];rw [ih];omega
theorem endsL_snoc : ∀ (es : List (List Nat)) (a i : Nat) (p : List Nat), endsL a i (es ++ [p]) = endsL a i es ++ [a + (recsL i es).length + (recL (i + es.length) p).length]
 | [], a, i, p => by simp [endsL, recsL]
 | q :: r, a, i, p => by
  simp only [List.cons_append, endsL, recsL, endsL_snoc r, List.length_append, List.length_cons];rw [show i + 1 + r.length = i + (r.length + 1) by omega];simp [Nat.add_assoc]
theorem endsL_take : ∀ (es : List (List Nat)) (a i m : Nat), (endsL a i es).take m = endsL a i (es.take m)
 | [], _, _, m => by simp [endsL]
 | p :: r, a, i, 0 => by simp [endsL]
 | p :: r, a, i, m + 1 => by simp only [endsL, List.take_succ_cons, endsL_take r]
def cellsN : List Value -> List Nat -> List Value
 | u :: us, e :: es => u :: .int .i64 (e : Int) :: cellsN us es
 | _, _ => []
theorem cellsN_app : ∀ (us vs : List Value) (es fs : List Nat), us.length = es.length -> cellsN (us ++ vs) (es ++ fs) = cellsN us es ++ cellsN vs fs
 | [], _, [], _, _ => rfl
 | u :: us, vs, e :: es, fs, h => by simp only [List.cons_append, cellsN, cellsN_app us vs es fs (by simpa using h)]
theorem cellsN_at : ∀ (us : List Value) (es : List Nat) (i : Nat), us.length = es.length -> i < us.length -> (cellsN us es)[i * 2]? = some (us.getD i (.slice none 0 0)) /\ (cellsN us es)[i * 2 + 1]? = some (.int .i64 ((es.getD i 0 : Nat) : Int))
 | u :: us, e :: es, 0, _, _ => by simp [cellsN]
 | u :: us, e :: es, i + 1, h, hi => by
  obtain ⟨h1, h2⟩ := cellsN_at us es i (by simpa using h) (by simpa using hi);have e1 : (i + 1) * 2 = i * 2 + 2 := by omega
  have e2 : (i + 1) * 2 + 1 = i * 2 + 1 + 2 := by omega
  rw [e2, e1];refine ⟨?_, ?_⟩
  ·simpa [cellsN] using h1
  ·show (cellsN (u :: us) (e :: es))[i * 2 + 1 + 2]? = _
   simpa [cellsN] using h2
theorem cellsN_take : ∀ (us : List Value) (es : List Nat) (m : Nat), us.length = es.length -> (cellsN us es).take (m * 2) = cellsN (us.take m) (es.take m)
 | [], [], m, _ => by simp [cellsN]
 | u :: us, e :: es, 0, _ => by simp [cellsN]
 | u :: us, e :: es, m + 1, h => by
  rw [show (m + 1) * 2 = m * 2 + 1 + 1 by omega];simp only [cellsN, List.take_succ_cons, cellsN_take us es m (by simpa using h)]
def SegE (G : Nat -> Prop) (w : World) (v : Value) (f : Nat) (es : List (List Nat)) : Prop :=
 ∃ us, us.length = es.length /\ w.ownsRow 0 121 2 v es.length (cellsN us (endsL 0 f es)) /\ (∀ g, v.ownBlock = some g -> G g) /\ ∀ i, i < us.length -> RowU G w (us.getD i (.slice none 0 0)) (es.getD i [])
theorem SegE.nil (G : Nat -> Prop) (w : World) (f : Nat) : SegE G w (.slice none 0 0) f [] := ⟨[], rfl, World.ownsRow_nil _ _ _ _, (fun g h => by cases h), fun i h => absurd h (by simp)⟩
theorem ownsRow_typed {s : Nat} {e : TypeId} {v : Value} {l : List Value} (h : w.ownsRow B e s v n l) (hv : v.ownBlock = some g) : ∃ cur, w.heap[g]? = some (.cells cur e (0, 0)) := by
 rcases h.2 with ⟨rfl, _⟩ | ⟨g', cap, cur, rfl, _, hh, _⟩
 ·cases hv
 ·have e' : g' = g := by simpa [Value.ownBlock] using hv
  subst e';exact ⟨_, hh⟩
theorem SegE.turn {S : Nat -> Prop} {v : Value} {f : Nat} {es : List (List Nat)} (h : SegE G w v f es) (t : Turn S w w') (hv : ∀ g, v.ownBlock = some g -> ¬ S g)
  (hS : ∀ g, (∃ cur fr, w.heap[g]? = some (.cells cur 5 fr)) -> G g -> ¬ S g) : SegE G w' v f es := by
 obtain ⟨us, h1, h2, h3, h4⟩ := h;exact ⟨us, h1, ownsRow_turn h2 t hv, h3, fun i hi => (h4 i hi).turn t hS⟩
theorem SegE.mono {v : Value} {f : Nat} {es : List (List Nat)} (h : SegE G w v f es) (hG : ∀ g, g < w.heap.size -> G g -> G' g) : SegE G' w v f es := by
 obtain ⟨us, h1, h2, h3, h4⟩ := h;exact ⟨us, h1, h2, fun g hg => hG g (World.ownsRow.lt h2 g hg).2 (h3 g hg), fun i hi => (h4 i hi).mono hG⟩
theorem SegE.form {v : Value} {f : Nat} {es : List (List Nat)} (h : SegE G w v f es) : ∃ A c, v = .slice A es.length c /\ es.length <= c /\ c <= 9223372036854775807 /\ (A = none -> c = 0) /\
  ∀ i, i < es.length -> ∃ g u, A = some ⟨g, 0, none⟩ /\ g < w.heap.size /\ w.cell? ⟨g, i * 2, none⟩ = some u /\ w.cell? ⟨g, i * 2 + 1, none⟩ = some (.int .i64 ((recsL f (es.take (i + 1))).length : Int)) /\ RowU G w u (es.getD i []) := by
 obtain ⟨us, h1, h2, h3, h4⟩ := h;have hl : us.length = (endsL 0 f es).length := by rw [endsL_len, h1]
 rcases h2.2 with ⟨rfl, hn⟩ | ⟨g, cap, cur, rfl, hb, hg, c1, c2, _⟩
 ·exact ⟨none, 0, by rw [hn], by omega, by decide, fun _ => rfl, fun i hi => by omega⟩
 ·refine ⟨_, cap, rfl, c1, by unfold maxLen at c2; omega, (fun e => by cases e), fun i hi => ⟨g, us.getD i (.slice none 0 0), rfl, heap_lt hg, ?_, ?_, h4 i (by omega)⟩⟩
  ·rw [World.ownsRow.cellAt h2 (i * 2) (by omega)];exact (cellsN_at us _ i hl (by omega)).1
  ·rw [World.ownsRow.cellAt h2 (i * 2 + 1) (by omega), (cellsN_at us _ i hl (by omega)).2, endsL_get es 0 f i hi, Nat.zero_add]
abbrev Sgp := Nat × Value × Bool × List (List Nat)
def cellsP : List Sgp -> List Value
 | [] => []
 | x :: r => .int .i64 (x.1 : Int) :: x.2.1 :: .bool x.2.2.1 :: cellsP r
theorem cellsP_length : ∀ X : List Sgp, (cellsP X).length = X.length * 3
 | [] => rfl
 | x :: r => by simp only [cellsP, List.length_cons, cellsP_length r]; omega
theorem cellsP_append : ∀ X Y : List Sgp, cellsP (X ++ Y) = cellsP X ++ cellsP Y
 | [], _ => rfl
 | x :: r, Y => by simp [cellsP, cellsP_append r Y]
theorem cellsP_at : ∀ (X : List Sgp) (i : Nat) (h : i < X.length), (cellsP X)[i * 3]? = some (.int .i64 (X[i].1 : Int)) /\ (cellsP X)[i * 3 + 1]? = some X[i].2.1 /\ (cellsP X)[i * 3 + 2]? = some (.bool X[i].2.2.1)
 | x :: r, 0, _ => by simp [cellsP]
 | x :: r, i + 1, h => by
  have h' : i < r.length := by simpa using h
  obtain ⟨h1, h2, h3⟩ := cellsP_at r i h';have e1 : (i + 1) * 3 = i * 3 + 3 := by omega
  have e2 : (i + 1) * 3 + 1 = i * 3 + 1 + 3 := by omega
  have e3 : (i + 1) * 3 + 2 = i * 3 + 2 + 3 := by omega
  rw [e3, e2, e1];refine ⟨?_, ?_, ?_⟩
  ·simpa [cellsP] using h1
  ·show (cellsP (x :: r))[i * 3 + 1 + 3]? = _
   simpa [cellsP] using h2
  ·show (cellsP (x :: r))[i * 3 + 2 + 3]? = _
   simpa [cellsP] using h3
structure PLog where
 segs : List (Nat × List (List Nat) × Bool)
 next : Nat
def segP (x : Sgp) : Nat × List (List Nat) × Bool := (x.1, x.2.2.2, x.2.2.1)
structure PLogW (w : World) (G : Nat -> Prop) (l dp : Nat) (s : ByteArray) (vS : Value) (X : List Sgp) (nx : Nat) : Prop where
 cells : Blk w 0 114 l [.pointer (some ⟨dp, 0, none⟩), .string s, vS, .int .i64 (nx : Int)]
 row : w.ownsRow 0 119 3 vS X.length (cellsP X)
 each : ∀ x ∈ X, SegE G w x.2.1 x.1 x.2.2.2
 far : X.Pairwise (fun x y => ∀ g, x.2.1.ownBlock = some g -> y.2.1.ownBlock ≠ some g)
 own : G l
 mine : ∀ g, vS.ownBlock = some g -> G g
 low : ∀ g, G g -> g < w.heap.size
def PLogAt (w : World) (G : Nat -> Prop) (l dp : Nat) (s : ByteArray) (P : PLog) : Prop := ∃ vS X, P.segs = X.map segP /\ PLogW w G l dp s vS X P.next
theorem PLogW.turn {S : Nat -> Prop} {vS : Value} {X : List Sgp} {nx : Nat} (h : PLogW w G l dp s vS X nx) (t : Turn S w w') (hS : ∀ g, G g -> ¬ S g) : PLogW w' G l dp s vS X nx :=
 ⟨h.cells.turn t (hS l h.own), ownsRow_turn h.row t (fun g hg => hS g (h.mine g hg)), fun x hx => (h.each x hx).turn t (fun g hg => by obtain ⟨_, _, _, h3, _⟩ := h.each x hx; exact hS g (h3 g hg)) (fun g _ hg => hS g hg), h.far, h.own, h.mine, fun g hg => Nat.lt_of_lt_of_le (h.low g hg) t.size⟩
theorem PLogW.below {vS : Value} {X : List Sgp} {nx : Nat} (h : PLogW w G l dp s vS X nx) (k : Below w.heap.size w w') : PLogW w' G l dp s vS X nx := h.turn (S := fun _ => False) (Turn.of_below _ k) (fun _ _ => id)
theorem PLogAt.turn {S : Nat -> Prop} {P : PLog} (h : PLogAt w G l dp s P) (t : Turn S w w') (hS : ∀ g, G g -> ¬ S g) : PLogAt w' G l dp s P := by
 obtain ⟨vS, X, e, h⟩ := h;exact ⟨vS, X, e, h.turn t hS⟩
theorem PLogAt.below {P : PLog} (h : PLogAt w G l dp s P) (k : Below w.heap.size w w') : PLogAt w' G l dp s P := h.turn (S := fun _ => False) (Turn.of_below _ k) (fun _ _ => id)
theorem PLogAt.low {P : PLog} (h : PLogAt w G l dp s P) : ∀ g, G g -> g < w.heap.size := by
 obtain ⟨vS, X, e, h⟩ := h;exact h.low
theorem rowP_form {v : Value} {X : List Sgp} (h : w.ownsRow B 119 3 v X.length (cellsP X)) : ∃ A c, v = .slice A X.length c /\ X.length <= c /\ c <= 9223372036854775807 /\ (A = none -> c = 0) /\
  ∀ i (hi : i < X.length), ∃ g, A = some ⟨g, 0, none⟩ /\ B <= g /\ g < w.heap.size /\ w.cell? ⟨g, i * 3, none⟩ = some (.int .i64 (X[i].1 : Int)) /\ w.cell? ⟨g, i * 3 + 1, none⟩ = some X[i].2.1 /\ w.cell? ⟨g, i * 3 + 2, none⟩ = some (.bool X[i].2.2.1) /\ ∀ j, w.frozen? ⟨g, j, none⟩ = false := by
 rcases h.2 with ⟨rfl, hn⟩ | ⟨g, cap, cur, rfl, hb, hg, h1, h2, _⟩
 ·exact ⟨none, 0, by rw [hn], by omega, by decide, fun _ => rfl, fun i hi => by omega⟩
 ·refine ⟨_, cap, rfl, h1, by unfold maxLen at h2; omega, (fun e => by cases e), fun i hi => ⟨g, rfl, hb, heap_lt hg, ?_, ?_, ?_, fun j => World.ownsRow.frozenAt h j⟩⟩
  ·rw [World.ownsRow.cellAt h (i * 3) (by omega)];exact (cellsP_at X i hi).1
  ·rw [World.ownsRow.cellAt h (i * 3 + 1) (by omega)];exact (cellsP_at X i hi).2.1
  ·rw [World.ownsRow.cellAt h (i * 3 + 2) (by omega)];exact (cellsP_at X i hi).2.2
def SofarG (xs : List Nat) (i k : Nat) (acc : List (List Nat)) : Prop :=
 (segL xs i).1 = acc ++ (segL (xs.drop k) (i + acc.length)).1 /\ (segL xs i).2.1 = k + (segL (xs.drop k) (i + acc.length)).2.1 /\ (segL xs i).2.2 = (segL (xs.drop k) (i + acc.length)).2.2 /\ acc.length <= k
theorem SofarG.start (xs : List Nat) (i : Nat) : SofarG xs i 0 [] := by
 unfold SofarG;rw [List.drop_zero];exact ⟨rfl, (Nat.zero_add _).symm, rfl, Nat.le_refl _⟩
theorem SofarG.next {xs : List Nat} {acc : List (List Nat)} (h : SofarG xs i k acc) (hk : k < xs.length) (e : (decL (xs.drop k)).2.2 = 0) (hn : (rvl 0 0 (decL (xs.drop k)).1).2.2 = 0) (hv : (rvl 0 0 (decL (xs.drop k)).1).1 = i + acc.length) :
  SofarG xs i (k + (decL (xs.drop k)).2.1) (acc ++ [(decL (xs.drop k)).1.drop (rvl 0 0 (decL (xs.drop k)).1).2.1]) := by
 obtain ⟨g1, g2, g3, g4⟩ := h;have hne : (xs.drop k).length ≠ 0 := by rw [List.length_drop]; omega
 have hm := seg_more (i + acc.length) hne e (by rintro (h1 | h1); exact h1 hn; exact h1 hv);have h8 := decL_pos e;rw [hm] at g1 g2 g3;unfold SofarG;rw [List.length_append, List.length_singleton, <- Nat.add_assoc, <- List.drop_drop];refine ⟨by rw [g1, List.append_assoc]; rfl, (by rw [g2]; exact (Nat.add_assoc _ _ _).symm), g3, by omega⟩
theorem SofarG.bad {xs : List Nat} {acc : List (List Nat)} (h : SofarG xs i k acc) (hk : k < xs.length) (e : (decL (xs.drop k)).2.2 ≠ 0 \/ (rvl 0 0 (decL (xs.drop k)).1).2.2 ≠ 0 \/ (rvl 0 0 (decL (xs.drop k)).1).1 ≠ i + acc.length) : segL xs i = (acc, k, false) := by
 obtain ⟨g1, g2, g3, _⟩ := h;have hne : (xs.drop k).length ≠ 0 := by rw [List.length_drop]; omega
 have hs : segL (xs.drop k) (i + acc.length) = ([], 0, false) := by
  by_cases h0 : (decL (xs.drop k)).2.2 = 0
  ·exact seg_other _ hne h0 (e.resolve_left (fun h => h h0))
  ·exact seg_bad _ hne h0
 rw [hs] at g1 g2 g3;rw [List.append_nil] at g1;exact Prod.ext g1 (Prod.ext g2 g3)
theorem SofarG.done {xs : List Nat} {acc : List (List Nat)} (h : SofarG xs i k acc) (hk : xs.length <= k) : segL xs i = (acc, k, true) := by
 obtain ⟨g1, g2, g3, _⟩ := h;have hd : xs.drop k = [] := List.drop_of_length_le hk;rw [hd, seg_end] at g1 g2 g3;rw [List.append_nil] at g1;exact Prod.ext g1 (Prod.ext g2 g3)
theorem rvl_in {xs : List Nat} (hb : ∀ x ∈ xs, x < 256) (h : (rvl 0 0 xs).2.2 = 0) : (rvl 0 0 xs).2.1 <= xs.length := by
 rcases e : rvl 0 0 xs with ⟨v, m, q⟩;rw [e] at h;have h : q = 0 := h;subst h;obtain ⟨u, _, _, h3, h4⟩ := rvl_inv xs 0 0 v m hb (by omega) e;have := congrArg List.length h3;rw [List.length_append, List.length_drop] at this
 show m <= xs.length
 omega
abbrev Fl := Nat × (List Nat × Nat)
def filesL (k : Str) (X : List Fl) : DiskL := X.map fun x => (nameL k x.1, x.2)
def Rises (X : List Fl) : Prop := X.Pairwise (fun a b => a.1 < b.1) /\ ∀ x ∈ X, 1 <= x.1 /\ x.1 < 100000000
theorem files_rise {k : Str} {X : List Fl} (h : Rises X) : Rise (filesL k X) := by
 obtain ⟨h1, h2⟩ := h;unfold Rise filesL;rw [List.pairwise_map];refine h1.imp_of_mem ?_;intro a b ha hb hab;exact name_before k hab (h2 b hb).2
theorem files_app (k : Str) (X Y : List Fl) : filesL k (X ++ Y) = filesL k X ++ filesL k Y := by unfold filesL; rw [List.map_append]
theorem files_cons (k : Str) (x : Fl) (Y : List Fl) : filesL k (x :: Y) = (nameL k x.1, x.2) :: filesL k Y := rfl
theorem Rises.tail {x : Fl} {X : List Fl} (h : Rises (x :: X)) : Rises X := ⟨(List.pairwise_cons.1 h.1).2, fun y hy => h.2 y (List.mem_cons_of_mem _ hy)⟩
theorem Rises.drop_mid {x : Fl} {D X : List Fl} (h : Rises (D ++ x :: X)) : Rises (D ++ X) := by
 have hs : (D ++ X).Sublist (D ++ x :: X) := List.Sublist.append (List.Sublist.refl D) (List.sublist_cons_self x X);exact ⟨h.1.sublist hs, fun y hy => h.2 y (hs.subset hy)⟩
theorem Rises.putW_mid {a b : List Nat × Nat} {D X : List Fl} (h : Rises (D ++ (n, a) :: X)) : Rises (D ++ (n, b) :: X) := by
 obtain ⟨h1, h2⟩ := h;rw [List.pairwise_append] at h1;obtain ⟨p1, p2, p3⟩ := h1;rw [List.pairwise_cons] at p2;refine ⟨?_, fun y hy => ?_⟩
 ·rw [List.pairwise_append, List.pairwise_cons];refine ⟨p1, ⟨p2.1, p2.2⟩, fun x hx y hy => ?_⟩;rcases List.mem_cons.1 hy with rfl | hy
  ·exact p3 x hx (n, a) (List.mem_cons_self)
  ·exact p3 x hx y (List.mem_cons_of_mem _ hy)
 ·rcases List.mem_append.1 hy with hy | hy
  ·exact h2 y (List.mem_append.2 (.inl hy))
  ·rcases List.mem_cons.1 hy with rfl | hy
   ·exact h2 (n, a) (List.mem_append.2 (.inr (List.mem_cons_self)))
   ·exact h2 y (List.mem_append.2 (.inr (List.mem_cons_of_mem _ hy)))
theorem getW_mid {k : Str} {a : List Nat × Nat} {D X : List Fl} (h : Rises (D ++ (n, a) :: X)) : getK (nameL k n) (filesL k (D ++ (n, a) :: X)) = some a := by
 refine mem_getK (files_rise h) ?_;unfold filesL;exact List.mem_map.2 ⟨(n, a), by simp, rfl⟩
theorem del_mid {k : Str} {a : List Nat × Nat} {D X : List Fl} (h : Rises (D ++ (n, a) :: X)) : delK (nameL k n) (filesL k (D ++ (n, a) :: X)) = filesL k (D ++ X) := by
 obtain ⟨h1, h2⟩ := h;have hne : ∀ y ∈ D ++ X, nameL k y.1 ≠ nameL k n := fun y hy e => by
  have hy' : y ∈ D ++ (n, a) :: X := by
   rcases List.mem_append.1 hy with h | h
   ·exact List.mem_append.2 (.inl h)
   ·exact List.mem_append.2 (.inr (List.mem_cons_of_mem _ h))
  have e2 : y.1 = n := name_inj k (h2 y hy').2 (h2 (n, a) (by simp)).2 e;rw [List.pairwise_append] at h1;obtain ⟨p1, p2, p3⟩ := h1;rcases List.mem_append.1 hy with h | h
  ·have := p3 y h (n, a) (List.mem_cons_self);simp only at this;omega
  ·have := (List.pairwise_cons.1 p2).1 y h;simp only at this;omega
 rw [files_app, files_cons, files_app];unfold delK;rw [List.filter_append, List.filter_cons];have f1 : (filesL k D).filter (fun p => !(p.1 == nameL k n)) = filesL k D := by
  refine List.filter_eq_self.2 fun p hp => ?_
  obtain ⟨y, hy, rfl⟩ := List.mem_map.1 hp;simp [hne y (List.mem_append.2 (.inl hy))]
 have f2 : (filesL k X).filter (fun p => !(p.1 == nameL k n)) = filesL k X := by
  refine List.filter_eq_self.2 fun p hp => ?_
  obtain ⟨y, hy, rfl⟩ := List.mem_map.1 hp;simp [hne y (List.mem_append.2 (.inr hy))]
 rw [f1, f2];simp
theorem putW_mid {k : Str} {a b : List Nat × Nat} {D X : List Fl} (h : Rises (D ++ (n, a) :: X)) : putK (nameL k n) b (filesL k (D ++ (n, a) :: X)) = filesL k (D ++ (n, b) :: X) := by
 have hr := files_rise (k := k) h;have hi : D.length < (filesL k (D ++ (n, a) :: X)).length := by unfold filesL; simp
 have e : (filesL k (D ++ (n, a) :: X))[D.length] = (nameL k n, a) := by
  unfold filesL;simp
 have := putK_at hr D.length hi b;rw [e] at this;rw [this];unfold filesL;simp [List.map_append]
def openF : Option Nat -> List Fl -> List Sg × List Fl
 | _, [] => ([], [])
 | q, (n, f) :: r =>
  if (∃ e, q = some e /\ n ≠ e) then ([], [])
  else if (segL f.1 n).2.2 = true then ((n, (segL f.1 n).1) :: (openF (some (n + (segL f.1 n).1.length)) r).1, (n, f) :: (openF (some (n + (segL f.1 n).1.length)) r).2)
  else if (segL f.1 n).2.1 = 0 then ([], [])
  else ([(n, (segL f.1 n).1)], [(n, (f.1.take (segL f.1 n).2.1, min f.2 (segL f.1 n).2.1))])
def endL : Nat -> List Sg -> Nat
 | n, [] => n
 | _, s :: r => endL (s.1 + s.2.length) r
theorem endL_app : ∀ (n : Nat) (a : List Sg) (s : Sg), endL n (a ++ [s]) = s.1 + s.2.length := by
 intro n a
 induction a generalizing n with
 | nil => intro s; rfl
 | cons x a ih => intro s; exact ih _ s
theorem readL_mid {k : Str} {a : List Nat × Nat} {D X : List Fl} (h : Rises (D ++ (n, a) :: X)) : (readL (nameL k n) (filesL k (D ++ (n, a) :: X))).1 = a.1 := by unfold readL; rw [getW_mid h]
theorem remL_mid {k : Str} {a : List Nat × Nat} {D X : List Fl} (h : Rises (D ++ (n, a) :: X)) : (remL (nameL k n) (filesL k (D ++ (n, a) :: X))).1 = filesL k (D ++ X) := by unfold remL; rw [getW_mid h]; exact del_mid h
theorem cutL_mid {k : Str} {a : List Nat × Nat} {D X : List Fl} (h : Rises (D ++ (n, a) :: X)) (hm : m <= a.1.length) : (cutL (nameL k n) (m : Int) (filesL k (D ++ (n, a) :: X))).1 = filesL k (D ++ (n, (a.1.take m, min a.2 m)) :: X) := by
 unfold cutL;rw [getW_mid h];dsimp only;rw [if_neg (by omega), Int.toNat_natCast];exact putW_mid h
theorem openStep_bad {k : Str} {o : OpenS} (hn : n < 100000000) (h : o.bad = true \/ n < 1 \/ (o.log.segs ≠ [] /\ n ≠ o.log.next)) : openStep k o (nameL k n) = ⟨true, o.log, (remL (nameL k n) o.disk).1⟩ := by
 unfold openStep;rw [num_name k hn];dsimp only;rw [if_pos h]
theorem openStep_good {k : Str} {o : OpenS} (hn : n < 100000000) (h : ¬ (o.bad = true \/ n < 1 \/ (o.log.segs ≠ [] /\ n ≠ o.log.next))) (b : List Nat) (hb : (readL (nameL k n) o.disk).1 = b) :
  openStep k o (nameL k n) = if (segL b n).2.2 = true then ⟨false, ⟨o.log.segs ++ [(n, (segL b n).1)], n + (segL b n).1.length, o.log.dirty ++ [n]⟩, o.disk⟩
   else if (segL b n).2.1 = 0 then ⟨true, o.log, (remL (nameL k n) o.disk).1⟩
   else ⟨true, ⟨o.log.segs ++ [(n, (segL b n).1)], n + (segL b n).1.length, o.log.dirty ++ [n]⟩, (cutL (nameL k n) ((segL b n).2.1 : Int) o.disk).1⟩ := by
 unfold openStep;rw [num_name k hn];dsimp only;rw [if_neg h, hb]
theorem open_rest {k : Str} : ∀ (R D : List Fl) (M : LogL), Rises (D ++ R) -> ((filesL k R).map (·.1)).foldl (openStep k) ⟨true, M, filesL k (D ++ R)⟩ = ⟨true, M, filesL k D⟩ := by
 intro R
 induction R with
 | nil => intro D M _; rw [List.append_nil]; rfl
 | cons x R ih =>
  intro D M h;obtain ⟨n, a⟩ := x;have hn := (h.2 (n, a) (by simp)).2
  show List.foldl (openStep k) (openStep k ⟨true, M, filesL k (D ++ (n, a) :: R)⟩ (nameL k n)) ((filesL k R).map (·.1)) = _
  rw [openStep_bad hn (.inl rfl)];dsimp only;rw [remL_mid h];exact ih D M h.drop_mid
theorem segL_le (b : List Nat) (n : Nat) : (segL b n).2.1 <= b.length := by
 unfold segL
 suffices h : ∀ (f : Nat) (b : List Nat) (i : Nat), (readF f b i).2.1 <= b.length from h _ _ _
 intro f
 induction f with
 | zero => intro b i; exact Nat.zero_le _
 | succ f ih =>
  intro b i;rw [readF_step];split
  ·exact Nat.zero_le _
  ·split
   ·exact Nat.zero_le _
   ·split
    ·exact Nat.zero_le _
    ·have h1 := ih (b.drop (decL b).2.1) (i + 1);have h2 := (decL_le b).1;rw [List.length_drop] at h1
     show (decL b).2.1 + _ <= _
     omega
def quoteL (S : List Sg) (nx : Nat) : Option Nat := if S = [] then none else some nx
theorem open_files {k : Str} : ∀ (R D : List Fl) (S : List Sg) (nx : Nat) (dy : List Nat), Rises (D ++ R) -> (S = [] \/ nx = endL 1 S) ->
  ∃ bad, ((filesL k R).map (·.1)).foldl (openStep k) ⟨false, ⟨S, nx, dy⟩, filesL k (D ++ R)⟩ = ⟨bad, ⟨S ++ (openF (quoteL S nx) R).1, (if (openF (quoteL S nx) R).1 = [] then nx else endL nx (openF (quoteL S nx) R).1), dy ++ (openF (quoteL S nx) R).1.map (·.1)⟩, filesL k (D ++ (openF (quoteL S nx) R).2)⟩ := by
 intro R
 induction R with
 | nil => intro D S nx dy _ _; exact ⟨false, by simp [openF, filesL]⟩
 | cons x R ih =>
  intro D S nx dy h hS;obtain ⟨n, a⟩ := x;obtain ⟨hn1, hn⟩ := h.2 (n, a) (by simp);simp only at hn1 hn
  show ∃ bad, List.foldl (openStep k) (openStep k ⟨false, ⟨S, nx, dy⟩, filesL k (D ++ (n, a) :: R)⟩ (nameL k n)) ((filesL k R).map (·.1)) = _
  by_cases hw : S ≠ [] /\ n ≠ nx
  ·have hq : ∃ e, quoteL S nx = some e /\ n ≠ e := ⟨nx, by unfold quoteL; rw [if_neg hw.1], hw.2⟩;have e : openF (quoteL S nx) ((n, a) :: R) = ([], []) := by unfold openF; rw [if_pos hq]
   rw [e, openStep_bad hn (.inr (.inr hw))];dsimp only;rw [remL_mid h];refine ⟨true, ?_⟩;rw [open_rest R D _ h.drop_mid];simp
  ·have hq : ¬ ∃ e, quoteL S nx = some e /\ n ≠ e := by
    rintro ⟨e, h1, h2⟩;unfold quoteL at h1;split at h1
    ·cases h1
    ·rename_i h3
     have := Option.some.inj h1;exact hw ⟨h3, by rw [this]; exact h2⟩
   have hg := openStep_good (k := k) (o := ⟨false, ⟨S, nx, dy⟩, filesL k (D ++ (n, a) :: R)⟩) hn (by rintro (h1 | h1 | h1); exact absurd h1 (by simp); omega; exact hw h1) a.1 (readL_mid h);rw [hg];obtain ⟨sg, hsg⟩ : ∃ sg, sg = segL a.1 n := ⟨_, rfl⟩;have hle := segL_le a.1 n;rw [<- hsg] at hle ⊢;by_cases hwh : sg.2.2 = true
   ·rw [if_pos hwh];have e : openF (quoteL S nx) ((n, a) :: R) = ((n, sg.1) :: (openF (some (n + sg.1.length)) R).1, (n, a) :: (openF (some (n + sg.1.length)) R).2) := by
     conv => lhs; unfold openF
     rw [if_neg hq, <- hsg, if_pos hwh]
    rw [e];have eD : D ++ (n, a) :: R = (D ++ [(n, a)]) ++ R := by simp
    have h' := h;rw [eD] at h';obtain ⟨bad, hb⟩ := ih (D ++ [(n, a)]) (S ++ [(n, sg.1)]) (n + sg.1.length) (dy ++ [n]) h' (.inr (endL_app 1 S (n, sg.1)).symm);have hq2 : quoteL (S ++ [(n, sg.1)]) (n + sg.1.length) = some (n + sg.1.length) := by unfold quoteL; rw [if_neg (by simp)]
    rw [hq2] at hb;refine ⟨bad, ?_⟩;rw [eD, hb];have e3 : (if (openF (some (n + sg.1.length)) R).1 = [] then n + sg.1.length else endL (n + sg.1.length) (openF (some (n + sg.1.length)) R).1) = endL (n + sg.1.length) (openF (some (n + sg.1.length)) R).1 := by
     split
     ·rename_i h0
      rw [h0]
      rfl
     ·rfl
    rw [e3, if_neg (by simp)];simp [endL]
   ·rw [if_neg hwh];by_cases h0 : sg.2.1 = 0
    ·rw [if_pos h0];have e : openF (quoteL S nx) ((n, a) :: R) = ([], []) := by
      conv => lhs; unfold openF
      rw [if_neg hq, <- hsg, if_neg hwh, if_pos h0]
     rw [e];dsimp only;rw [remL_mid h];refine ⟨true, ?_⟩;rw [open_rest R D _ h.drop_mid];simp
    ·rw [if_neg h0];have e : openF (quoteL S nx) ((n, a) :: R) = ([(n, sg.1)], [(n, (a.1.take sg.2.1, min a.2 sg.2.1))]) := by
      conv => lhs; unfold openF
      rw [if_neg hq, <- hsg, if_neg hwh, if_neg h0]
     rw [e];dsimp only;rw [cutL_mid h hle];refine ⟨true, ?_⟩;have hp := h.putW_mid (b := (a.1.take sg.2.1, min a.2 sg.2.1));have eD : D ++ (n, (a.1.take sg.2.1, min a.2 sg.2.1)) :: R = (D ++ [(n, (a.1.take sg.2.1, min a.2 sg.2.1))]) ++ R := by simp
     rw [eD] at hp ⊢;rw [open_rest R _ _ hp];simp [endL]
theorem openR_files {k : Str} {X : List Fl} (h : Rises X) : (openR k (filesL k X)).log = ⟨(openF none X).1, endL 1 (openF none X).1, (openF none X).1.map (·.1)⟩ /\ (openR k (filesL k X)).disk = filesL k (openF none X).2 := by
 obtain ⟨bad, hb⟩ := open_files (k := k) X [] [] 1 [] h (.inl rfl);unfold openR;have hq : quoteL [] 1 = none := rfl;rw [hq] at hb;rw [List.nil_append] at hb;rw [hb];constructor
 ·dsimp only;congr 1;split
  ·rename_i h0
   rw [h0]
   rfl
  ·rfl
 ·rfl
end Go.Proofs.YtedlibkkeegnaaaGreat
