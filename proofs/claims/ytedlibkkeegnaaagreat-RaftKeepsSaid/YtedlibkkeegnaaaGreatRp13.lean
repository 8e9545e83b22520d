/- What a crash leaves of a log, opened anew, as lists. It names nothing of the program. Entries that are laid and synced, as lists: a log and a disk that holds it -/
import Derived.Test.YtedlibkkeegnaaaGreatRp12
namespace Go.Proofs.YtedlibkkeegnaaaGreat
open Go.RowKit Go.Maps
variable {L : DiskL} {s : ByteArray} {M : LogL} {room l m n c i b : Nat}
abbrev Tl := Nat × List (List Nat) × Nat
def fileT (t : Tl) : Fl := (t.1, (recsL t.1 t.2.1, t.2.2))
def segT (t : Tl) : Sg := (t.1, t.2.1)
def flatT (T : List Tl) : List (List Nat) := T.flatMap fun t => t.2.1
def flatS (S : List Sg) : List (List Nat) := S.flatMap fun s => s.2
def Chain : Nat -> List Sg -> Nat -> Prop
 | i, [], n => i = n
 | i, s :: r, n => s.1 = i /\ Chain (i + s.2.length) r n
theorem chain_end : ∀ {S : List Sg} {i n : Nat}, Chain i S n -> endL i S = n := by
 intro S
 induction S with
 | nil => intro i n h; exact h
 | cons s r ih =>
  intro i n h;obtain ⟨h1, h2⟩ := h
  show endL (s.1 + s.2.length) r = n
  rw [h1];exact ih h2
theorem chain_len : ∀ {S : List Sg} {i n : Nat}, Chain i S n -> n = i + (flatS S).length := by
 intro S
 induction S with
 | nil => intro i n h; simp [flatS]; exact h.symm
 | cons s r ih =>
  intro i n h;have := ih h.2;rw [this];simp [flatS];omega
theorem chain_app : ∀ {S R : List Sg} {i n m : Nat}, Chain i S n -> Chain n R m -> Chain i (S ++ R) m := by
 intro S
 induction S with
 | nil => intro R i n m h1 h2; have : i = n := h1; rw [this]; exact h2
 | cons s r ih => intro R i n m h1 h2; exact ⟨h1.1, ih h1.2 h2⟩
theorem chain_first {S : List Sg} {d : List Nat} (h : Chain i S n) : firstL ⟨S, n, d⟩ = i := by
 rcases S with _ | ⟨s, r⟩
 ·exact Eq.symm h
 ·exact h.1
theorem getE_chain : ∀ {S : List Sg} {i n nx : Nat} {d : List Nat} (z : Int), Chain i S n -> getE ⟨S, nx, d⟩ z = if (i : Int) <= z /\ z < (n : Int) then ((flatS S).getD (z - i).toNat [], 0) else ([], 7) := by
 intro S
 induction S with
 | nil =>
  intro i n nx d z h;have : i = n := h;rw [if_neg (by omega)]
  rfl
 | cons s r ih =>
  intro i n nx d z h;obtain ⟨h1, h2⟩ := h;have hl := chain_len h2;rw [getE_cons, ih z h2, h1];by_cases hz : (i : Int) <= z /\ z < (i : Int) + s.2.length
  ·rw [if_pos hz, if_pos (by omega)];have e : (flatS (s :: r)).getD (z - i).toNat [] = s.2.getD (z - i).toNat [] := by
    show (s.2 ++ flatS r).getD (z - i).toNat [] = _
    simp only [List.getD_eq_getElem?_getD];rw [List.getElem?_append_left (by omega)]
   rw [e]
  ·rw [if_neg hz];by_cases hw : (i : Int) <= z /\ z < (n : Int)
   ·rw [if_pos hw, if_pos (by omega)];have e : (flatS (s :: r)).getD (z - i).toNat [] = (flatS r).getD (z - ((i + s.2.length : Nat) : Int)).toNat [] := by
     show (s.2 ++ flatS r).getD (z - i).toNat [] = _
     simp only [List.getD_eq_getElem?_getD];rw [List.getElem?_append_right (by omega)];congr 2;omega
    rw [e]
   ·rw [if_neg hw, if_neg (by omega)]
structure GoodT (i : Nat) (T : List Tl) (n : Nat) : Prop where
 chain : Chain i (T.map segT) n
 some : ∀ t ∈ T, t.2.1 ≠ []
 fits : ∀ t ∈ T, FitsAll t.1 t.2.1
 last : ∀ t ∈ T, t.2.2 <= (recsL t.1 t.2.1).length
theorem GoodT.tail {t : Tl} {T : List Tl} (h : GoodT i (t :: T) n) : GoodT (i + t.2.1.length) T n :=
 ⟨h.chain.2, fun x hx => h.some x (List.mem_cons_of_mem _ hx), fun x hx => h.fits x (List.mem_cons_of_mem _ hx), fun x hx => h.last x (List.mem_cons_of_mem _ hx)⟩
theorem good_from : ∀ {T : List Tl} {i n : Nat}, GoodT i T n -> ∀ t ∈ T, i <= t.1 /\ t.1 + t.2.1.length <= n := by
 intro T
 induction T with
 | nil => intro i n _ t ht; cases ht
 | cons x T ih =>
  intro i n h t ht;have e : x.1 = i := h.chain.1;have hle : ∀ {T : List Tl} {i n : Nat}, Chain i (T.map segT) n -> i <= n := fun {T i n} hc => by
   have := chain_len hc;omega
  rcases List.mem_cons.1 ht with rfl | ht
  ·have := hle h.tail.chain;omega
  ·have := ih h.tail t ht;omega
theorem good_rises {T : List Tl} (h : GoodT i T n) (hi : 1 <= i) (hn : n <= 100000000) : Rises (T.map fileT) := by
 refine ⟨?_, fun x hx => ?_⟩
 ·rw [List.pairwise_map]
  induction T generalizing i with
  | nil => exact List.Pairwise.nil
  | cons t T ih =>
   rw [List.pairwise_cons];refine ⟨fun y hy => ?_, ih h.tail (by omega)⟩;have e : t.1 = i := h.chain.1;have h1 := good_from h.tail y hy;have h2 := h.some t (List.mem_cons_self);have h3 : t.2.1.length ≠ 0 := fun e => h2 (List.length_eq_zero_iff.1 e)
   show t.1 < y.1
   omega
 ·obtain ⟨t, ht, rfl⟩ := List.mem_map.1 hx;have h1 := good_from h t ht;have h2 := h.some t ht;have h3 : t.2.1.length ≠ 0 := fun e => h2 (List.length_eq_zero_iff.1 e)
  show 1 <= t.1 /\ t.1 < 100000000
  omega
inductive Crashed : List Tl -> List Fl -> Prop where
 | nil : Crashed [] []
 | cons {T : List Tl} {X : List Fl} (t : Tl) (m : Nat) (h1 : t.2.2 <= m) (h2 : m <= (recsL t.1 t.2.1).length) (h : Crashed T X) : Crashed (t :: T) ((t.1, ((recsL t.1 t.2.1).take m, m)) :: X)
theorem crash_files {k : Str} (z : Nat) : ∀ (T : List Tl) (j : Nat), (∀ t ∈ T, t.2.2 <= (recsL t.1 t.2.1).length) ->
  ∃ X, Crashed T X /\ (filesL k (T.map fileT)).mapIdx (fun i p => (p.1, crash1 z (i + j) p.2)) = filesL k X := by
 intro T
 induction T with
 | nil => intro j _; exact ⟨[], .nil, rfl⟩
 | cons t T ih =>
  intro j h;obtain ⟨X, h1, h2⟩ := ih (j + 1) (fun x hx => h x (List.mem_cons_of_mem _ hx));have hl := h t (List.mem_cons_self);refine ⟨_, .cons t _ (Nat.le_add_right _ _) (crash1_le z (0 + j) (recsL t.1 t.2.1, t.2.2) hl) h1, ?_⟩
  show List.mapIdx _ ((nameL k t.1, (recsL t.1 t.2.1, t.2.2)) :: filesL k (T.map fileT)) = _ :: filesL k X
  rw [List.mapIdx_cons, <- h2];congr 1;congr 1;funext i p;rw [show i + 1 + j = i + (j + 1) by omega]
theorem crashD_files {k : Str} (z : Nat) {T : List Tl} (h : ∀ t ∈ T, t.2.2 <= (recsL t.1 t.2.1).length) : ∃ X, Crashed T X /\ crashD z (filesL k (T.map fileT)) = filesL k X := by
 obtain ⟨X, h1, h2⟩ := crash_files (k := k) z T 0 h;exact ⟨X, h1, h2⟩
theorem Crashed.rises {T : List Tl} {X : List Fl} (h : Crashed T X) (hr : Rises (T.map fileT)) : Rises X := by
 have e : ∀ {T : List Tl} {X : List Fl}, Crashed T X -> X.map (·.1) = (T.map fileT).map (·.1) := fun {T X} h => by
  induction h with
  | nil => rfl
  | cons t m _ _ _ ih => rw [List.map_cons, List.map_cons, List.map_cons, ih]; rfl
 obtain ⟨h1, h2⟩ := hr;have h3 := List.pairwise_map (f := fun x : Fl => x.1) (R := fun a b => a < b) (l := T.map fileT);refine ⟨?_, fun x hx => ?_⟩
 ·have p := h3.2 h1;rw [<- e h, List.pairwise_map] at p;exact p
 ·have hx1 : x.1 ∈ X.map (·.1) := List.mem_map.2 ⟨x, hx, rfl⟩;rw [e h] at hx1;obtain ⟨y, hy, hy2⟩ := List.mem_map.1 hx1;rw [<- hy2];exact h2 y hy
def Synced : Nat -> List Tl -> Prop
 | _, [] => True
 | c, t :: r => (recsL t.1 (t.2.1.take c)).length <= t.2.2 /\ Synced (c - t.2.1.length) r
theorem recs_mono (i : Nat) (es : List (List Nat)) {a : Nat} (h : a <= b) : (recsL i (es.take a)).length <= (recsL i (es.take b)).length := by
 have e : es.take b = es.take a ++ (es.take b).drop a := by
  conv => lhs; rw [<- List.take_append_drop a (es.take b)]
  rw [List.take_take, Nat.min_eq_left h]
 rw [e, recs_app, List.length_append];omega
theorem kept_open : ∀ (T : List Tl) (X : List Fl) (i n c : Nat), GoodT i T n -> Crashed T X -> Synced c T -> c <= (flatT T).length ->
  ∃ q, c <= q /\ q <= (flatT T).length /\ Chain i (openF (some i) X).1 (i + q) /\ flatS (openF (some i) X).1 = (flatT T).take q := by
 intro T
 induction T with
 | nil =>
  intro X i n c _ hX _ hc;cases hX
  exact ⟨0, by simpa [flatT] using hc, by simp, rfl, rfl⟩
 | cons t T ih =>
  intro X i n c hg hX hs hc;obtain ⟨X', m, h1, h2, hX', rfl⟩ : ∃ X' m, t.2.2 <= m /\ m <= (recsL t.1 t.2.1).length /\ Crashed T X' /\ X = (t.1, ((recsL t.1 t.2.1).take m, m)) :: X' := by
   cases hX with
   | cons _ m h1 h2 h => exact ⟨_, m, h1, h2, h, rfl⟩
  obtain ⟨f, es, l⟩ := t;have ef : f = i := hg.chain.1;subst ef;have hfit : FitsAll f es := hg.fits _ (List.mem_cons_self);have hne : es ≠ [] := hg.some _ (List.mem_cons_self);obtain ⟨hs1, hs2⟩ := hs;simp only at h1 h2 hs1 hs2;have ht := hg.tail;simp only at ht;obtain ⟨j, j1, j2, j3, j4, j5, j6⟩ := seg_torn es f m hfit h2;have hcj : c <= j \/ j = es.length := by
   by_cases hj : j < es.length
   ·left
    have h3 := j6 hj;rcases Nat.lt_or_ge j c with h | h
    ·have := recs_mono f es (show j + 1 <= c from h);omega
    ·exact h
   ·right
    omega
  have e1 : flatT ((f, es, l) :: T) = es ++ flatT T := rfl;rw [e1, List.length_append] at hc;rw [e1];obtain ⟨sg, hsg⟩ : ∃ sg, sg = segL ((recsL f es).take m) f := ⟨_, rfl⟩;rw [<- hsg] at j2 j3 j5;have hq : ¬ ∃ e, some f = some e /\ f ≠ e := by
   rintro ⟨e, h3, h4⟩;exact h4 (Option.some.inj h3)
  by_cases hw : sg.2.2 = true
  ·have eo : openF (some f) ((f, ((recsL f es).take m, m)) :: X') = ((f, sg.1) :: (openF (some (f + sg.1.length)) X').1, (f, ((recsL f es).take m, m)) :: (openF (some (f + sg.1.length)) X').2) := by
    conv => lhs; unfold openF
    rw [if_neg hq, <- hsg, if_pos hw]
   rw [eo];have el : sg.1.length = j := by rw [j2, List.length_take]; omega
   rw [el];by_cases hj : j = es.length
   ·subst hj;obtain ⟨q, q1, q2, q3, q4⟩ := ih X' (f + es.length) n (c - es.length) ht hX' hs2 (by omega);refine ⟨es.length + q, by omega, by rw [List.length_append]; omega, ⟨rfl, ?_⟩, ?_⟩
    ·show Chain (f + sg.1.length) _ _
     rw [el, <- Nat.add_assoc];exact q3
    ·show sg.1 ++ flatS _ = _
     rw [j2, q4, List.take_length, List.take_length_add_append]
   ·have hj' : j < es.length := by omega
    have hnil : (openF (some (f + j)) X').1 = [] := by
     rcases X' with _ | ⟨⟨f2, a2⟩, X2⟩
     ·rfl
     ·have e2 : f2 = f + es.length := by
       cases hX' with
       | cons t2 m2 _ _ _ => exact ht.chain.1
      have hq2 : ∃ e, some (f + j) = some e /\ f2 ≠ e := ⟨f + j, rfl, by omega⟩;unfold openF;rw [if_pos hq2]
    rw [hnil];refine ⟨j, by omega, by rw [List.length_append]; omega, ⟨rfl, ?_⟩, ?_⟩
    ·show f + sg.1.length = f + j
     rw [el]
    ·show sg.1 ++ [] = _
     rw [List.append_nil, j2, List.take_append_of_le_length (by omega)]
  ·by_cases hj : j = es.length
   ·exfalso;subst hj;rw [List.take_length] at j4;have em : m = (recsL f es).length := by omega
    rw [em, List.take_length, seg_whole es f hfit] at hsg;rw [hsg] at hw;exact hw rfl
   ·have hj' : j < es.length := by omega
    by_cases h0 : sg.2.1 = 0
    ·have eo : (openF (some f) ((f, ((recsL f es).take m, m)) :: X')).1 = [] := by
      unfold openF;rw [if_neg hq, <- hsg, if_neg hw, if_pos h0]
     have hj0 : j = 0 := by
      rcases j with _ | j
      ·rfl
      ·exfalso;rw [j3] at h0;rcases es with _ | ⟨p, r⟩
       ·exact hne rfl
       ·have : (recsL f ((p :: r).take (j + 1))).length = (recL f p).length + (recsL (f + 1) (r.take j)).length := by
         show (recL f p ++ recsL (f + 1) (r.take j)).length = _
         rw [List.length_append]
        have := rec_len f p;omega
     rw [eo];exact ⟨0, by omega, Nat.zero_le _, rfl, rfl⟩
    ·have eo : (openF (some f) ((f, ((recsL f es).take m, m)) :: X')).1 = [(f, sg.1)] := by
      unfold openF;rw [if_neg hq, <- hsg, if_neg hw, if_neg h0]
     rw [eo];have el : sg.1.length = j := by rw [j2, List.length_take]; omega
     refine ⟨j, by omega, by rw [List.length_append]; omega, ⟨rfl, ?_⟩, ?_⟩
     ·show f + sg.1.length = f + j
      rw [el]
     ·show sg.1 ++ [] = _
      rw [List.append_nil, j2, List.take_append_of_le_length (by omega)]
theorem openF_cons (q : Option Nat) (n : Nat) (f : List Nat × Nat) (r : List Fl) : openF q ((n, f) :: r) = if (∃ e, q = some e /\ n ≠ e) then ([], [])
  else if (segL f.1 n).2.2 = true then ((n, (segL f.1 n).1) :: (openF (some (n + (segL f.1 n).1.length)) r).1, (n, f) :: (openF (some (n + (segL f.1 n).1.length)) r).2)
  else if (segL f.1 n).2.1 = 0 then ([], [])
  else ([(n, (segL f.1 n).1)], [(n, (f.1.take (segL f.1 n).2.1, min f.2 (segL f.1 n).2.1))]) := by
 conv => lhs; unfold openF
theorem openF_none {X : List Fl} (h : ∀ x ∈ X.head?, x.1 = n) : openF none X = openF (some n) X := by
 rcases X with _ | ⟨⟨f, a⟩, X⟩
 ·rfl
 ·have e : f = n := h (f, a) rfl;subst e;have h1 : ¬ ∃ e, (none : Option Nat) = some e /\ f ≠ e := by rintro ⟨e, h1, _⟩; cases h1
  have h2 : ¬ ∃ e, some f = some e /\ f ≠ e := by rintro ⟨e, h1, h2⟩; exact h2 (Option.some.inj h1)
  have e1 := openF_cons none f a X;have e2 := openF_cons (some f) f a X;rw [if_neg h1] at e1;rw [if_neg h2] at e2;rw [e1, e2]
theorem kept_openR {k : Str} {T : List Tl} (z : Nat) (hg : GoodT 1 T n) (hn : n <= 100000000) (hs : Synced c T) (hc : c <= (flatT T).length) :
  ∃ q S d, c <= q /\ q <= (flatT T).length /\ (openR k (crashD z (filesL k (T.map fileT)))).log = ⟨S, 1 + q, d⟩ /\ Chain 1 S (1 + q) /\ flatS S = (flatT T).take q := by
 obtain ⟨X, hX, e⟩ := crashD_files (k := k) z hg.last;have hr := hX.rises (good_rises hg (Nat.le_refl _) hn);obtain ⟨q, q1, q2, q3, q4⟩ := kept_open T X 1 n c hg hX hs hc;have eo : openF none X = openF (some 1) X := openF_none (fun x hx => by
  cases hX with
  | nil => cases hx
  | cons t m _ _ _ =>
   cases hx
   exact hg.chain.1)
 refine ⟨q, (openF (some 1) X).1, (openF (some 1) X).1.map (·.1), q1, q2, ?_, q3, q4⟩;rw [e, (openR_files hr).1, eo, chain_end q3]
def bytesT (T : List Tl) : Nat := (T.map fun t => (recsL t.1 t.2.1).length).sum
theorem used_files (k : Str) (T : List Tl) : usedL (filesL k (T.map fileT)) = bytesT T := by
 unfold usedL sumK filesL bytesT fileT;rw [List.map_map, List.map_map]
 rfl
structure FitL (k : Str) (T : List Tl) (M : LogL) (L : DiskL) : Prop where
 disk : L = filesL k (T.map fileT)
 segs : M.segs = T.map segT
 good : GoodT 1 T M.next
 dirt : ∀ t ∈ T, t.2.2 = (recsL t.1 t.2.1).length \/ t.1 ∈ M.dirty
 nums : ∀ n ∈ M.dirty, n < 100000000
theorem put_end {k : Str} {a : List Nat × Nat} {X : List Fl} (h : Rises (X ++ [(n, a)])) : putK (nameL k n) a (filesL k X) = filesL k (X ++ [(n, a)]) := by
 have h1 := putW_mid (k := k) (b := a) h;have h2 := del_mid (k := k) h;rw [List.append_nil] at h2;rw [<- h1, <- putK_del (nameL k n) a (filesL k (X ++ [(n, a)])), h2]
theorem get_end {k : Str} {a : List Nat × Nat} {X : List Fl} (h : Rises (X ++ [(n, a)])) : getK (nameL k n) (filesL k X) = none := by
 have h2 := del_mid (k := k) h;rw [List.append_nil] at h2;rw [<- h2];exact getK_del_same
theorem good_snoc {T : List Tl} {p : List Nat} (h : GoodT i T n) (hp : p.length <= 1048566) (hn : n < 100000000) : GoodT i (T ++ [(n, [p], 0)]) (n + 1) := by
 refine ⟨?_, fun t ht => ?_, fun t ht => ?_, fun t ht => ?_⟩
 ·rw [List.map_append];exact chain_app h.chain ⟨rfl, rfl⟩
 all_goals rcases List.mem_append.1 ht with ht | ht
 ·exact h.some t ht
 ·have : t = (n, [p], 0) := by simpa using ht
  subst this;simp
 ·exact h.fits t ht
 ·have : t = (n, [p], 0) := by simpa using ht
  subst this;exact ⟨⟨hn, hp⟩, trivial⟩
 ·exact h.last t ht
 ·have : t = (n, [p], 0) := by simpa using ht
  subst this;exact Nat.zero_le _
theorem chain_split : ∀ {S R : List Sg} {i n : Nat}, Chain i (S ++ R) n -> ∃ m, Chain i S m /\ Chain m R n := by
 intro S
 induction S with
 | nil => intro R i n h; exact ⟨i, rfl, h⟩
 | cons s r ih =>
  intro R i n h;obtain ⟨m, h1, h2⟩ := ih h.2;exact ⟨m, ⟨h.1, h1⟩, h2⟩
theorem good_more {T : List Tl} {f : Nat} {es : List (List Nat)} {p : List Nat} (h : GoodT i (T ++ [(f, es, l)]) n) (hp : p.length <= 1048566) (hn : n < 100000000) : GoodT i (T ++ [(f, es ++ [p], l)]) (n + 1) /\ n = f + es.length := by
 have hc := h.chain;rw [List.map_append] at hc;obtain ⟨m, c1, c2⟩ := chain_split hc;obtain ⟨e1, e2⟩ := c2;have e1 : f = m := e1;have e2 : m + es.length = n := e2;have hf := h.fits (f, es, l) (by simp);have hl := h.last (f, es, l) (by simp);simp only at hf hl;have hfit : FitsAll f (es ++ [p]) := (fits_app f es [p]).2 ⟨hf, ⟨⟨by omega, hp⟩, trivial⟩⟩;refine ⟨⟨?_, fun t ht => ?_, fun t ht => ?_, fun t ht => ?_⟩, by omega⟩
 ·rw [List.map_append];refine chain_app c1 ⟨e1, ?_⟩
  show m + (es ++ [p]).length = n + 1
  rw [List.length_append];simp;omega
 all_goals rcases List.mem_append.1 ht with ht | ht
 ·exact h.some t (List.mem_append.2 (.inl ht))
 ·have : t = (f, es ++ [p], l) := by simpa using ht
  subst this;simp
 ·exact h.fits t (List.mem_append.2 (.inl ht))
 ·have : t = (f, es ++ [p], l) := by simpa using ht
  subst this;exact hfit
 ·exact h.last t (List.mem_append.2 (.inl ht))
 ·have : t = (f, es ++ [p], l) := by simpa using ht
  subst this
  show l <= (recsL f (es ++ [p])).length
  rw [recs_app, List.length_append];omega
theorem synced_snoc : ∀ (T : List Tl) (c : Nat) (t : Tl), Synced c T -> c <= (flatT T).length -> Synced c (T ++ [t]) := by
 intro T
 induction T with
 | nil =>
  intro c t _ hc;have h0 : c = 0 := by
   have : (flatT []).length = 0 := rfl;omega
  subst h0;exact ⟨Nat.zero_le _, trivial⟩
 | cons x T ih =>
  intro c t h hc;have e : (flatT (x :: T)).length = x.2.1.length + (flatT T).length := by
   show (x.2.1 ++ flatT T).length = _
   rw [List.length_append]
  exact ⟨h.1, ih _ t h.2 (by omega)⟩
theorem synced_more : ∀ (T : List Tl) (c f l : Nat) (es : List (List Nat)) (p : List Nat), Synced c (T ++ [(f, es, l)]) -> c <= (flatT (T ++ [(f, es, l)])).length -> Synced c (T ++ [(f, es ++ [p], l)]) := by
 intro T
 induction T with
 | nil =>
  intro c f l es p h hc;have hc : c <= es.length := by
   have : (flatT ([] ++ [(f, es, l)])).length = es.length := by simp [flatT]
   omega
  have h1 : (recsL f (es.take c)).length <= l := h.1;refine ⟨?_, trivial⟩
  show (recsL f ((es ++ [p]).take c)).length <= l
  rw [List.take_append_of_le_length hc];exact h1
 | cons x T ih =>
  intro c f l es p h hc;have e : (flatT (x :: T ++ [(f, es, l)])).length = x.2.1.length + (flatT (T ++ [(f, es, l)])).length := by
   show (x.2.1 ++ flatT (T ++ [(f, es, l)])).length = _
   rw [List.length_append]
  exact ⟨h.1, ih _ f l es p h.2 (by omega)⟩
theorem add_fit {k : Str} {T : List Tl} {p : List Nat} (h : FitL k T M L) (hk : 1 <= k.length /\ k.length <= 55) (hp : p.length <= 1048566) (hn : M.next < 99999999) (hr : bytesT T + (recL M.next p).length <= room) (hl : T.length < 256) :
  ∃ T' M' L', addL room k p M L = ((M', L'), M.next, 0) /\ FitL k T' M' L' /\ flatT T' = flatT T ++ [p] /\ bytesT T' = bytesT T + (recL M.next p).length /\ T'.length <= T.length + 1 /\ M'.next = M.next + 1 /\ ∀ c, c <= (flatT T).length -> Synced c T -> Synced c T' := by
 obtain ⟨hd, hs, hg, hdi, hnu⟩ := h;have happ : ∀ n : Nat, 1 <= (nameL k n).length /\ (nameL k n).length <= 64 := fun n => by rw [name_len]; omega
 have hlen : L.length < 256 := by rw [hd]; unfold filesL; rw [List.length_map, List.length_map]; exact hl
 have hused : usedL L = bytesT T := by rw [hd, used_files]
 have hok : ∀ n : Nat, appL room (nameL k n) (recL M.next p) L = (putK (nameL k n) (oldB (nameL k n) L ++ recL M.next p, oldN (nameL k n) L) L, 0) := fun n => by
  unfold appL;rw [if_neg (fun h => h (happ n)), if_neg];rintro (⟨_, h⟩ | h) <;> omega
 have hadd : addL room k p M L = ((⟨laidL (if freshL k M L = true then M.segs ++ [(M.next, [])] else M.segs) p, M.next + 1, M.dirty ++ [whereL k M L]⟩, putK (nameL k (whereL k M L)) (oldB (nameL k (whereL k M L)) L ++ recL M.next p, oldN (nameL k (whereL k M L)) L) L), M.next, 0) := by
  unfold addL;rw [if_neg (by omega), if_neg (by omega), hok, if_neg (by simp)]
 rcases List.eq_nil_or_concat T with rfl | ⟨T0, t, rfl⟩
 ·have hf : freshL k M L = true := by unfold freshL; rw [hs]; rfl
  have hw : whereL k M L = M.next := by unfold whereL; rw [if_pos hf]
  rw [if_pos hf, hw] at hadd;have hg2 := good_snoc (p := p) hg hp (by omega);have hL : L = [] := by rw [hd]; rfl
  have hri := good_rises hg2 (Nat.le_refl _) (by omega);refine ⟨[(M.next, [p], 0)], _, _, hadd, ⟨?_, ?_, hg2, fun t ht => ?_, fun n hm => ?_⟩, by simp [flatT], ?_, by simp, rfl, fun c hc hsy => synced_snoc [] c _ hsy hc⟩
  ·rw [hL]
   show putK (nameL k M.next) ([] ++ recL M.next p, 0) [] = [(nameL k M.next, (recL M.next p ++ [], 0))]
   rw [List.append_nil]
   rfl
  ·rw [hs]
   rfl
  ·have : t = (M.next, [p], 0) := by simpa using ht
   subst this;exact .inr (List.mem_append.2 (.inr (by simp)))
  ·rcases List.mem_append.1 hm with hm | hm
   ·exact hnu n hm
   ·have : n = M.next := by simpa using hm
    omega
  ·simp [bytesT, recsL]
 ·rw [List.concat_eq_append] at *;obtain ⟨f, es, l⟩ := t;have hri0 := good_rises hg (Nat.le_refl _) (by omega);rw [List.map_append] at hri0;have hlast : M.segs.getLast? = some (f, es) := by rw [hs, List.map_append]; simp [segT]
  have hmid : getK (nameL k f) L = some (recsL f es, l) := by rw [hd, List.map_append]; exact getW_mid (X := []) hri0
  have hsz : sizeL (nameL k f) L = (recsL f es).length := by unfold sizeL; rw [hmid]; rfl
  have hfr : freshL k M L = decide (1024 <= (recsL f es).length) := by unfold freshL; rw [hlast]; dsimp only; rw [hsz]
  have hfl : (flatT (T0 ++ [(f, es, l)])) = flatT T0 ++ es := by unfold flatT; rw [List.flatMap_append]; simp
  by_cases h1024 : 1024 <= (recsL f es).length
  ·have hf : freshL k M L = true := by rw [hfr]; simp [h1024]
   have hw : whereL k M L = M.next := by unfold whereL; rw [if_pos hf]
   rw [if_pos hf, hw] at hadd;have hg2 := good_snoc (p := p) hg hp (by omega);have hri := good_rises hg2 (Nat.le_refl _) (by omega);rw [List.map_append] at hri;have hri' : Rises ((T0 ++ [(f, es, l)]).map fileT ++ [(M.next, (recL M.next p, 0))]) := by
    have e : [((M.next, [p], 0) : Tl)].map fileT = [(M.next, (recL M.next p ++ [], 0))] := rfl;rw [e, List.append_nil] at hri;exact hri
   have hno : getK (nameL k M.next) L = none := by rw [hd]; exact get_end hri'
   refine ⟨T0 ++ [(f, es, l)] ++ [(M.next, [p], 0)], _, _, hadd, ⟨?_, ?_, hg2, fun t ht => ?_, fun n hm => ?_⟩, ?_, ?_, by simp, rfl, fun c hc hsy => synced_snoc _ c _ hsy hc⟩
   ·have e1 : oldB (nameL k M.next) L = [] := by unfold oldB; rw [hno]; rfl
    have e2 : oldN (nameL k M.next) L = 0 := by unfold oldN; rw [hno]; rfl
    rw [e1, e2, List.nil_append, hd, put_end hri', List.map_append (l₁ := T0 ++ [(f, es, l)])];have e : [((M.next, [p], 0) : Tl)].map fileT = [(M.next, (recL M.next p ++ [], 0))] := rfl;rw [e, List.append_nil]
   ·unfold laidL;rw [List.getLast?_concat];dsimp only;rw [List.dropLast_concat, hs, List.map_append (l₁ := T0 ++ [(f, es, l)])]
    rfl
   ·rcases List.mem_append.1 ht with ht | ht
    ·rcases hdi t ht with h | h
     ·exact .inl h
     ·exact .inr (List.mem_append.2 (.inl h))
    ·have : t = (M.next, [p], 0) := by simpa using ht
     subst this;exact .inr (List.mem_append.2 (.inr (by simp)))
   ·rcases List.mem_append.1 hm with hm | hm
    ·exact hnu n hm
    ·have : n = M.next := by simpa using hm
     omega
   ·unfold flatT;rw [List.flatMap_append (xs := T0 ++ [(f, es, l)])];simp
   ·unfold bytesT;rw [List.map_append (l₁ := T0 ++ [(f, es, l)]), List.sum_append];simp [recsL]
  ·have hf : freshL k M L = false := by rw [hfr]; simp [h1024]
   have hw : whereL k M L = f := by unfold whereL lastL; rw [if_neg (by rw [hf]; simp), hlast]; rfl
   rw [if_neg (by rw [hf]; simp), hw] at hadd;obtain ⟨hg2, hne⟩ := good_more (p := p) hg hp (by omega);have hri := good_rises hg2 (Nat.le_refl _) (by omega);rw [List.map_append] at hri;have e1 : oldB (nameL k f) L = recsL f es := by unfold oldB; rw [hmid]; rfl
   have e2 : oldN (nameL k f) L = l := by unfold oldN; rw [hmid]; rfl
   have er : recsL f (es ++ [p]) = recsL f es ++ recL M.next p := by
    rw [recs_app, hne]
    show recsL f es ++ (recL (f + es.length) p ++ []) = _
    rw [List.append_nil]
   refine ⟨T0 ++ [(f, es ++ [p], l)], _, _, hadd, ⟨?_, ?_, hg2, fun t ht => ?_, fun n hm => ?_⟩, ?_, ?_, by simp, rfl, fun c hc hsy => synced_more T0 c f l es p hsy hc⟩
   ·rw [e1, e2, hd, List.map_append, List.map_append, <- er];exact putW_mid (X := []) hri0
   ·unfold laidL;rw [hlast];dsimp only;rw [hs, List.map_append, List.map_append];simp [segT]
   ·rcases List.mem_append.1 ht with ht | ht
    ·rcases hdi t (List.mem_append.2 (.inl ht)) with h | h
     ·exact .inl h
     ·exact .inr (List.mem_append.2 (.inl h))
    ·have : t = (f, es ++ [p], l) := by simpa using ht
     subst this;exact .inr (List.mem_append.2 (.inr (by simp)))
   ·rcases List.mem_append.1 hm with hm | hm
    ·exact hnu n hm
    ·have : n = f := by simpa using hm
     have := hg.chain;omega
   ·rw [hfl];unfold flatT;rw [List.flatMap_append];simp
   ·unfold bytesT;rw [List.map_append, List.map_append, List.sum_append, List.sum_append];simp only [List.map_cons, List.map_nil, List.sum_cons, List.sum_nil, er, List.length_append];omega
def fullT (t : Tl) : Tl := (t.1, t.2.1, (recsL t.1 t.2.1).length)
def syncT (n : Nat) (T : List Tl) : List Tl := T.map fun t => if t.1 = n then fullT t else t
theorem rises_firsts {X Y : List Fl} (h : Rises X) (e : Y.map (·.1) = X.map (·.1)) : Rises Y := by
 obtain ⟨h1, h2⟩ := h;have p := (List.pairwise_map (f := fun x : Fl => x.1) (R := fun a b => a < b) (l := X)).2 h1;rw [<- e, List.pairwise_map] at p;refine ⟨p, fun y hy => ?_⟩;have hy1 : y.1 ∈ Y.map (·.1) := List.mem_map.2 ⟨y, hy, rfl⟩;rw [e] at hy1;obtain ⟨x, hx, e2⟩ := List.mem_map.1 hy1;rw [<- e2];exact h2 x hx
theorem syncT_firsts (n : Nat) (T : List Tl) : ((syncT n T).map fileT).map (·.1) = (T.map fileT).map (·.1) := by
 unfold syncT;rw [List.map_map, List.map_map, List.map_map];refine List.map_congr_left fun t _ => ?_
 show (fileT (if t.1 = n then fullT t else t)).1 = t.1
 split <;> rfl
theorem sync_one {k : Str} {T : List Tl} (hr : Rises (T.map fileT)) (hn : n < 100000000) : (syncL (nameL k n) (filesL k (T.map fileT))).1 = filesL k ((syncT n T).map fileT) := by
 by_cases hm : ∃ t ∈ T, t.1 = n
 ·obtain ⟨t, ht, rfl⟩ := hm;obtain ⟨A, B, rfl⟩ := List.append_of_mem ht;have hr0 := hr;rw [List.map_append, List.map_cons] at hr;have hA : ∀ x ∈ A, x.1 ≠ t.1 := fun x hx e => by
   have p := (List.pairwise_append.1 hr.1).2.2 (fileT x) (List.mem_map.2 ⟨x, hx, rfl⟩) (fileT t) (List.mem_cons_self);have p : x.1 < t.1 := p;omega
  have hB : ∀ x ∈ B, x.1 ≠ t.1 := fun x hx e => by
   have p := (List.pairwise_cons.1 (List.pairwise_append.1 hr.1).2.1).1 (fileT x) (List.mem_map.2 ⟨x, hx, rfl⟩);have p : t.1 < x.1 := p;omega
  have e1 : syncT t.1 (A ++ t :: B) = A ++ fullT t :: B := by
   unfold syncT;rw [List.map_append, List.map_cons, if_pos rfl];congr 1
   ·conv => rhs; rw [<- List.map_id A]
    exact List.map_congr_left fun x hx => if_neg (hA x hx)
   ·congr 1
    conv => rhs; rw [<- List.map_id B]
    exact List.map_congr_left fun x hx => if_neg (hB x hx)
  have hg : getK (nameL k t.1) (filesL k ((A ++ t :: B).map fileT)) = some (recsL t.1 t.2.1, t.2.2) := by
   rw [List.map_append, List.map_cons];exact getW_mid hr
  rw [e1];unfold syncL;rw [hg];dsimp only;rw [List.map_append, List.map_cons, List.map_append, List.map_cons];exact putW_mid hr
 ·have e1 : syncT n T = T := by
   unfold syncT
   conv => rhs; rw [<- List.map_id T]
   exact List.map_congr_left fun x hx => if_neg (fun e => hm ⟨x, hx, e⟩)
  have hg : getK (nameL k n) (filesL k (T.map fileT)) = none := by
   rcases h : getK (nameL k n) (filesL k (T.map fileT)) with _ | a
   ·rfl
   ·have := getK_mem h;unfold filesL at this;obtain ⟨x, hx, e⟩ := List.mem_map.1 this;obtain ⟨t, ht, rfl⟩ := List.mem_map.1 hx;have e2 : nameL k t.1 = nameL k n := congrArg Prod.fst e;exact absurd ⟨t, ht, name_inj k (hr.2 (fileT t) hx).2 hn e2⟩ hm
  rw [e1];unfold syncL;rw [hg]
theorem syncs_all {k : Str} : ∀ (dy : List Nat) (T : List Tl), Rises (T.map fileT) -> (∀ n ∈ dy, n < 100000000) -> syncsL k dy (filesL k (T.map fileT)) = filesL k ((T.map fun t => if t.1 ∈ dy then fullT t else t).map fileT) := by
 intro dy
 induction dy with
 | nil =>
  intro T _ _
  show filesL k (T.map fileT) = _
  simp
 | cons n dy ih =>
  intro T hr hn
  show syncsL k dy (syncL (nameL k n) (filesL k (T.map fileT))).1 = _
  rw [sync_one hr (hn n (List.mem_cons_self)), ih (syncT n T) (rises_firsts hr (syncT_firsts n T)) (fun m hm => hn m (List.mem_cons_of_mem _ hm))];congr 2;unfold syncT;rw [List.map_map];refine List.map_congr_left fun t _ => ?_
  show (if (if t.1 = n then fullT t else t).1 ∈ dy then fullT (if t.1 = n then fullT t else t) else (if t.1 = n then fullT t else t)) = if t.1 ∈ n :: dy then fullT t else t
  by_cases h1 : t.1 = n
  ·rw [if_pos h1, if_pos (show t.1 ∈ n :: dy by rw [h1]; exact List.mem_cons_self)];have e2 : fullT (fullT t) = fullT t := rfl;rw [e2];split <;> rfl
  ·rw [if_neg h1];by_cases h2 : t.1 ∈ dy
   ·rw [if_pos h2, if_pos (List.mem_cons_of_mem _ h2)]
   ·rw [if_neg h2, if_neg (by rintro h3; rcases List.mem_cons.1 h3 with h | h; exact h1 h; exact h2 h)]
theorem good_full {T : List Tl} (h : GoodT i T n) : GoodT i (T.map fullT) n := by
 refine ⟨?_, fun t ht => ?_, fun t ht => ?_, fun t ht => ?_⟩
 ·have e : (T.map fullT).map segT = T.map segT := by rw [List.map_map]; rfl
  rw [e];exact h.chain
 all_goals obtain ⟨x, hx, rfl⟩ := List.mem_map.1 ht
 ·exact h.some x hx
 ·exact h.fits x hx
 ·exact Nat.le_refl _
theorem flat_full (T : List Tl) : flatT (T.map fullT) = flatT T := by
 unfold flatT;rw [List.flatMap_map]
 rfl
theorem bytes_full (T : List Tl) : bytesT (T.map fullT) = bytesT T := by
 unfold bytesT;rw [List.map_map]
 rfl
theorem synced_full : ∀ (T : List Tl) (c : Nat), Synced c (T.map fullT) := by
 intro T
 induction T with
 | nil => intro c; exact trivial
 | cons t T ih =>
  intro c;refine ⟨?_, ih _⟩
  show (recsL t.1 (t.2.1.take c)).length <= (recsL t.1 t.2.1).length
  by_cases h : c <= t.2.1.length
  ·have := recs_mono t.1 t.2.1 h;rw [List.take_length] at this;exact this
  ·rw [List.take_of_length_le (by omega)];exact Nat.le_refl _
theorem sync_fit {k : Str} {T : List Tl} (h : FitL k T M L) (hn : M.next <= 100000000) : FitL k (T.map fullT) ⟨M.segs, M.next, []⟩ (syncsL k M.dirty L) := by
 have hr := good_rises h.good (Nat.le_refl _) hn;refine ⟨?_, ?_, good_full h.good, fun t ht => ?_, fun n hn => by cases hn⟩
 ·rw [h.disk, syncs_all M.dirty T hr h.nums];congr 2;refine List.map_congr_left fun t ht => ?_
  rcases h.dirt t ht with e | e
  ·have : fullT t = t := by
    obtain ⟨f, es, l⟩ := t;simp only at e
    show (f, es, (recsL f es).length) = (f, es, l)
    rw [<- e]
   rw [this];split <;> rfl
  ·rw [if_pos e]
 ·rw [h.segs, List.map_map]
  rfl
 ·obtain ⟨x, hx, rfl⟩ := List.mem_map.1 ht;exact .inl rfl
theorem fit_empty (k : Str) : FitL k [] ⟨[], 1, []⟩ [] := ⟨rfl, rfl, ⟨rfl, fun t ht => (by cases ht), fun t ht => (by cases ht), fun t ht => (by cases ht)⟩, fun t ht => (by cases ht), fun n hn => (by cases hn)⟩
theorem kept_fit {k : Str} {T : List Tl} (z : Nat) (h : FitL k T M L) (hn : M.next <= 100000000) (hs : Synced c T) (hc : c <= (flatT T).length) :
  ∃ q S d, c <= q /\ q <= (flatT T).length /\ (openR k (crashD z L)).log = ⟨S, 1 + q, d⟩ /\ firstL ⟨S, 1 + q, d⟩ = 1 /\ ∀ i, i < q -> getE ⟨S, 1 + q, d⟩ ((1 + i : Nat) : Int) = ((flatT T).getD i [], 0) := by
 obtain ⟨q, S, d, q1, q2, q3, q4, q5⟩ := kept_openR (k := k) z h.good hn hs hc;rw [<- h.disk] at q3;refine ⟨q, S, d, q1, q2, q3, chain_first q4, fun i hi => ?_⟩;rw [getE_chain _ q4, if_pos (by omega), q5];have e : (((1 + i : Nat) : Int) - ((1 : Nat) : Int)).toNat = i := by omega
 rw [e];have : ((flatT T).take q).getD i [] = (flatT T).getD i [] := by
  simp only [List.getD_eq_getElem?_getD];rw [List.getElem?_take, if_pos hi]
 rw [this]
def cutS (i : Nat) (s : Sg) : Option Sg := if i <= s.1 then none else if i < s.1 + s.2.length then some (s.1, s.2.take (i - s.1)) else some s
def cutD1 (k : Str) (i : Nat) (L : DiskL) (s : Sg) : DiskL := if i <= s.1 then (remL (nameL k s.1) L).1 else if i < s.1 + s.2.length then (cutL (nameL k s.1) ((recsL s.1 (s.2.take (i - s.1))).length : Int) L).1 else L
def cutW (k : Str) (i : Nat) (M : LogL) (L : DiskL) : LogL × DiskL := (⟨M.segs.filterMap (cutS i), i, M.dirty⟩, M.segs.foldl (cutD1 k i) L)
abbrev Sgf := Nat × List (List Nat) × Bool
def bareP (x : Sgf) : Sg := (x.1, x.2.1)
theorem chain_idx : ∀ {S : List Sg} {i n : Nat}, Chain i S n -> (∀ a (h : a + 1 < S.length), S[a + 1].1 = S[a].1 + S[a].2.length) /\ (∀ h : 0 < S.length, S[0].1 = i /\ S[S.length - 1].1 + S[S.length - 1].2.length = n) := by
 intro S
 induction S with
 | nil => intro i n _; exact ⟨fun a h => absurd h (by simp), fun h => absurd h (by simp)⟩
 | cons s r ih =>
  intro i n h;obtain ⟨h1, h2⟩ := h;obtain ⟨g1, g2⟩ := ih h2;refine ⟨fun a h => ?_, fun h => ⟨h1, ?_⟩⟩
  ·rcases a with _ | a
   ·have hr : 0 < r.length := by simpa using h
    have := (g2 hr).1;simp only [List.getElem_cons_succ, List.getElem_cons_zero];rw [this, h1]
   ·have hr : a + 1 < r.length := by simpa using h
    simp only [List.getElem_cons_succ];exact g1 a hr
  ·rcases r with _ | ⟨t, r⟩
   ·have h2 : i + s.2.length = n := h2
    show s.1 + s.2.length = n
    rw [h1];exact h2
   ·have := (g2 (by simp)).2;simpa using this
theorem chain_rise {S : List Sg} (h : Chain i S n) (hs : ∀ s ∈ S.dropLast, s.2 ≠ []) : ∀ a b (ha : a < S.length) (hb : b < S.length), a < b -> S[a].1 < S[b].1 := by
 have hstep : ∀ a (h2 : a + 1 < S.length), S[a].1 < S[a + 1].1 := fun a h2 => by
  rw [(chain_idx h).1 a h2];have hm : S[a] ∈ S.dropLast := by
   rw [List.dropLast_eq_take];exact List.mem_take_iff_getElem.2 ⟨a, by omega, rfl⟩
  have := List.length_pos_iff.2 (hs _ hm);omega
 intro a b ha hb hab;obtain ⟨d, rfl⟩ : ∃ d, b = a + 1 + d := ⟨b - a - 1, by omega⟩
 induction d with
 | zero => exact hstep a hb
 | succ d ih => exact Nat.lt_trans (ih (by omega) (by omega)) (hstep (a + 1 + d) hb)
theorem chain_ends {S : List Sg} (h : Chain i S n) (hs : ∀ s ∈ S.dropLast, s.2 ≠ []) : ∀ a b (ha : a < S.length) (hb : b < S.length), a < b -> S[a].1 + S[a].2.length <= S[b].1 := by
 intro a b ha hb hab;rw [<- (chain_idx h).1 a (by omega)];by_cases hd : a + 1 = b
 ·subst hd;exact Nat.le_refl _
 ·exact Nat.le_of_lt (chain_rise h hs (a + 1) b (by omega) hb (by omega))
theorem getE_at {S : List Sg} {j : Nat} {d : List Nat} {z : Int} (hj : j < S.length) (h1 : (S[j].1 : Int) <= z) (h2 : z < (S[j].1 : Int) + S[j].2.length) (h3 : ∀ k (hk : k < j), (S[k].1 : Int) + S[k].2.length <= z) : getE ⟨S, n, d⟩ z = (S[j].2.getD (z - S[j].1).toNat [], 0) := by
 unfold getE;dsimp only;have e : S.find? (fun s => decide ((s.1 : Int) <= z /\ z < (s.1 : Int) + s.2.length)) = some S[j] := by
  rw [List.find?_eq_some_iff_getElem];refine ⟨by simpa using ⟨h1, h2⟩, j, hj, rfl, fun k hk => ?_⟩;have := h3 k hk;simp only [Bool.not_eq_eq_eq_not, Bool.not_true, decide_eq_false_iff_not];omega
 rw [e]
theorem getE_ahead {S : List Sg} {j : Nat} {d : List Nat} {z : Int} (h : Chain i S n) (hs : ∀ s ∈ S.dropLast, s.2 ≠ []) (hz1 : (i : Int) <= z) (hz2 : z < (n : Int)) (hjl : j <= S.length) (hj : ∀ k (hk : k < S.length), k < j ↔ (S[k].1 : Int) < z + 1) :
  ∃ _ : 1 <= j, ∃ h2 : j - 1 < S.length, (S[j - 1].1 : Int) <= z /\ z < (S[j - 1].1 : Int) + S[j - 1].2.length /\ getE ⟨S, n, d⟩ z = (S[j - 1].2.getD (z - S[j - 1].1).toNat [], 0) := by
 obtain ⟨c1, c2⟩ := chain_idx h;have hpos : 0 < S.length := by
  rcases S with _ | ⟨s, r⟩
  ·have : i = n := h;omega
  ·simp
 have h0 := (c2 hpos).1;have hn := (c2 hpos).2;have hj1 : 1 <= j := by
  have := (hj 0 hpos).2 (by rw [h0]; omega);omega
 have hjs : j - 1 < S.length := by omega
 have k1 : (S[j - 1].1 : Int) <= z := by
  have := (hj (j - 1) hjs).1 (by omega);omega
 have k2 : z < (S[j - 1].1 : Int) + S[j - 1].2.length := by
  by_cases hjl2 : j < S.length
  ·have e := c1 (j - 1) (by omega);have e2 : S[j - 1 + 1]'(by omega) = S[j] := by congr 1; omega
   rw [e2] at e;have := fun q => (hj j hjl2).2 q
   have h5 : ¬ ((S[j].1 : Int) < z + 1) := fun q => by have := this q; omega
   omega
  ·have e2 : S[S.length - 1]'(by omega) = S[j - 1] := by congr 1; omega
   rw [e2] at hn;omega
 refine ⟨hj1, hjs, k1, k2, getE_at hjs k1 k2 fun k hk => ?_⟩;have := chain_ends h hs k (j - 1) (by omega) hjs hk;omega
theorem getE_out {S : List Sg} {d : List Nat} {z : Int} (h : Chain i S n) (hz : z < (i : Int) \/ (n : Int) <= z) : getE ⟨S, n, d⟩ z = ([], 7) := by
 rw [getE_chain z h, if_neg (by omega)]
theorem ext_takeP (s : ByteArray) (b : Nat) : (s.extract 0 b).toList = s.data.toList.take b := by
 rw [ByteArray.toList_eq, ByteArray.data_extract, Array.toList_extract];simp [List.extract]
theorem ext_dropP (s : ByteArray) (b : Nat) : (s.extract b s.size).data.toList = s.data.toList.drop b := by
 rw [ByteArray.data_extract, Array.toList_extract];have h : s.data.toList.length = s.size := rfl;simp [List.extract];exact List.take_of_length_le (by rw [List.length_drop, h]; exact Nat.le_refl _)
theorem drop_byteP (s : Str) (p : Nat) (hp : p < s.length) : s.drop p = s.getD p 0 :: s.drop (p + 1) := by
 rw [List.drop_eq_getElem_cons hp];simp [hp]
set_option maxRecDepth 100000 in
theorem hasprefix_any (s k : ByteArray) (w : World) :
  Calls Tryz.prog 142 #[.string s, .string k] w fun e w' => e = .returned (.bool (decide (s.data.toList.take k.size = k.data.toList))) /\ Below w.heap.size w w' := by
 obtain ⟨b, hb⟩ : ∃ b, k.size = b := ⟨_, rfl⟩;obtain ⟨a, ha⟩ : ∃ a, s.size = a := ⟨_, rfl⟩;have hsl : s.data.toList.length = a := ha;have hkl : k.data.toList.length = b := hb;by_cases hle : b <= a
 ·by_cases h : s.data.toList.take k.size = k.data.toList
  ·have hpre : ((s.extract 0 k.size).toList == k.toList) = true := by
    rw [ext_takeP, ByteArray.toList_eq];simpa using h
   have hd : decide (s.data.toList.take k.size = k.data.toList) = true := decide_eq_true h;rw [hd];rw [hb] at hpre;have h1 : (b : Int) <= (a : Int) := by omega
   clear hd h hsl hkl;go_enter Tryz.func142, Tryz.ntmps142;go_wp2_with fail
   go_ret;exact ⟨rfl, Below.refl _ _⟩
  ·have hpre : ((s.extract 0 k.size).toList == k.toList) = false := by
    rw [ext_takeP, ByteArray.toList_eq];simpa using h
   have hd : decide (s.data.toList.take k.size = k.data.toList) = false := decide_eq_false h;rw [hd];rw [hb] at hpre;have h1 : (b : Int) <= (a : Int) := by omega
   clear hd h hsl hkl;go_enter Tryz.func142, Tryz.ntmps142;go_wp2_with fail
   go_ret;exact ⟨rfl, Below.refl _ _⟩
 ·have hd : decide (s.data.toList.take k.size = k.data.toList) = false := decide_eq_false (fun e => by
   have := congrArg List.length e;rw [List.length_take, hkl, hsl, hb] at this;omega)
  rw [hd];have h1 : (a : Int) < (b : Int) := by omega
  clear hd hsl hkl;go_enter Tryz.func142, Tryz.ntmps142;go_wp2_with fail
  go_ret;exact ⟨rfl, Below.refl _ _⟩
theorem prefix_size {k : ByteArray} (h : s.data.toList.take k.size = k.data.toList) : k.size <= s.size := by
 have := congrArg List.length h;have h1 : s.data.toList.length = s.size := rfl;have h2 : k.data.toList.length = k.size := rfl;rw [List.length_take, h1, h2] at this;omega
set_option maxRecDepth 100000 in
theorem cutprefix_in (s k : ByteArray) (w : World) (h : s.data.toList.take k.size = k.data.toList) :
  Calls Tryz.prog 134 #[.string s, .string k] w fun e w' => ∃ u : ByteArray, e = .returned (.tuple #[.string u, .bool true]) /\ u.data.toList = s.data.toList.drop k.size /\ Below w.heap.size w w' := by
 have HP := hasprefix_any s k w;rw [decide_eq_true h] at HP;have HP := hide HP;have hsz := prefix_size h;have hu := ext_dropP s k.size;obtain ⟨b, hb⟩ : ∃ b, k.size = b := ⟨_, rfl⟩;obtain ⟨a, ha⟩ : ∃ a, s.size = a := ⟨_, rfl⟩;rw [hb, ha] at hu;rw [hb, ha] at hsz;rw [hb];have h1 : (b : Int) <= (a : Int) := by omega
 have h2 : (0 : Int) <= (b : Int) := by omega
 have HU := hide hu;clear hsz hu h;go_enter Tryz.func134, Tryz.ntmps134;go_wp2_with fail
 refine HP.out.mono ?_;rintro e w1 ⟨rfl, k1⟩;have K1 := hide k1;clear k1;go_wp2_with fail
 go_ret2;exact ⟨_, rfl, HU.out, K1.out⟩
set_option maxRecDepth 100000 in
theorem cutprefix_no (s k : ByteArray) (w : World) (h : s.data.toList.take k.size ≠ k.data.toList) :
  Calls Tryz.prog 134 #[.string s, .string k] w fun e w' => e = .returned (.tuple #[.string s, .bool false]) /\ Below w.heap.size w w' := by
 have HP := hasprefix_any s k w;rw [decide_eq_false h] at HP;have HP := hide HP;clear h;go_enter Tryz.func134, Tryz.ntmps134;go_wp2_with fail
 refine HP.out.mono ?_;rintro e w1 ⟨rfl, k1⟩;have K1 := hide k1;clear k1;go_wp2_with fail
 go_ret2;exact ⟨rfl, K1.out⟩
set_option maxRecDepth 100000 in
theorem cutpre_yes (s k : ByteArray) (w : World) (h : s.data.toList.take k.size = k.data.toList) :
  Calls Tryz.prog 111 #[.string s, .string k] w fun e w' => ∃ u : ByteArray, e = .returned (.tuple #[.string u, .bool true]) /\ u.data.toList = s.data.toList.drop k.size /\ Below w.heap.size w w' := by
 have HP := hide (cutprefix_in s k w h);clear h;go_enter Tryz.func111, Tryz.ntmps111;go_wp2_with fail
 refine HP.out.mono ?_;rintro e w1 ⟨u, rfl, hu, k1⟩;have K1 := hide k1;have HU := hide hu;clear k1 hu;go_wp2_with fail
 go_ret2;exact ⟨_, rfl, HU.out, K1.out⟩
set_option maxRecDepth 100000 in
theorem cutpre_no (s k : ByteArray) (w : World) (h : s.data.toList.take k.size ≠ k.data.toList) :
  Calls Tryz.prog 111 #[.string s, .string k] w fun e w' => e = .returned (.tuple #[.string s, .bool false]) /\ Below w.heap.size w w' := by
 have HP := hide (cutprefix_no s k w h);clear h;go_enter Tryz.func111, Tryz.ntmps111;go_wp2_with fail
 refine HP.out.mono ?_;rintro e w1 ⟨rfl, k1⟩;have K1 := hide k1;clear k1;go_wp2_with fail
 go_ret2;exact ⟨rfl, K1.out⟩
theorem numL_no {k s : Str} (h : s.take (k.length + 1) ≠ k ++ [46]) : numL k s = none := by
 unfold numL;by_cases hl : s.length = k.length + 9
 ·by_cases h1 : s.take k.length = k
  ·by_cases h2 : s.getD k.length 0 = 46
   ·refine absurd ?_ h;have e4 := drop_byteP s k.length (by omega);rw [h2] at e4;have e5 : s = k ++ 46 :: s.drop (k.length + 1) := by
     conv => lhs; rw [<- List.take_append_drop k.length s, h1, e4]
    rw [e5, show k ++ 46 :: s.drop (k.length + 1) = (k ++ [46]) ++ s.drop (k.length + 1) by simp];rw [List.take_left' (by simp)]
   ·rw [if_pos (.inr (.inr h2))]
  ·rw [if_pos (.inr (.inl h1))]
 ·rw [if_pos (.inl hl)]
theorem numL_yes {k s : Str} (h : s.take (k.length + 1) = k ++ [46]) : numL k s = if (s.drop (k.length + 1)).length ≠ 8 then none else valD 0 (s.drop (k.length + 1)) := by
 have hl : k.length + 1 <= s.length := by
  have := congrArg List.length h;rw [List.length_take, List.length_append] at this;simp at this;omega
 have h1 : s.take k.length = k := by
  have := congrArg (List.take k.length) h;rw [List.take_take, show min k.length (k.length + 1) = k.length by omega, List.take_left' rfl] at this;exact this
 have h2 : s.getD k.length 0 = 46 := by
  have := congrArg (fun l : Str => l.getD k.length 0) h;simp only [List.getD_eq_getElem?_getD] at this ⊢;rw [List.getElem?_take_of_lt (by omega)] at this;rw [this];simp
 unfold numL;rw [List.length_drop];by_cases h8 : s.length = k.length + 9
 ·rw [if_neg (by rintro (e | e | e); exact e h8; exact e h1; exact e h2), if_neg (by omega)]
 ·rw [if_pos (.inl h8), if_pos (by omega)]
end Go.Proofs.YtedlibkkeegnaaaGreat
