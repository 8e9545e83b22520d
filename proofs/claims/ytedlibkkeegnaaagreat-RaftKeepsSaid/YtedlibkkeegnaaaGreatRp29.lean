/- The program's Cut and Drop beside the document's, as lists. It names nothing of the program but the disk's lists. The contract of firstsOf of a piece of the seg -/
import Derived.Test.YtedlibkkeegnaaaGreatRp28
namespace Go.Proofs.YtedlibkkeegnaaaGreat
open Go.RowKit Go.Maps
variable {w w' : World} {G : Nat -> Prop} {L : DiskL} {M : LogL} {P : PLog} {g n c i N : Nat}
theorem rem_del (n : Str) (L : DiskL) : (remL n L).1 = delK n L := by
 unfold remL;rcases e : getK n L with _ | a
 ·exact (delK_of_none e).symm
 ·rfl
theorem removes_get {k : Str} (hn : n < 100000000) : ∀ (ns : List Nat) {L : DiskL}, Rise L -> (∀ m ∈ ns, m < 100000000) -> getK (nameL k n) (removesL k ns L) = if n ∈ ns then none else getK (nameL k n) L := by
 intro ns
 induction ns with
 | nil => intro L _ _; simp [removesL]
 | cons m ns ih =>
  intro L h hm
  show getK (nameL k n) (removesL k ns (remL (nameL k m) L).1) = _
  rw [rem_del, ih (delK_rise h) (fun q hq => hm q (List.mem_cons_of_mem _ hq))];by_cases e : n = m
  ·subst e;rw [if_pos (List.mem_cons_self), getK_del_same];split <;> rfl
  ·rw [getK_del_other h (fun q => e (name_inj k hn (hm m List.mem_cons_self) q))];by_cases h2 : n ∈ ns
   ·rw [if_pos h2, if_pos (List.mem_cons_of_mem _ h2)]
   ·rw [if_neg h2, if_neg (by simp [e, h2])]
theorem cut_rise {n : Str} {z : Int} (h : Rise L) : Rise (cutL n z L).1 := by
 unfold cutL;rcases e : getK n L with _ | a
 ·exact h
 ·dsimp only;split
  ·exact h
  ·exact putK_rise h
theorem cut_get {n : Str} {z : Nat} {a : List Nat × Nat} (h : Rise L) (hg : getK n L = some a) (hz : z <= a.1.length) : (cutL n (z : Int) L).2 = 0 /\ getK n (cutL n (z : Int) L).1 = some (a.1.take z, min a.2 z) := by
 unfold cutL;rw [hg];dsimp only;rw [if_neg (by omega)];exact ⟨rfl, by rw [getK_put_same h]; simp⟩
theorem cut_other {n j : Str} {z : Int} (h : Rise L) (hne : j ≠ n) : getK j (cutL n z L).1 = getK j L := by
 unfold cutL;rcases e : getK n L with _ | a
 ·rfl
 ·dsimp only;split
  ·rfl
  ·exact getK_put_other h hne
def shortS (i : Nat) (x : Sgf) : Sgf := if i < x.1 + x.2.1.length then (x.1, x.2.1.take (i - x.1), x.2.2) else x
def shortA (i : Nat) (A : List Sgf) : List Sgf := match A.getLast? with
 | none => []
 | some x => A.dropLast ++ [shortS i x]
def shortD (k : Str) (i : Nat) (A : List Sgf) (L : DiskL) : DiskL := match A.getLast? with
 | none => L
 | some x => if i < x.1 + x.2.1.length then (cutL (nameL k x.1) ((recsL x.1 (x.2.1.take (i - x.1))).length : Int) L).1 else L
def cutP (k : Str) (i left : Nat) (P : PLog) (L : DiskL) : PLog × DiskL :=
 (⟨shortA i (P.segs.take left), i⟩, removesL k ((P.segs.drop left).map (·.1)) (shortD k i (P.segs.take left) L))
theorem filterMap_all {α : Type} {f : α -> Option α} : ∀ {S : List α}, (∀ s ∈ S, f s = some s) -> S.filterMap f = S := by
 intro S
 induction S with
 | nil => intro _; rfl
 | cons s S ih =>
  intro h;rw [List.filterMap_cons, h s List.mem_cons_self];exact congrArg _ (ih (fun t ht => h t (List.mem_cons_of_mem _ ht)))
theorem filterMap_none' {α : Type} {f : α -> Option α} : ∀ {S : List α}, (∀ s ∈ S, f s = none) -> S.filterMap f = [] := by
 intro S
 induction S with
 | nil => intro _; rfl
 | cons s S ih =>
  intro h;rw [List.filterMap_cons, h s List.mem_cons_self];exact ih (fun t ht => h t (List.mem_cons_of_mem _ ht))
theorem foldl_stay {α β : Type} {f : β -> α -> β} {b : β} : ∀ {S : List α}, (∀ s ∈ S, f b s = b) -> S.foldl f b = b := by
 intro S
 induction S with
 | nil => intro _; rfl
 | cons s S ih =>
  intro h;rw [List.foldl_cons, h s List.mem_cons_self];exact ih (fun t ht => h t (List.mem_cons_of_mem _ ht))
theorem fold_removes {k : Str} : ∀ (D : List Sgf) (L : DiskL), (∀ x ∈ D, i <= x.1) -> (D.map bareP).foldl (cutD1 k i) L = removesL k (D.map (·.1)) L := by
 intro D
 induction D with
 | nil => intro L _; rfl
 | cons x D ih =>
  intro L h;have hx := h x List.mem_cons_self
  show (D.map bareP).foldl (cutD1 k i) (cutD1 k i L (bareP x)) = removesL k (D.map (·.1)) (remL (nameL k x.1) L).1
  have e : cutD1 k i L (bareP x) = (remL (nameL k x.1) L).1 := by
   unfold cutD1;rw [if_pos (show i <= (bareP x).1 from hx)]
   rfl
  rw [e];exact ih _ (fun y hy => h y (List.mem_cons_of_mem _ hy))
theorem Twin.part {k : Str} (h : Twin k P M L) {left : Nat} (hi1 : firstL M <= i) (hi2 : i <= M.next) (hc : ∀ j (hj : j < P.segs.length), j < left ↔ (P.segs[j].1 : Int) < (i : Int)) :
  (∀ x ∈ P.segs.take left, x.1 < i) /\ (∀ x ∈ P.segs.drop left, i <= x.1) /\ ∃ i0 m, Chain i0 ((P.segs.take left).map bareP) m /\ Chain m ((P.segs.drop left).map bareP) M.next /\ i <= m /\ (P.segs.take left = [] -> m = i) := by
 have hA : ∀ x ∈ P.segs.take left, x.1 < i := fun x hx => by
  obtain ⟨j, hj, rfl⟩ := List.mem_take_iff_getElem.1 hx;have := (hc j (by omega)).1 (by omega);omega
 have hD : ∀ x ∈ P.segs.drop left, i <= x.1 := fun x hx => by
  obtain ⟨j, hj, rfl⟩ := List.mem_drop_iff_getElem.1 hx;have hlt : left + j < P.segs.length := by omega
  have this : (P.segs[left + j].1 : Int) < (i : Int) -> left + j < left := (hc (left + j) hlt).2;by_cases h2 : (P.segs[left + j].1 : Int) < (i : Int)
  ·have := this h2;omega
  ·omega
 refine ⟨hA, hD, ?_⟩;obtain ⟨i0, c0⟩ := h.chain;have hf := chain_first (d := M.dirty) c0;have e : M.segs = (P.segs.take left).map bareP ++ (P.segs.drop left).map bareP := by rw [<- List.map_append, List.take_append_drop, h.segs]
 rw [e] at c0;obtain ⟨m, c1, c2⟩ := chain_split c0;have him : i <= m := by
  rcases hd : P.segs.drop left with _ | ⟨x, r⟩
  ·rw [hd] at c2;have : m = M.next := c2;omega
  ·rw [hd] at c2;have h1 : x.1 = m := c2.1;have h2 := hD x (by rw [hd]; exact List.mem_cons_self);omega
 refine ⟨i0, m, c1, c2, him, fun ht => ?_⟩;rw [ht] at c1;have h1 : i0 = m := c1;have h2 : firstL M = i0 := hf;omega
theorem twin_cut {k : Str} {left : Nat} (h : Twin k P M L) (hr : Rise L) (hi1 : firstL M <= i) (hi2 : i <= M.next) (hc : ∀ j (hj : j < P.segs.length), j < left ↔ (P.segs[j].1 : Int) < (i : Int)) :
  (cutW k i M L).2 = (cutP k i left P L).2 /\ Twin k (cutP k i left P L).1 (cutW k i M L).1 (cutP k i left P L).2 /\
   ∀ x, (P.segs.take left).getLast? = some x -> i < x.1 + x.2.1.length -> (cutL (nameL k x.1) ((recsL x.1 (x.2.1.take (i - x.1))).length : Int) L).2 = 0 := by
 obtain ⟨hA, hD, i0, m, c1, c2, him, hnil⟩ := h.part hi1 hi2 hc;obtain ⟨A, hAe⟩ : ∃ A, A = P.segs.take left := ⟨_, rfl⟩;obtain ⟨D, hDe⟩ : ∃ D, D = P.segs.drop left := ⟨_, rfl⟩;have hPS : P.segs = A ++ D := by rw [hAe, hDe, List.take_append_drop]
 have hMS : M.segs = A.map bareP ++ D.map bareP := by rw [h.segs, hPS, List.map_append]
 have hDl : ∀ n ∈ D.map (·.1), n < 100000000 := fun n hn => by
  obtain ⟨x, hx, rfl⟩ := List.mem_map.1 hn;exact h.low (bareP x) (by rw [hMS]; exact List.mem_append.2 (.inr (List.mem_map.2 ⟨x, hx, rfl⟩)))
 have hDn : (D.map bareP).filterMap (cutS i) = [] := filterMap_none' fun s hs => by
  obtain ⟨x, hx, rfl⟩ := List.mem_map.1 hs;have := hD x (by rw [<- hDe]; exact hx);unfold cutS;rw [if_pos (show i <= (bareP x).1 from this)]
 unfold cutW cutP;rw [<- hAe] at hA c1 hnil ⊢;rw [<- hDe] at hD c2 ⊢;clear hAe hDe hc;rw [hMS, List.filterMap_append, hDn, List.append_nil, List.foldl_append];rcases List.eq_nil_or_concat A with e | ⟨A0, x, e⟩
 ·subst e;have hmi := hnil rfl;subst hmi;have hfold := fold_removes (k := k) D L (fun x hx => hD x hx);refine ⟨hfold, ?_, fun x hx => by cases hx⟩
  show Twin k ⟨[], m⟩ ⟨[], m, M.dirty⟩ (removesL k (D.map (·.1)) L)
  refine ⟨rfl, rfl, ⟨m, rfl⟩, fun s hs => (by cases hs), fun s hs => (by cases hs), fun s hs => (by cases hs), fun n hn1 hn2 => ?_, fun y hy => (by cases hy), fun y hy => (by cases hy), h.dirt⟩;rw [removes_get hn1 _ hr hDl] at hn2;by_cases e : n ∈ D.map (·.1)
  ·rw [if_pos e] at hn2;exact absurd hn2 (by decide)
  ·rw [if_neg e] at hn2;obtain ⟨s, hs, e2⟩ := h.stray n hn1 hn2;rw [hMS] at hs;have hs : s ∈ D.map bareP := by simpa using hs
   obtain ⟨y, hy, rfl⟩ := List.mem_map.1 hs;exact absurd (List.mem_map.2 ⟨y, hy, e2⟩) e
 ·rw [List.concat_eq_append] at e;subst e;rw [List.map_append] at c1;obtain ⟨c3, c4⟩ := chain_last (s := bareP x) c1;have c4 : m = x.1 + x.2.1.length := c4;have c3 : Chain i0 (A0.map bareP) x.1 := c3;have hxi := hA x (by simp);have hA0 : ∀ s ∈ A0.map bareP, s.1 + s.2.length <= x.1 := fun s hs => (chain_le c3 s hs).2
  have hmx : bareP x ∈ M.segs := by rw [hMS]; simp
  have hlx : x.1 < 100000000 := h.low _ hmx;obtain ⟨a, g1, g2⟩ := h.file _ hmx;have g1 : getK (nameL k x.1) L = some a := g1;have g2 : a.1.length = (recsL x.1 x.2.1).length := g2;have hs0 : ∀ s ∈ A0.map bareP, s.2 ≠ [] := fun s hs => by
   refine h.full s ?_;rw [hMS, List.map_append, List.append_assoc, List.dropLast_append_of_ne_nil (by simp)];exact List.mem_append.2 (.inl hs)
  obtain ⟨y, hy⟩ : ∃ y, y = shortS i x := ⟨_, rfl⟩;have hy1 : y.1 = x.1 := by rw [hy]; unfold shortS; split <;> rfl
  have hy2 : y.2.2 = x.2.2 := by rw [hy]; unfold shortS; split <;> rfl
  have hyl : x.1 + y.2.1.length = i := by
   rw [hy];unfold shortS;split
   ·dsimp only;rw [List.length_take];omega
   ·omega
  have hcs : cutS i (bareP x) = some (bareP y) := by
   rw [hy];unfold cutS shortS;rw [if_neg (show ¬ i <= (bareP x).1 from fun q => by have q : i <= x.1 := q; omega)];by_cases hlt : i < x.1 + x.2.1.length
   ·rw [if_pos (show i < (bareP x).1 + (bareP x).2.length from hlt), if_pos hlt]
    rfl
   ·rw [if_neg (show ¬ i < (bareP x).1 + (bareP x).2.length from hlt), if_neg hlt]
  have hfm : ((A0 ++ [x]).map bareP).filterMap (cutS i) = A0.map bareP ++ [bareP y] := by
   rw [List.map_append, List.filterMap_append, filterMap_all (fun s hs => ?_)]
   ·show A0.map bareP ++ [bareP x].filterMap (cutS i) = _
    rw [List.filterMap_cons, hcs]
    rfl
   ·have := hA0 s hs;unfold cutS;rw [if_neg (fun q => ?_), if_neg (by omega)];have hp : s.1 < x.1 := by have := List.length_pos_iff.2 (hs0 s hs); omega
    omega
  obtain ⟨L1, hL1⟩ : ∃ L1, L1 = shortD k i (A0 ++ [x]) L := ⟨_, rfl⟩;have hL1e : L1 = if i < x.1 + x.2.1.length then (cutL (nameL k x.1) ((recsL x.1 (x.2.1.take (i - x.1))).length : Int) L).1 else L := by
   rw [hL1];unfold shortD;rw [List.getLast?_concat]
  have hfd : ((A0 ++ [x]).map bareP).foldl (cutD1 k i) L = L1 := by
   rw [List.map_append, List.foldl_append, foldl_stay (S := A0.map bareP) (fun s hs => ?_)]
   ·show cutD1 k i L (bareP x) = L1
    rw [hL1e];unfold cutD1;rw [if_neg (show ¬ i <= (bareP x).1 from fun q => by have q : i <= x.1 := q; omega)]
    rfl
   ·have := hA0 s hs;unfold cutD1;rw [if_neg (fun q => ?_), if_neg (by omega)];have hp : s.1 < x.1 := by have := List.length_pos_iff.2 (hs0 s hs); omega
    omega
  have hmono : (recsL x.1 (x.2.1.take (i - x.1))).length <= a.1.length := by
   have := recs_mono x.1 x.2.1 (show i - x.1 <= x.2.1.length by omega);rw [List.take_length] at this;omega
  have hcg := cut_get hr g1 hmono;have hr1 : Rise L1 := by
   rw [hL1e];split
   ·exact cut_rise hr
   ·exact hr
  have hL1o : ∀ n, n < 100000000 -> n ≠ x.1 -> getK (nameL k n) L1 = getK (nameL k n) L := fun n h1 h2 => by
   rw [hL1e];split
   ·exact cut_other hr (fun q => h2 (name_inj k h1 hlx q))
   ·rfl
  have hL1x : ∃ b, getK (nameL k x.1) L1 = some b /\ b.1.length = (recsL x.1 y.2.1).length /\ (a.2 = a.1.length -> b.2 = b.1.length) := by
   rw [hL1e];by_cases hlt : i < x.1 + x.2.1.length
   ·have hye : y.2.1 = x.2.1.take (i - x.1) := by rw [hy]; unfold shortS; rw [if_pos hlt]
    rw [if_pos hlt, hye];refine ⟨_, hcg.2, ?_, fun q => ?_⟩
    ·dsimp only;rw [List.length_take];omega
    ·dsimp only;rw [List.length_take, q];omega
   ·have hye : y.2.1 = x.2.1 := by rw [hy]; unfold shortS; rw [if_neg hlt]
    rw [if_neg hlt, hye];exact ⟨a, g1, g2, id⟩
  have hsa : shortA i (A0 ++ [x]) = A0 ++ [y] := by
   unfold shortA;rw [List.getLast?_concat];dsimp only;rw [List.dropLast_concat, hy]
  have hnD : ∀ n, n < i -> n ∉ D.map (·.1) := fun n hn q => by
   obtain ⟨z, hz, e⟩ := List.mem_map.1 q;have := hD z hz;omega
  have hA0i : ∀ s ∈ A0.map bareP, s.1 < x.1 := fun s hs => by
   have := hA0 s hs;have := List.length_pos_iff.2 (hs0 s hs);omega
  refine ⟨?_, ?_, fun z hz hlt => ?_⟩
  ·show (D.map bareP).foldl (cutD1 k i) (((A0 ++ [x]).map bareP).foldl (cutD1 k i) L) = removesL k (D.map (·.1)) (shortD k i (A0 ++ [x]) L)
   rw [hfd, <- hL1];exact fold_removes D L1 hD
  ·show Twin k ⟨shortA i (A0 ++ [x]), i⟩ ⟨((A0 ++ [x]).map bareP).filterMap (cutS i), i, M.dirty⟩ (removesL k (D.map (·.1)) (shortD k i (A0 ++ [x]) L))
   rw [hsa, hfm, <- hL1];have hget : ∀ n, n < 100000000 -> n < i -> getK (nameL k n) (removesL k (D.map (·.1)) L1) = getK (nameL k n) L1 := fun n h1 h2 => by rw [removes_get h1 _ hr1 hDl, if_neg (hnD n h2)]
   refine ⟨by rw [List.map_append]; rfl, rfl, ⟨i0, chain_app c3 ⟨hy1, ?_⟩⟩, ?_, ?_, ?_, ?_, ?_, ?_, h.dirt⟩
   ·exact hyl
   ·show ∀ s ∈ (A0.map bareP ++ [bareP y]).dropLast, s.2 ≠ []
    rw [List.dropLast_concat];exact hs0
   ·intro s hs;rcases List.mem_append.1 hs with hs | hs
    ·have := hA0i s hs;omega
    ·have e : s = bareP y := by simpa using hs
     subst e
     show y.1 < 100000000
     rw [hy1];exact hlx
   ·intro s hs;rcases List.mem_append.1 hs with hs | hs
    ·have hsi := hA0i s hs;obtain ⟨b, k1, k2⟩ := h.file s (by rw [hMS, List.map_append]; exact List.mem_append.2 (.inl (List.mem_append.2 (.inl hs))));exact ⟨b, by rw [hget s.1 (by omega) (by omega), hL1o s.1 (by omega) (by omega)]; exact k1, k2⟩
    ·have e : s = bareP y := by simpa using hs
     subst e;obtain ⟨b, k1, k2, _⟩ := hL1x;refine ⟨b, ?_, ?_⟩
     ·show getK (nameL k y.1) _ = some b
      rw [hy1, hget x.1 hlx hxi];exact k1
     ·show b.1.length = (recsL y.1 y.2.1).length
      rw [hy1];exact k2
   ·intro n hn1 hn2;rw [removes_get hn1 _ hr1 hDl] at hn2;by_cases e : n ∈ D.map (·.1)
    ·rw [if_pos e] at hn2;exact absurd hn2 (by decide)
    ·rw [if_neg e] at hn2;by_cases e3 : n = x.1
     ·exact ⟨bareP y, by simp, by rw [e3]; exact hy1⟩
     ·rw [hL1o n hn1 e3] at hn2;obtain ⟨s, hs, e2⟩ := h.stray n hn1 hn2;rw [hMS, List.map_append] at hs;rcases List.mem_append.1 hs with hs | hs
      ·rcases List.mem_append.1 hs with hs | hs
       ·exact ⟨s, List.mem_append.2 (.inl hs), e2⟩
       ·have : s = bareP x := by simpa using hs
        subst this;exact absurd e2.symm e3
      ·obtain ⟨z, hz, rfl⟩ := List.mem_map.1 hs;exact absurd (List.mem_map.2 ⟨z, hz, e2⟩) e
   ·intro z hz hzt;rcases List.mem_append.1 hz with hz | hz
    ·exact h.fresh z (by rw [hPS]; simp [hz]) hzt
    ·have e : z = y := by simpa using hz
     subst e;rw [hy1];exact h.fresh x (by rw [hPS]; simp) (by rw [<- hy2]; exact hzt)
   ·intro z hz hzf b hb;rcases List.mem_append.1 hz with hz | hz
    ·have hsi := hA0i (bareP z) (List.mem_map.2 ⟨z, hz, rfl⟩);have hsi : z.1 < x.1 := hsi;rw [hget z.1 (by omega) (by omega), hL1o z.1 (by omega) (by omega)] at hb;exact h.last z (by rw [hPS]; simp [hz]) hzf b hb
    ·have e : z = y := by simpa using hz
     subst e;rw [hy1, hget x.1 hlx hxi] at hb;obtain ⟨b2, k1, k2, k3⟩ := hL1x;rw [k1] at hb;cases hb
     exact k3 (h.last x (by rw [hPS]; simp) (by rw [<- hy2]; exact hzf) a g1)
  ·rw [List.getLast?_concat] at hz;have e : x = z := Option.some.inj hz;subst e;exact hcg.1
set_option maxRecDepth 100000 in
set_option maxHeartbeats 3200000 in
theorem pfirstsO_any (w : World) (A : Option Addr) (N c : Nat) (X : List Sgp) (hN : N = X.length) (hlc : N <= c) (hcell : ∀ i (hi : i < X.length), ∃ g o, A = some ⟨g, o, none⟩ /\ g < w.heap.size /\ w.cell? ⟨g, o + i * 3, none⟩ = some (.int .i64 (X[i].1 : Int)) /\ w.cell? ⟨g, o + i * 3 + 1, none⟩ = some X[i].2.1 /\ w.cell? ⟨g, o + i * 3 + 2, none⟩ = some (.bool X[i].2.2.1)) (hl : N <= 1073741824) (hv : ∀ x ∈ X, ∃ A1 n1 c1, x.2.1 = .slice A1 n1 c1) :
  Calls Tryz.prog 102 #[.slice A N c] w fun e w' => ∃ u, e = .returned u /\ OwnN w' w.heap.size u (X.map fun x : Sgp => (x.1 : Int)) /\ Below w.heap.size w w' := by
 have HN := hide hN;have HC := hide hcell;have HV := hide hv;clear hcell hN hv;go_enter Tryz.func102, Tryz.ntmps102;go_wp2_with fail
 go_loopw [3, 8] (fun u ix wr => ∃ j : Nat, j <= N /\ ix = .int .i64 (j : Int) /\ Hid (OwnN wr w.heap.size u ((X.take j).map fun x : Sgp => (x.1 : Int))) /\ Hid (Below w.heap.size w wr)) (fun _ ix _ => N - (intOf ix).toNat)
 case atStart => exact ⟨0, Nat.zero_le _, rfl, hide (World.ownsRow_nil _ _ _ _), Below.refl _ _⟩
 case round =>
  obtain ⟨j, hj, rfl, hO, hB⟩ := hrel;by_cases hlt : j < N
  ·have hjX : j < X.length := by have := HN.out; omega
   obtain ⟨g, o, rfl, hgl, q0, q1, q2⟩ := HC.out j hjX;obtain ⟨f, hf⟩ : ∃ f, f = X[j].1 := ⟨_, rfl⟩;obtain ⟨A1, n1, c1, hvv⟩ := HV.out X[j] (List.getElem_mem hjX);obtain ⟨bb, hbb⟩ : ∃ bb, bb = X[j].2.2.1 := ⟨_, rfl⟩;rw [<- hf] at q0;rw [hvv] at q1;rw [<- hbb] at q2;have q0' := (hB.out.cell (p := ⟨g, o + j * 3, none⟩) hgl).trans q0;have q1' := (hB.out.cell (p := ⟨g, o + j * 3 + 1, none⟩) hgl).trans q1;have q2' := (hB.out.cell (p := ⟨g, o + j * 3 + 2, none⟩) hgl).trans q2;have ka := below_alloc wr (.cells #[.int .i64 (f : Int), .slice A1 n1 c1, .bool bb] 119);have m0 : (wr.alloc (.cells #[.int .i64 (f : Int), .slice A1 n1 c1, .bool bb] 119)).cell? ⟨wr.heap.size, 0, none⟩ = some (.int .i64 (f : Int)) := by rw [cell_of_row _ _ _ _ _ (0, 0) (heap_alloc_new wr _)]; rfl
   have HF := hide hf;have KA := hide ka;clear hf hvv hbb q0 q1 q2 ka;go_wp2_with (at_builtin; refine halt ?_)
   refine ⟨wpList_of_step (fun K hK => ?_)⟩;have nb := below_alloc (wr.alloc (.cells #[.int .i64 (f : Int), .slice A1 n1 c1, .bool bb] 119)) (.cells #[.int .i64 (f : Int)] 3);have hz : (wr.alloc (.cells #[.int .i64 (f : Int), .slice A1 n1 c1, .bool bb] 119)).heap.size = wr.heap.size + 1 := by simp
   have m5 := cell_new (wr.alloc (.cells #[.int .i64 (f : Int), .slice A1 n1 c1, .bool bb] 119)) (.int .i64 (f : Int)) 3;rw [hz] at m5;have K2 := hide (hB.out.trans ((KA.out.trans (nb.mono KA.out.size)).mono hB.out.size));have hO2 : OwnN ((wr.alloc (.cells #[.int .i64 (f : Int), .slice A1 n1 c1, .bool bb] 119)).alloc (.cells #[.int .i64 (f : Int)] 3)) w.heap.size u3 ((X.take j).map fun x : Sgp => (x.1 : Int)) := ownsRow_turn hO.out (Turn.of_below (fun _ => False) (KA.out.trans (nb.mono KA.out.size))) (fun _ _ => id);refine step_append_num rfl (.tmp 12) (.tmp 15) rfl w.heap.size u3 ((X.take j).map fun x : Sgp => (x.1 : Int)) (by rfl) hO2 (wr.heap.size + 1) (f : Int) (by rfl) m5 (by rw [List.length_map, List.length_take]; omega) K2.out.size ?_;rintro v9 w9 o9 g9 -;have O9 : Hid (OwnN w9 w.heap.size v9 ((X.take (j + 1)).map fun x : Sgp => (x.1 : Int))) := hide (by rw [List.take_succ_eq_append_getElem hjX, List.map_append]; show OwnN w9 _ v9 (_ ++ [((X[j].1 : Nat) : Int)]); rw [<- HF.out]; exact o9);have K9 := hide (K2.out.grown g9 K2.out.size (fun k hk => (World.ownsRow.lt hO2 k hk).1));refine hK.out _ _ ?_;clear hK o9 g9 hO2 m5 hz nb;simp only [Act.put, List.setIfInBounds_toArray, List.set_cons_zero, List.set_cons_succ];go_wp2_with fail
   go_roundw
   case rel => exact ⟨j + 1, by omega, by go_num, O9.out, K9.out⟩
   case measure => simp [intOf]; omega
  ·obtain rfl : j = N := by omega
   have hO2 := hO.out;rw [List.take_of_length_le (by have := HN.out; omega)] at hO2;have O2 := hide hO2;clear hO2;go_wp2_with fail
   go_ret;exact ⟨_, rfl, O2.out, hB.out⟩
theorem cellsP_take : ∀ (X : List Sgp) (k : Nat), (cellsP X).take (k * 3) = cellsP (X.take k)
 | [], k => by simp [cellsP]
 | x :: r, 0 => by simp [cellsP]
 | x :: r, k + 1 => by
  rw [show (k + 1) * 3 = k * 3 + 1 + 1 + 1 by omega];simp only [cellsP, List.take_succ_cons, cellsP_take r k]
theorem cellsP_drop : ∀ (X : List Sgp) (k : Nat), (cellsP X).drop (k * 3) = cellsP (X.drop k)
 | [], k => by simp [cellsP]
 | x :: r, 0 => by simp [cellsP]
 | x :: r, k + 1 => by
  rw [show (k + 1) * 3 = k * 3 + 1 + 1 + 1 by omega];simp only [cellsP, List.drop_succ_cons, cellsP_drop r k]
theorem PRow.sub {M : Nat} {X Y : List Sgp} (h : PRow w G (.slice (some ⟨g, 0, none⟩) N c) X) (hr : w'.ownsRow 0 119 3 (.slice (some ⟨g, 0, none⟩) M c) Y.length (cellsP Y)) (hg : w.grownBy w' (some g)) (hs : Y.Sublist X) : PRow w' G (.slice (some ⟨g, 0, none⟩) M c) Y :=
 ⟨hr, fun x hx => (h.each x (hs.subset hx)).off (Turn.of_grown hg) (ownsRow_seg h.row), h.far.sublist hs, h.mine⟩
theorem PRow.forms {vS : Value} {X : List Sgp} (h : PRow w G vS X) : ∀ x ∈ X, ∃ A1 n1 c1, x.2.1 = .slice A1 n1 c1 := fun x hx => by
 obtain ⟨A, c, e, _⟩ := (h.each x hx).form;exact ⟨A, _, c, e⟩
theorem PRow.cellsO {X : List Sgp} (h : PRow w G (.slice (some ⟨g, 0, none⟩) N c) X) (k m : Nat) : ∀ i (hi : i < ((X.drop k).take m).length), ∃ g' o, (some ⟨g, k * 3, none⟩ : Option Addr) = some ⟨g', o, none⟩ /\ g' < w.heap.size /\ w.cell? ⟨g', o + i * 3, none⟩ = some (.int .i64 (((X.drop k).take m)[i].1 : Int)) /\ w.cell? ⟨g', o + i * 3 + 1, none⟩ = some ((X.drop k).take m)[i].2.1 /\ w.cell? ⟨g', o + i * 3 + 2, none⟩ = some (.bool ((X.drop k).take m)[i].2.2.1) := fun i hi => by
 have hi2 : k + i < X.length := by rw [List.length_take, List.length_drop] at hi; omega
 obtain ⟨A9, c9, e9, _, _, _, h9⟩ := rowP_form h.row;obtain ⟨g9, e10, _, hg9, q0, q1, q2, _⟩ := h9 (k + i) hi2;subst e10;cases e9
 have ex : ((X.drop k).take m)[i] = X[k + i] := by rw [List.getElem_take, List.getElem_drop]
 rw [ex];refine ⟨g, k * 3, rfl, hg9, ?_, ?_, ?_⟩
 ·rw [show k * 3 + i * 3 = (k + i) * 3 by omega]; exact q0
 ·rw [show k * 3 + i * 3 + 1 = (k + i) * 3 + 1 by omega]; exact q1
 ·rw [show k * 3 + i * 3 + 2 = (k + i) * 3 + 2 by omega]; exact q2
end Go.Proofs.YtedlibkkeegnaaaGreat
