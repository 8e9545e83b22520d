/- The program's Open beside the document's, as lists. It names nothing of the program but the disk's lists. The contracts of the program's follows and firsts. Con -/
import Derived.Test.YtedlibkkeegnaaaGreatRp29
import Derived.Test.YtedlibkkeegnaaaGreatRp14
namespace Go.Proofs.YtedlibkkeegnaaaGreat
open Go.RowKit Go.Maps
variable {L L' : DiskL} {M : LogL} {P : PLog} {n : Nat}
def firstsL (k : Str) (L : DiskL) : List Nat := (L.map (·.1)).filterMap (numL k)
def followsP (P : PLog) (n : Nat) : Bool := if P.segs = [] then decide (0 < n) else decide (n = P.next)
def readP (k : Str) (n : Nat) (P : PLog) (L : DiskL) : (PLog × DiskL) × Bool :=
 if followsP P n = false \/ ((recsL n (segL (readL (nameL k n) L).1 n).1).length = 0 /\ 0 < (readL (nameL k n) L).1.length) then ((P, (remL (nameL k n) L).1), false)
 else if (recsL n (segL (readL (nameL k n) L).1 n).1).length = (readL (nameL k n) L).1.length then ((⟨P.segs ++ [(n, (segL (readL (nameL k n) L).1 n).1, true)], n + (segL (readL (nameL k n) L).1 n).1.length⟩, L), true)
 else ((⟨P.segs ++ [(n, (segL (readL (nameL k n) L).1 n).1, true)], n + (segL (readL (nameL k n) L).1 n).1.length⟩, (cutL (nameL k n) ((recsL n (segL (readL (nameL k n) L).1 n).1).length : Int) L).1), false)
def openG (k : Str) : List Nat -> PLog -> DiskL -> PLog × DiskL
 | [], P, L => (P, L)
 | n :: r, P, L => if (readP k n P L).2 = true then openG k r (readP k n P L).1.1 (readP k n P L).1.2 else ((readP k n P L).1.1, removesL k r (readP k n P L).1.2)
theorem digs_frontT : ∀ (j n : Nat), digs (j + 1) n = UInt8.ofNat (48 + n / 10 ^ j % 10) :: digs j n := by
 intro j
 induction j with
 | zero => intro n; simp [digs]
 | succ j ih =>
  intro n;rw [show digs (j + 1 + 1) n = digs (j + 1) (n / 10) ++ [UInt8.ofNat (48 + n % 10)] from rfl, ih (n / 10)];rw [show digs (j + 1) n = digs j (n / 10) ++ [UInt8.ofNat (48 + n % 10)] from rfl, Nat.div_div_eq_div_mul, <- Nat.pow_succ']
  rfl
theorem valD_back : ∀ (cs : Str) (v n : Nat), valD v cs = some n -> n / 10 ^ cs.length = v /\ digs cs.length n = cs := by
 intro cs
 induction cs with
 | nil =>
  intro v n h;have h : some v = some n := h;cases h
  exact ⟨by simp, rfl⟩
 | cons c cs ih =>
  intro v n h;rw [valD_step] at h;by_cases hc : c < 48 \/ 57 < c
  ·rw [if_pos hc] at h;cases h
  ·rw [if_neg hc] at h;obtain ⟨h1, h2⟩ := ih _ _ h;have c1 : 48 <= c.toNat := by
    have : ¬ c < 48 := fun q => hc (.inl q)
    rw [UInt8.lt_iff_toNat_lt] at this;simpa using this
   have c2 : c.toNat <= 57 := by
    have : ¬ 57 < c := fun q => hc (.inr q)
    rw [UInt8.lt_iff_toNat_lt] at this;simpa using this
   rw [List.length_cons];refine ⟨?_, ?_⟩
   ·rw [Nat.pow_succ, <- Nat.div_div_eq_div_mul, h1];omega
   ·rw [digs_frontT, h2, h1];congr 1;rw [show 48 + (v * 10 + (c.toNat - 48)) % 10 = c.toNat by omega];exact UInt8.ofNat_toNat
theorem name_num {k s : Str} (h : numL k s = some n) : nameL k n = s /\ n < 100000000 := by
 unfold numL at h;by_cases hc : s.length ≠ k.length + 9 \/ s.take k.length ≠ k \/ s.getD k.length 0 ≠ 46
 ·rw [if_pos hc] at h;cases h
 ·rw [if_neg hc] at h;have e1 : s.length = k.length + 9 := Decidable.of_not_not fun q => hc (.inl q)
  have e2 : s.take k.length = k := Decidable.of_not_not fun q => hc (.inr (.inl q))
  have e3 : s.getD k.length 0 = 46 := Decidable.of_not_not fun q => hc (.inr (.inr q))
  obtain ⟨h1, h2⟩ := valD_back _ _ _ h;have hl : (s.drop (k.length + 1)).length = 8 := by rw [List.length_drop]; omega
  rw [hl] at h1 h2;refine ⟨?_, by omega⟩;unfold nameL;rw [h2];have hlt : k.length < s.length := by omega
  have e4 : s.drop k.length = 46 :: s.drop (k.length + 1) := by
   rw [List.drop_eq_getElem_cons hlt];congr 1;rw [<- e3, List.getD_eq_getElem?_getD, List.getElem?_eq_getElem hlt]
   rfl
  conv => rhs; rw [<- List.take_append_drop k.length s, e2, e4]
  simp
theorem seg_good : ∀ (f : Nat) (b : List Nat) (i : Nat), b.length <= f -> (∀ x ∈ b, x < 256) -> (readF f b i).2.1 = (recsL i (readF f b i).1).length /\ ((readF f b i).2.2 = true -> (readF f b i).2.1 = b.length) /\ ((readF f b i).2.2 = false -> (readF f b i).2.1 < b.length) := by
 intro f
 induction f with
 | zero =>
  intro b i hl _;exact ⟨rfl, fun _ => by show 0 = b.length; omega, fun q => by cases q⟩
 | succ f ih =>
  intro b i hl hb;rw [readF_step];split
  ·next h => exact ⟨rfl, fun _ => h.symm, fun q => by cases q⟩
  ·next h0 =>
   split
   ·exact ⟨rfl, fun q => (by cases q), fun _ => by show 0 < b.length; omega⟩
   ·next h1 =>
    split
    ·exact ⟨rfl, fun q => (by cases q), fun _ => by show 0 < b.length; omega⟩
    ·next h2 =>
     have h1 : (decL b).2.2 = 0 := by omega
     have hd : decL b = ((decL b).1, (decL b).2.1, 0) := by
      conv => lhs; rw [show decL b = ((decL b).1, (decL b).2.1, (decL b).2.2) from rfl, h1]
     have hr1 : (rvl 0 0 (decL b).1).2.2 = 0 := by omega
     have hr2 : (rvl 0 0 (decL b).1).1 = i := by omega
     have hr : rvl 0 0 (decL b).1 = (i, (rvl 0 0 (decL b).1).2.1, 0) := by
      conv => lhs; rw [show rvl 0 0 (decL b).1 = ((rvl 0 0 (decL b).1).1, (rvl 0 0 (decL b).1).2.1, (rvl 0 0 (decL b).1).2.2) from rfl, hr1, hr2]
     have hlen := rec_of_dec hb hd hr;have hpos := decL_pos h1;obtain ⟨_, _, _, hdl, _⟩ := dec_inv hb hd;obtain ⟨g1, g2, g3⟩ := ih (b.drop (decL b).2.1) (i + 1) (by rw [List.length_drop]; omega) (fun x hx => hb x (List.mem_of_mem_drop hx));rw [List.length_drop] at g2 g3;refine ⟨?_, fun q => ?_, fun q => ?_⟩
     ·show (decL b).2.1 + _ = (recL i _ ++ recsL (i + 1) _).length
      rw [List.length_append, <- hlen, g1]
     ·have := g2 q
      show (decL b).2.1 + _ = b.length
      omega
     ·have := g3 q
      show (decL b).2.1 + _ < b.length
      omega
theorem seg_sizes {b : List Nat} (i : Nat) (hb : ∀ x ∈ b, x < 256) : (segL b i).2.1 = (recsL i (segL b i).1).length /\ ((segL b i).2.2 = true ↔ (recsL i (segL b i).1).length = b.length) /\ (recsL i (segL b i).1).length <= b.length := by
 obtain ⟨h1, h2, h3⟩ := seg_good b.length b i (Nat.le_refl _) hb;have h1 : (segL b i).2.1 = (recsL i (segL b i).1).length := h1;refine ⟨h1, ⟨fun q => by rw [<- h1]; exact h2 q, fun q => ?_⟩, ?_⟩
 ·rcases e : (segL b i).2.2 with _ | _
  ·have : (segL b i).2.1 < b.length := h3 e;omega
  ·rfl
 ·rcases e : (segL b i).2.2 with _ | _
  ·have : (segL b i).2.1 < b.length := h3 e;omega
  ·have : (segL b i).2.1 = b.length := h2 e;omega
theorem open_bad {k : Str} : ∀ (N : List Str) (M : LogL) (L : DiskL), N.foldl (openStep k) ⟨true, M, L⟩ = ⟨true, M, removesL k (N.filterMap (numL k)) L⟩ := by
 intro N
 induction N with
 | nil => intro M L; rfl
 | cons s N ih =>
  intro M L;rw [List.foldl_cons, List.filterMap_cons];rcases e : numL k s with _ | n
  ·have : openStep k ⟨true, M, L⟩ s = ⟨true, M, L⟩ := by unfold openStep; rw [e]
   rw [this];exact ih M L
  ·have : openStep k ⟨true, M, L⟩ s = ⟨true, M, (remL (nameL k n) L).1⟩ := by
    unfold openStep;rw [e];dsimp only;rw [if_pos (.inl rfl), (name_num e).1]
   rw [this];exact ih M _
structure Half (k : Str) (ns : List Nat) (P : PLog) (M : LogL) (L : DiskL) : Prop where
 segs : M.segs = P.segs.map bareP
 next : M.next = P.next
 pos : 1 <= M.next
 chain : ∃ i, Chain i M.segs M.next
 full : ∀ s ∈ M.segs.dropLast, s.2 ≠ []
 low : ∀ s ∈ M.segs, s.1 < 100000000
 file : ∀ s ∈ M.segs, ∃ a, getK (nameL k s.1) L = some a /\ a.1.length = (recsL s.1 s.2).length
 stray : ∀ n, n < 100000000 -> (getK (nameL k n) L).isSome = true -> (∃ s ∈ M.segs, s.1 = n) \/ n ∈ ns
 dirt : M.dirty = M.segs.map (·.1)
 fresh : ∀ x ∈ P.segs, x.2.2 = true
 rise : ns.Pairwise (· < ·)
 above : ∀ n ∈ ns, ∀ s ∈ M.segs, s.1 < n
 few : ∀ n ∈ ns, n < 100000000
theorem Half.whole {k : Str} (h : Half k [] P M L) : Twin k P M L := by
 refine ⟨h.segs, h.next, h.chain, h.full, h.low, h.file, fun n h1 h2 => (h.stray n h1 h2).elim id (fun q => by cases q), fun x hx _ => ?_, fun x hx hxf => ?_, fun n hn => ?_⟩
 ·rw [h.dirt, h.segs, List.map_map];exact List.mem_map.2 ⟨x, hx, rfl⟩
 ·rw [h.fresh x hx] at hxf;cases hxf
 ·rw [h.dirt] at hn;obtain ⟨s, hs, rfl⟩ := List.mem_map.1 hn;exact h.low s hs
theorem Half.rem {k : Str} {ns : List Nat} (h : Half k (n :: ns) P M L) (hr : Rise L) : Half k ns P M (remL (nameL k n) L).1 := by
 have hn := h.few n List.mem_cons_self;refine ⟨h.segs, h.next, h.pos, h.chain, h.full, h.low, fun s hs => ?_, fun m h1 h2 => ?_, h.dirt, h.fresh, (List.pairwise_cons.1 h.rise).2, fun m hm => h.above m (List.mem_cons_of_mem _ hm), fun m hm => h.few m (List.mem_cons_of_mem _ hm)⟩
 ·obtain ⟨a, g1, g2⟩ := h.file s hs;have := h.above n List.mem_cons_self s hs;exact ⟨a, by rw [rem_del, getK_del_other hr (fun q => by have := name_inj k (h.low s hs) hn q; omega)]; exact g1, g2⟩
 ·rw [rem_del] at h2;by_cases e : m = n
  ·subst e;rw [getK_del_same] at h2;cases h2
  ·rw [getK_del_other hr (fun q => e (name_inj k h1 hn q))] at h2;rcases h.stray m h1 h2 with q | q
   ·exact .inl q
   ·rcases List.mem_cons.1 q with q | q
    ·exact absurd q e
    ·exact .inr q
theorem Half.removes {k : Str} : ∀ {ns : List Nat} {P : PLog} {M : LogL} {L : DiskL}, Half k ns P M L -> Rise L -> Half k [] P M (removesL k ns L) := by
 intro ns
 induction ns with
 | nil => intro P M L h _; exact h
 | cons n ns ih =>
  intro P M L h hr
  show Half k [] P M (removesL k ns (remL (nameL k n) L).1)
  exact ih (h.rem hr) (by rw [rem_del]; exact delK_rise hr)
theorem Half.take {k : Str} {ns : List Nat} {es : List (List Nat)} (h : Half k (n :: ns) P M L) (hf : followsP P n = true) (hL : ∀ m, m < 100000000 -> m ≠ n -> getK (nameL k m) L' = getK (nameL k m) L)
  (hn : ∃ a, getK (nameL k n) L' = some a /\ a.1.length = (recsL n es).length) : Half k ns ⟨P.segs ++ [(n, es, true)], n + es.length⟩ ⟨M.segs ++ [(n, es)], n + es.length, M.dirty ++ [n]⟩ L' := by
 have hn8 := h.few n List.mem_cons_self;have hab := h.above n List.mem_cons_self;have hP := h.pos;have hq : M.segs = [] /\ 0 < n \/ M.segs ≠ [] /\ n = M.next := by
  unfold followsP at hf;by_cases e : P.segs = []
  ·rw [if_pos e] at hf;exact .inl ⟨by rw [h.segs, e]; rfl, by simpa using hf⟩
  ·rw [if_neg e] at hf;refine .inr ⟨by rw [h.segs]; intro q; exact e (List.map_eq_nil_iff.1 q), ?_⟩;rw [h.next];simpa using hf
 obtain ⟨i, hc⟩ := h.chain;refine ⟨by rw [List.map_append, h.segs]; rfl, rfl, ?_, ?_, ?_, fun s hs => ?_, fun s hs => ?_, fun m h1 h2 => ?_, ?_, fun x hx => ?_, (List.pairwise_cons.1 h.rise).2, fun m hm s hs => ?_, fun m hm => h.few m (List.mem_cons_of_mem _ hm)⟩
 ·show 1 <= n + es.length
  rcases hq with ⟨_, q⟩ | ⟨_, q⟩ <;> omega
 ·rcases hq with ⟨q1, q2⟩ | ⟨q1, q2⟩
  ·exact ⟨n, by rw [q1]; exact ⟨rfl, rfl⟩⟩
  ·exact ⟨i, chain_app hc ⟨q2, by show M.next + es.length = n + es.length; rw [q2]⟩⟩
 ·show ∀ s ∈ (M.segs ++ [(n, es)]).dropLast, s.2 ≠ []
  rw [List.dropLast_concat];intro s hs;rcases hq with ⟨q1, q2⟩ | ⟨q1, q2⟩
  ·rw [q1] at hs;cases hs
  ·rcases List.eq_nil_or_concat M.segs with e | ⟨S0, t, e⟩
   ·exact absurd e q1
   ·rw [List.concat_eq_append] at e;have hso := h.full;rw [e, List.dropLast_concat] at hso;have ht := hab t (by rw [e]; simp);rw [e] at hs hc;rcases List.mem_append.1 hs with hs | hs
    ·exact hso s hs
    ·have hst : s = t := by simpa using hs
     subst hst;have := (chain_last hc).2;intro h0;rw [h0] at this;simp at this;omega
 ·rcases List.mem_append.1 hs with hs | hs
  ·exact h.low s hs
  ·have e : s = (n, es) := by simpa using hs
   subst e;exact hn8
 ·rcases List.mem_append.1 hs with hs | hs
  ·obtain ⟨a, g1, g2⟩ := h.file s hs;exact ⟨a, by rw [hL s.1 (h.low s hs) (by have := hab s hs; omega)]; exact g1, g2⟩
  ·have e : s = (n, es) := by simpa using hs
   subst e;exact hn
 ·by_cases e : m = n
  ·exact .inl ⟨(n, es), by simp, e.symm⟩
  ·rw [hL m h1 e] at h2;rcases h.stray m h1 h2 with ⟨s, hs, q⟩ | q
   ·exact .inl ⟨s, List.mem_append.2 (.inl hs), q⟩
   ·rcases List.mem_cons.1 q with q | q
    ·exact absurd q e
    ·exact .inr q
 ·show M.dirty ++ [n] = (M.segs ++ [(n, es)]).map (·.1)
  rw [List.map_append, h.dirt]
  rfl
 ·rcases List.mem_append.1 hx with hx | hx
  ·exact h.fresh x hx
  ·have e : x = (n, es, true) := by simpa using hx
   rw [e]
 ·rcases List.mem_append.1 hs with hs | hs
  ·exact h.above m (List.mem_cons_of_mem _ hm) s hs
  ·have e : s = (n, es) := by simpa using hs
   rw [e];exact (List.pairwise_cons.1 h.rise).1 m hm
theorem half_open {k : Str} : ∀ (N : List Str) (P : PLog) (M : LogL) (L : DiskL), Half k (N.filterMap (numL k)) P M L -> Rise L -> (∀ q ∈ L, ∀ x ∈ q.2.1, x < 256) -> (∀ n ∈ N.filterMap (numL k), (getK (nameL k n) L).isSome = true) ->
  (N.foldl (openStep k) ⟨false, M, L⟩).disk = (openG k (N.filterMap (numL k)) P L).2 /\ Twin k (openG k (N.filterMap (numL k)) P L).1 (N.foldl (openStep k) ⟨false, M, L⟩).log (openG k (N.filterMap (numL k)) P L).2 := by
 intro N
 induction N with
 | nil => intro P M L h hr _ _; exact ⟨rfl, h.whole⟩
 | cons s N ih =>
  intro P M L h hr hb hex;rw [List.foldl_cons];rw [List.filterMap_cons] at h hex ⊢;rcases e : numL k s with _ | n
  ·rw [e] at h hex;have e2 : openStep k ⟨false, M, L⟩ s = ⟨false, M, L⟩ := by unfold openStep; rw [e]
   rw [e2];exact ih P M L h hr hb hex
  ·rw [e] at h hex;dsimp only at h hex ⊢;obtain ⟨hs, hn8⟩ := name_num e;obtain ⟨a, ha⟩ := Option.isSome_iff_exists.1 (hex n List.mem_cons_self);obtain ⟨b, hbe⟩ : ∃ b, b = (readL (nameL k n) L).1 := ⟨_, rfl⟩;have hba : b = a.1 := by rw [hbe]; unfold readL; rw [ha]
   have hbb : ∀ x ∈ b, x < 256 := by rw [hba]; exact hb _ (getK_mem ha)
   obtain ⟨g1, g2, g3⟩ := seg_sizes n hbb;have hdoc : openStep k ⟨false, M, L⟩ s = if n < 1 \/ (M.segs ≠ [] /\ n ≠ M.next) then ⟨true, M, (remL (nameL k n) L).1⟩
     else if (segL b n).2.2 = true then ⟨false, ⟨M.segs ++ [(n, (segL b n).1)], n + (segL b n).1.length, M.dirty ++ [n]⟩, L⟩
     else if (segL b n).2.1 = 0 then ⟨true, M, (remL (nameL k n) L).1⟩
     else ⟨true, ⟨M.segs ++ [(n, (segL b n).1)], n + (segL b n).1.length, M.dirty ++ [n]⟩, (cutL (nameL k n) ((segL b n).2.1 : Int) L).1⟩ := by
    unfold openStep;rw [e];dsimp only;rw [<- hs, <- hbe];simp
   have hfol : followsP P n = false ↔ (n < 1 \/ (M.segs ≠ [] /\ n ≠ M.next)) := by
    have hpos := h.pos;unfold followsP;by_cases he : P.segs = []
    ·have : M.segs = [] := by rw [h.segs, he]; rfl
     rw [if_pos he, this];simp
    ·have hne : M.segs ≠ [] := by rw [h.segs]; intro q; exact he (List.map_eq_nil_iff.1 q)
     rw [if_neg he, h.next];simp only [decide_eq_false_iff_not, ne_eq, hne, not_false_eq_true, true_and];constructor
     ·exact .inr
     ·rintro (q | q)
      ·rw [h.next] at hpos;omega
      ·exact q
   have hrem := h.rem hr;have hrr : Rise (remL (nameL k n) L).1 := by rw [rem_del]; exact delK_rise hr
   have hG : openG k (n :: N.filterMap (numL k)) P L = if (readP k n P L).2 = true then openG k (N.filterMap (numL k)) (readP k n P L).1.1 (readP k n P L).1.2 else ((readP k n P L).1.1, removesL k (N.filterMap (numL k)) (readP k n P L).1.2) := rfl
   by_cases hF : followsP P n = false
   ·have e2 : readP k n P L = ((P, (remL (nameL k n) L).1), false) := by unfold readP; rw [if_pos (.inl hF)]
    rw [hdoc, if_pos (hfol.1 hF), hG, e2, if_neg (by simp), open_bad];exact ⟨rfl, (hrem.removes hrr).whole⟩
   ·have hF1 : followsP P n = true := by simpa using hF
    rw [hdoc, if_neg (fun q => hF (hfol.2 q))];by_cases hw : (segL b n).2.2 = true
    ·have hsz := g2.1 hw;have e2 : readP k n P L = ((⟨P.segs ++ [(n, (segL b n).1, true)], n + (segL b n).1.length⟩, L), true) := by
      unfold readP;rw [<- hbe, if_neg, if_pos hsz];rintro (q | ⟨q1, q2⟩)
      ·exact hF q
      ·omega
     rw [if_pos hw, hG, e2, if_pos rfl];refine ih _ _ L (h.take hF1 (fun _ _ _ => rfl) ⟨a, ha, by rw [<- hba]; exact hsz.symm⟩) hr hb (fun m hm => hex m (List.mem_cons_of_mem _ hm))
    ·rw [if_neg hw];have hlt : (recsL n (segL b n).1).length ≠ b.length := fun q => hw (g2.2 q)
     by_cases h0 : (segL b n).2.1 = 0
     ·have e2 : readP k n P L = ((P, (remL (nameL k n) L).1), false) := by
       unfold readP;rw [<- hbe, if_pos (.inr ⟨by omega, by omega⟩)]
      rw [if_pos h0, hG, e2, if_neg (by simp), open_bad];exact ⟨rfl, (hrem.removes hrr).whole⟩
     ·have e2 : readP k n P L = ((⟨P.segs ++ [(n, (segL b n).1, true)], n + (segL b n).1.length⟩, (cutL (nameL k n) ((recsL n (segL b n).1).length : Int) L).1), false) := by
       unfold readP;rw [<- hbe, if_neg, if_neg hlt];rintro (q | ⟨q1, q2⟩)
       ·exact hF q
       ·omega
      have hcg := cut_get hr ha (show (recsL n (segL b n).1).length <= a.1.length by rw [<- hba]; exact g3);rw [if_neg h0, hG, e2, if_neg (by simp), open_bad, g1];have hT := h.take (es := (segL b n).1) (L' := (cutL (nameL k n) ((recsL n (segL b n).1).length : Int) L).1) hF1 (fun m h1 h2 => cut_other hr (fun q => h2 (name_inj k h1 hn8 q))) ⟨_, hcg.2, by
       dsimp only;rw [List.length_take, <- hba];omega⟩
      exact ⟨rfl, (hT.removes (cut_rise hr)).whole⟩
theorem before_asymT {a b : Str} (h1 : bytesBefore a b = true) (h2 : bytesBefore b a = true) : False := by
 have := le_of_before h1;have := le_of_before h2;exact before_ne h1 (by exact List.le_antisymm ‹_› ‹_›)
theorem nums_rise {k : Str} : ∀ {N : List Str}, N.Pairwise (fun a b => bytesBefore a b = true) -> (N.filterMap (numL k)).Pairwise (· < ·) := by
 intro N
 induction N with
 | nil => intro _; exact List.Pairwise.nil
 | cons s N ih =>
  intro h;obtain ⟨h1, h2⟩ := List.pairwise_cons.1 h;rw [List.filterMap_cons];rcases e : numL k s with _ | n
  ·exact ih h2
  ·dsimp only;refine List.pairwise_cons.2 ⟨fun m hm => ?_, ih h2⟩;obtain ⟨t, ht, et⟩ := List.mem_filterMap.1 hm;obtain ⟨e1, l1⟩ := name_num e;obtain ⟨e2, l2⟩ := name_num et;have hb := h1 t ht;rw [<- e1, <- e2] at hb;rcases Nat.lt_trichotomy n m with q | q | q
   ·exact q
   ·subst q;exact absurd rfl (before_ne hb)
   ·exact (before_asymT hb (name_before k q l1)).elim
theorem twin_open {k : Str} (hr : Rise L) (hb : ∀ q ∈ L, ∀ x ∈ q.2.1, x < 256) :
  (openR k L).disk = (openG k (firstsL k L) ⟨[], 1⟩ L).2 /\ Twin k (openG k (firstsL k L) ⟨[], 1⟩ L).1 (openR k L).log (openG k (firstsL k L) ⟨[], 1⟩ L).2 := by
 have hN : (L.map (·.1)).Pairwise (fun a b => bytesBefore a b = true) := by
  rw [List.pairwise_map];exact hr
 refine half_open (L.map (·.1)) ⟨[], 1⟩ ⟨[], 1, []⟩ L ⟨rfl, rfl, Nat.le_refl _, ⟨1, rfl⟩, fun s hs => (by cases hs), fun s hs => (by cases hs), fun s hs => (by cases hs), fun n h1 h2 => .inr ?_, rfl, fun x hx => (by cases hx), nums_rise hN, fun n _ s hs => (by cases hs), fun n hn => ?_⟩ hr hb (fun n hn => ?_)
 ·obtain ⟨a, ha⟩ := Option.isSome_iff_exists.1 h2;exact List.mem_filterMap.2 ⟨nameL k n, List.mem_map.2 ⟨_, getK_mem ha, rfl⟩, num_name k h1⟩
 ·obtain ⟨t, _, et⟩ := List.mem_filterMap.1 hn;exact (name_num et).2
 ·obtain ⟨t, ht, et⟩ := List.mem_filterMap.1 hn;obtain ⟨q, hq, rfl⟩ := List.mem_map.1 ht;rw [(name_num et).1, mem_getK hr (show (q.1, q.2) ∈ L from hq)]
  rfl
set_option maxRecDepth 100000 in
theorem pfollows_any (w : World) (l N c nx n : Nat) (A : Option Addr) (P : PLog) (hN : N = P.segs.length) (hn : nx = P.next) (c2 : w.cell? ⟨l, 2, none⟩ = some (.slice A N c)) (c3 : w.cell? ⟨l, 3, none⟩ = some (.int .i64 (nx : Int))) :
  Calls Tryz.prog 89 #[.pointer (some ⟨l, 0, none⟩), .int .i64 (n : Int)] w fun e w' => e = .returned (.bool (followsP P n)) /\ Below w.heap.size w w' := by
 by_cases h : P.segs = []
 ·have hN0 : ((N : Int) == 0) = true := by rw [hN, h]; rfl
  obtain ⟨b, hb⟩ : ∃ b, b = followsP P n := ⟨_, rfl⟩;have hb2 : b = decide (0 < n) := by rw [hb]; unfold followsP; rw [if_pos h]
  rw [<- hb];have HB := hide hb2;clear hb hb2 h hN hn;go_enter Tryz.func89, Tryz.ntmps89;go_wp2_with fail
  go_ret;rw [HB.out];exact ⟨rfl, Below.refl _ _⟩
 ·have hN0 : ((N : Int) == 0) = false := by simp; rw [hN]; intro e; exact h (List.length_eq_zero_iff.1 (by omega))
  obtain ⟨b, hb⟩ : ∃ b, b = followsP P n := ⟨_, rfl⟩;have hb2 : ((n : Int) == (nx : Int)) = b := by rw [hb]; unfold followsP; rw [if_neg h, hn]; by_cases e : n = P.next <;> simp [e]; omega
  rw [<- hb];clear hb h hN hn;go_enter Tryz.func89, Tryz.ntmps89;go_wp2_with fail
  go_ret;exact ⟨rfl, Below.refl _ _⟩
set_option maxRecDepth 100000 in
set_option maxHeartbeats 3200000 in
theorem pfirsts_disk (w : World) (F : Nat -> Prop) (dp l room : Nat) (s : ByteArray) (L : DiskL) (hD : DiskAt w F dp room L) (c0 : w.cell? ⟨l, 0, none⟩ = some (.pointer (some ⟨dp, 0, none⟩))) (c1 : w.cell? ⟨l, 1, none⟩ = some (.string s)) (hs : s.size <= 64) :
  Calls Tryz.prog 65 #[.pointer (some ⟨l, 0, none⟩)] w fun e w' => ∃ u, e = .returned u /\ OwnN w' w.heap.size u ((firstsL s.data.toList L).map fun n : Nat => (n : Int)) /\ Below w.heap.size w w' := by
 have hll := cell_lt c0;have hfew : L.length <= 256 := hD.facts.2.1;have HD := hide hD;clear hD;go_enter Tryz.func65, Tryz.ntmps65;go_wp2_with fail
 refine (list_any F dp room L _ HD.out).mono ?_;rintro e w1 ⟨v1, rfl, o1, k1⟩;obtain ⟨N, hN⟩ : ∃ N, N = (L.map (·.1)).length := ⟨_, rfl⟩;have hN256 : N <= 256 := by rw [hN, List.length_map]; exact hfew
 obtain ⟨A, c, rfl, hc1, hc2, hcell⟩ := o1.rows hN.symm;have q1 := (k1.cell (p := ⟨l, 1, none⟩) hll).trans c1;have HC := hide hcell;have K1 := hide k1;have HN := hide hN;have hl1 := cell_lt q1;clear o1 k1 hcell hN hfew c0 c1;go_wp2_with fail
 go_loopw [3, 14] (fun u ix wr => ∃ j : Nat, j <= N /\ ix = .int .i64 (j : Int) /\ Hid (OwnN wr w1.heap.size u ((((L.map (·.1)).take j).filterMap (numL s.data.toList)).map fun n : Nat => (n : Int))) /\ Hid (Below w1.heap.size w1 wr)) (fun _ ix _ => N - (intOf ix).toNat)
 case atStart => exact ⟨0, Nat.zero_le _, rfl, hide (World.ownsRow_nil _ _ _ _), Below.refl _ _⟩
 case round =>
  obtain ⟨j, hj, rfl, hO, hB1⟩ := hrel;by_cases hlt : j < N
  ·obtain ⟨g, rfl, q⟩ := HC.out j hlt;obtain ⟨t, ht, htl⟩ := str_at ((L.map (·.1)).getD j []);rw [ht] at q;have q' := (hB1.out.cell (p := ⟨g, j, none⟩) (cell_lt q)).trans q;have q1' := (hB1.out.cell (p := ⟨l, 1, none⟩) hl1).trans q1;have hjL : j < (L.map (·.1)).length := by have := HN.out; omega
   have htk : ((L.map (·.1)).take (j + 1)).filterMap (numL s.data.toList) = ((L.map (·.1)).take j).filterMap (numL s.data.toList) ++ [t.data.toList].filterMap (numL s.data.toList) := by
    rw [List.take_succ_eq_append_getElem hjL, List.filterMap_append, htl, List.getD_eq_getElem?_getD, List.getElem?_eq_getElem hjL]
    rfl
   have HTK := hide htk;clear htk htl ht q;go_wp2_with fail
   refine (pnumber_any l s t _ q1' hs).mono ?_;rintro e w2 ⟨rfl, k2⟩;have hO2 : Hid (OwnN w2 w1.heap.size _ _) := hide (ownsRow_turn hO.out (Turn.of_below (fun _ => False) k2) (fun _ _ => id));have KB1 := hide (hB1.out.trans (k2.mono hB1.out.size));unfold numR;rcases hnum : numL s.data.toList t.data.toList with _ | n
   ·have HT2 : Hid (((L.map (·.1)).take (j + 1)).filterMap (numL s.data.toList) = ((L.map (·.1)).take j).filterMap (numL s.data.toList)) := hide (by rw [HTK.out, List.filterMap_cons, hnum]; simp);clear hnum k2;simp only [Option.getD_none, Option.isSome_none];go_wp2_with fail
    go_roundw
    case rel => exact ⟨j + 1, by omega, by go_num, by unfold Hid; rw [HT2.out]; exact hO2.out, KB1.out⟩
    case measure => simp [intOf]; omega
   ·have HT2 : Hid (((L.map (·.1)).take (j + 1)).filterMap (numL s.data.toList) = ((L.map (·.1)).take j).filterMap (numL s.data.toList) ++ [n]) := hide (by rw [HTK.out, List.filterMap_cons, hnum]; rfl);clear hnum k2;simp only [Option.getD_some, Option.isSome_some];go_wp2_with (at_builtin; refine halt ?_)
    refine ⟨wpList_of_step (fun K hK => ?_)⟩;have nb := below_alloc w2 (.cells #[.int .i64 (n : Int)] 3);have m5 := cell_new w2 (.int .i64 (n : Int)) 3;have K2 := hide (below_step KB1.out nb);have hO3 := ownsRow_turn hO2.out (Turn.of_below (fun _ => False) nb) (fun _ _ => id);have hle : (((L.map (·.1)).take j).filterMap (numL s.data.toList)).length <= 256 := by
     refine Nat.le_trans (List.length_filterMap_le _ _) ?_;rw [List.length_take];omega
    refine step_append_num rfl (.tmp 25) (.tmp 27) rfl w1.heap.size _ _ (by rfl) hO3 w2.heap.size (n : Int) (by rfl) m5 (by rw [List.length_map]; omega) K2.out.size ?_;rintro v9 w9 o9 g9 -;have O9 : Hid (OwnN w9 w1.heap.size v9 ((((L.map (·.1)).take (j + 1)).filterMap (numL s.data.toList)).map fun n : Nat => (n : Int))) := hide (by rw [HT2.out, List.map_append]; exact o9);have K9 := hide (K2.out.grown g9 K2.out.size (fun k hk => (World.ownsRow.lt hO3 k hk).1));refine hK.out _ _ ?_;clear hK o9 g9 hO3 m5 nb;simp only [Act.put, List.setIfInBounds_toArray, List.set_cons_zero, List.set_cons_succ];go_wp2_with fail
    go_roundw
    case rel => exact ⟨j + 1, by omega, by go_num, O9.out, K9.out⟩
    case measure => simp [intOf]; omega
  ·obtain rfl : j = N := by omega
   have hO2 := hO.out;rw [List.take_of_length_le (by have := HN.out; omega)] at hO2;have O2 := hide hO2;clear hO2;go_wp2_with fail
   go_ret;exact ⟨_, rfl, O2.out.more K1.out.size, K1.out.trans (hB1.out.mono K1.out.size)⟩
end Go.Proofs.YtedlibkkeegnaaaGreat
