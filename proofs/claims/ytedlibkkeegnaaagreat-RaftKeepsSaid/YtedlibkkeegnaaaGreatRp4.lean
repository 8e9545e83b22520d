/- A region that draws its order and whose last operation turns a cell that others load: loads may be taken first all the same, for that operation waits for all of -/
import Derived.Test.YtedlibkkeegnaaaGreatRp3
import Derived.Deep.RegionHeld
namespace Go.Proofs.YtedlibkkeegnaaaGreat
open Go.RowKit
variable {w : World} {n i : Nat}
section
variable {P : Program} {ops : Array Oper} {Q : Exit -> Act -> World -> Prop} {md : Region.Mode} {S : World -> Prop} {L : Nat}
def Ways (P : Program) (md : Region.Mode) (ops : Array Oper) (Q : Exit -> Act -> World -> Prop) (S : World -> Prop) (L : Nat) : Nat -> Array Bool -> Act -> World -> Prop
 | 0, listed, a, w => Region.ready md ops listed = [] /\ Q .normal a w
 | fuel + 1, listed, a, w =>
  (Region.ready md ops listed = [] -> Q .normal a w) /\
  ∀ i ∈ Region.ready md ops listed, wpOp P ops Q i (fun b u => (i = L \/ S u) /\ Ways P md ops Q S L fuel (listed.setIfInBounds i true) b u) a w
theorem Ways.any : ∀ (fuel : Nat) (listed : Array Bool) (a : Act) (w : World), Ways P md ops Q S L fuel listed a w -> wpAny P md ops Q fuel listed a w
 | 0, _, _, _, h => h
 | fuel + 1, _, _, _, h => ⟨h.1, fun i hi => wpOp_mono (fun b u hb => Ways.any fuel _ b u hb.2) (h.2 i hi)⟩
def waits (md : Region.Mode) (ops : Array Oper) (L i : Nat) : Bool := ((ops[L]?).map fun o => o.after.any fun e => Region.binds md e && e.on == i).getD false
theorem not_listed {listed : Array Bool} (h0 : listed.getD i true = false) (h1 : listed.getD i false = true) : False := by
 rcases Nat.lt_or_ge i listed.size with h | h
 ·simp [h] at h0 h1;rw [h0] at h1;cases h1
 ·simp [Array.getElem?_eq_none h] at h1
theorem waits_ready {listed : Array Bool} (hw : waits md ops L i = true) (h0 : listed.getD i true = false) (hj : L ∈ Region.ready md ops listed) : False := by
 obtain ⟨_, o, ho, hall⟩ := mem_ready.1 hj;unfold waits at hw;rw [ho, Option.map_some, Option.getD_some] at hw;obtain ⟨e, he, hb⟩ := Array.any_eq_true'.1 hw;simp only [Bool.and_eq_true, beq_iff_eq] at hb;have := hall e he hb.1;rw [hb.2] at this;exact not_listed h0 this
theorem Ways.first {oi : Oper} {v : Value} (hi : ops[i]? = some oi) (hsel : Region.noSelect ops = true) (hw : waits md ops L i = true)
  (hQ : ∀ c a w, Q (.panic c) (a.put oi.dst v) w -> Q (.panic c) a w) :
  ∀ (fuel : Nat) (listed : Array Bool) (a : Act) (w : World),
   (∀ j oj, ops[j]? = some oj -> j ≠ i -> listed.getD j true = false -> (∀ e ∈ oj.after, Region.binds md e = true -> e.on ≠ i) -> oi.apart ops oj = true) ->
   i ∈ Region.ready md ops listed -> YieldsIf P ops S oi v a -> S w ->
   Ways P md ops Q S L fuel (listed.setIfInBounds i true) (a.put oi.dst v) w -> Ways P md ops Q S L (fuel + 1) listed a w := by
 intro fuel
 induction fuel with
 | zero =>
  intro listed a w _ hr hy hS H;refine ⟨fun h => absurd hr (by rw [h]; exact List.not_mem_nil), fun j hj => ?_⟩;rcases Decidable.em (j = i) with rfl | hji
  ·exact hy.wpOp hi hS ⟨.inr hS, H⟩
  ·have hm := ready_mono hj hji;rw [H.1] at hm;exact absurd hm List.not_mem_nil
 | succ fuel ih =>
  intro listed a w hfree hr hy hS H;refine ⟨fun h => absurd hr (by rw [h]; exact List.not_mem_nil), fun j hj => ?_⟩;rcases Decidable.em (j = i) with rfl | hji
  ·exact hy.wpOp hi hS ⟨.inr hS, H⟩
  ·have hun := (mem_ready.1 hr).1;have hjL : j ≠ L := fun e => waits_ready hw hun (e ▸ hj)
   obtain ⟨hju, oj, hoj, hall⟩ := mem_ready.1 hj;have hno : ∀ e ∈ oj.after, Region.binds md e = true -> e.on ≠ i := fun e he hb heq => not_listed hun (heq ▸ hall e he hb)
   refine wpOp_mono (fun b u hb => ?_) (wpOp_putIf hoj (hfree j oj hoj hji hju hno) (fun cs b => Region.noSelect_spec hsel i oi cs b hi) (fun cs b => Region.noSelect_spec hsel j oj cs b hoj) hQ hy (H.2 j (ready_mono hj hji)));obtain ⟨hyb, hSb, hWb⟩ := hb;have hSu : S u := hSb.resolve_left hjL;refine ⟨.inr hSu, ih _ b u (fun k ok hk hki hku => hfree k ok hk hki ?_) (ready_mono hr (Ne.symm hji)) hyb hSu ?_⟩
   ·rcases Decidable.em (j = k) with rfl | hjk
    ·exact hju
    ·rwa [getD_set_ne true hjk] at hku
   ·rw [Array.setIfInBounds_comm _ _ hji];exact hWb
theorem Ways.take {oi : Oper} {v : Value} {fuel : Nat} {listed : Array Bool} {a : Act} (hi : ops[i]? = some oi)
  (hs : Region.noSelect ops = true) (hw : waits md ops L i = true) (hf : Region.free md ops listed i = true) (hr : (Region.ready md ops listed).contains i = true)
  (hQ : ∀ c a w, Q (.panic c) (a.put oi.dst v) w -> Q (.panic c) a w) (hS : S w) (hy : YieldsIf P ops S oi v a)
  (h : Ways P md ops Q S L fuel (listed.setIfInBounds i true) (a.put oi.dst v) w) : Ways P md ops Q S L (fuel + 1) listed a w :=
 Ways.first hi hs hw hQ fuel listed a w (Region.free_spec hi hf) (by simpa using hr) hy hS h
theorem Ways.one {o : Oper} {fuel : Nat} {listed : Array Bool} {a : Act} (hr : Region.ready md ops listed = [i]) (ho : ops[i]? = some o)
  (h : ∀ K : Act -> World -> Prop, Hid (∀ b u, S u -> Ways P md ops Q S L fuel (listed.setIfInBounds i true) b u -> K b u) -> if Region.wanted o (yielded ops a.tmps) = true then Oper.wp P o a w K Q else K (a.put o.dst undef) w) :
  Ways P md ops Q S L (fuel + 1) listed a w := by
 refine ⟨fun h0 => (by rw [hr] at h0; cases h0), fun j hj => ?_⟩;rw [hr, List.mem_singleton] at hj;subst hj;exact wpOp_step ho (fun K hK => h K (hide fun b u hS hW => hK b u ⟨.inr hS, hW⟩))
theorem Ways.last {o : Oper} {fuel : Nat} {listed : Array Bool} {a : Act} (hr : Region.ready md ops listed = [L]) (ho : ops[L]? = some o) (hd : Region.ready md ops (listed.setIfInBounds L true) = [])
  (h : ∀ K : Act -> World -> Prop, Hid (∀ b u, Q .normal b u -> K b u) -> if Region.wanted o (yielded ops a.tmps) = true then Oper.wp P o a w K Q else K (a.put o.dst undef) w) :
  Ways P md ops Q S L (fuel + 1) listed a w := by
 refine ⟨fun h0 => (by rw [hr] at h0; cases h0), fun j hj => ?_⟩;rw [hr, List.mem_singleton] at hj;subst hj;refine wpOp_step ho (fun K hK => h K (hide fun b u hq => hK b u ⟨.inl rfl, ?_⟩));cases fuel with
 | zero => exact ⟨hd, hq⟩
 | succ n => exact ⟨fun _ => hq, by rw [hd]; simp⟩
theorem Ways.start {id : Nat} {a : Act} (S : World -> Prop) (L n : Nat) (l : Array Bool) (hn : ops.size = n) (hl : Array.replicate n false = l) (hm : P.follows .mixedOrders = true) (h : Ways P .any ops Q S L n l a w.drew) : (Code.region id ops true).wp P Q a w := by
 subst hn;subst hl;exact wp_region_any hm (Ways.any _ _ _ _ h)
end
theorem tkW {P : Program} {ops : Array Oper} {md : Region.Mode} {Q : Exit -> Act -> World -> Prop} {S : World -> Prop} {L : Nat} (i : Nat) {x1 x2 x3 x4 x5 x6} {v : Value} {fuel : Nat} {listed : Array Bool} {a : Act} (hi : ops[i]? = some ⟨x1, x2, x3, x4, x5, x6⟩) (hS : S w)
  (hw : Region.wanted ⟨x1, x2, x3, x4, x5, x6⟩ (yielded ops a.tmps) = true) (hy : ∀ w, S w -> (execOp a.eval ⟨x1, x2, x3, x4, x5, x6⟩).run P w = .ok (.value v) w)
  (h : Ways P md ops Q S L fuel (listed.setIfInBounds i true) (a.put x1 v) w) (hs : Region.noSelect ops = true := by kernel_rfl) (hl : waits md ops L i = true := by kernel_rfl) (hf : Region.free md ops listed i = true := by kernel_rfl) (hr : (Region.ready md ops listed).contains i = true := by decide +kernel)
  (hQ : ∀ c a w, Q (.panic c) (a.put x1 v) w -> Q (.panic c) a w := by exact fun _ _ _ h => h) : Ways P md ops Q S L (fuel + 1) listed a w :=
 Ways.take hi hs hl hf hr hQ hS (.inl ⟨hw, hy⟩) h
section
variable {P : Program} {ops : Array Oper} {Q : Exit -> Act -> World -> Prop} {md : Region.Mode} {S : World -> Prop}
def markD (d : Nat -> Bool) (i j : Nat) : Bool := bif Nat.beq j i then true else d j
def depsL (md : Region.Mode) (ops : Array Oper) (i : Nat) : List Nat := ((ops[i]?).map fun o => (o.after.toList.filter fun e => Region.binds md e).map (·.on)).getD []
def topoB (md : Region.Mode) (ops : Array Oper) : Array Bool -> List Nat -> Bool
 | listed, [] => (List.range ops.size).all fun j => listed.getD j true
 | listed, i :: r => ((ops[i]?).isSome && (depsL md ops i).all fun j => listed.getD j false) && topoB md ops (listed.setIfInBounds i true) r
def leftN (listed : Array Bool) (R : List Nat) : Nat := (R.filter fun i => !listed.getD i true).length
theorem wpList_of_step {rest : List Oper} {o : Oper} {a : Act} 
  (h : ∀ K : Act -> World -> Prop, Hid (∀ b u, wpList P ops Q rest b u -> K b u) -> if Region.wanted o (yielded ops a.tmps) = true then Oper.wp P o a w K Q else K (a.put o.dst undef) w) : wpList P ops Q (o :: rest) a w := by
 have h1 := h _ (hide fun _ _ k => k)
 show if Region.wanted o (yielded ops a.tmps) = true then _ else _
 split
 ·rename_i hw
  rw [if_pos hw] at h1;exact .inl h1
 ·rename_i hw
  rw [if_neg hw] at h1;exact h1
def StepR (P : Program) (md : Region.Mode) (ops : Array Oper) (Q : Exit -> Act -> World -> Prop) (J : (Nat -> Bool) -> Act -> World -> Prop) (i : Nat) : Prop :=
 ∀ d a w, d i = false -> (∀ j ∈ depsL md ops i, d j = true) -> J d a w -> wpOp P ops Q i (fun b u => J (markD d i) b u) a w
theorem StepR.intro {J : (Nat -> Bool) -> Act -> World -> Prop} {o : Oper} {l : List Nat} (ho : ops[i]? = some o) (hl : depsL md ops i = l)
  (h : ∀ d a w (K : Act -> World -> Prop), Hid (∀ b u, J (markD d i) b u -> K b u) -> d i = false -> (∀ j ∈ l, d j = true) -> J d a w -> if Region.wanted o (yielded ops a.tmps) = true then Oper.wp P o a w K Q else K (a.put o.dst undef) w) : StepR P md ops Q J i :=
 fun d a w hd hj hJ => wpOp_step ho (fun K hK => h d a w K (hide hK) hd (fun j hm => hj j (by rw [hl]; exact hm)) hJ)
theorem listed_lt {l : Array Bool} {j : Nat} (h : l.getD j false = true) : j < l.size := by
 rcases Nat.lt_or_ge j l.size with h' | h'
 ·exact h'
 ·simp [Array.getElem?_eq_none h'] at h
theorem listed_same {l : Array Bool} {j : Nat} (h : j < l.size) (b c : Bool) : l.getD j b = l.getD j c := by simp [h]
theorem listed_put (l : Array Bool) (i j : Nat) (b : Bool) (hi : i < l.size) : (l.setIfInBounds i true).getD j b = if j = i then true else l.getD j b := by
 by_cases h : j = i
 ·subst h;simp [hi]
 ·rw [if_neg h];simp [Ne.symm h]
theorem markD_eq (l : Array Bool) (i : Nat) (hi : i < l.size) : (fun j => (l.setIfInBounds i true).getD j true) = markD (fun j => l.getD j true) i := by
 funext j;rw [listed_put l i j true hi];unfold markD;by_cases h : j = i
 ·subst h;simp
 ·have e : Nat.beq j i = false := by
   cases hb : Nat.beq j i with
   | false => rfl
   | true => exact absurd (Nat.eq_of_beq_eq_true hb) h
  rw [if_neg h, e]
  rfl
theorem topo_ready : ∀ (R : List Nat) (base listed : Array Bool), listed.size = base.size -> topoB md ops base R = true -> (∀ j, base.getD j false = true -> listed.getD j false = true) -> Region.ready md ops listed = [] -> ∀ i ∈ R, listed.getD i true = true
 | [], _, _, _, _, _, _ => fun i hi => absurd hi List.not_mem_nil
 | i :: r, base, listed, hs, ht, hb, hr => by
  unfold topoB at ht;simp only [Bool.and_eq_true] at ht;obtain ⟨⟨h1, h2⟩, h3⟩ := ht;have hi : listed.getD i true = true := by
   cases he : listed.getD i true with
   | true => rfl
   | false =>
    exfalso;obtain ⟨o, ho⟩ := Option.isSome_iff_exists.1 h1;have hm : i ∈ Region.ready md ops listed := mem_ready.2 ⟨he, o, ho, fun e hm hb2 => hb _ (by
     refine List.all_eq_true.1 h2 e.on ?_;unfold depsL;rw [ho];exact List.mem_map.2 ⟨e, List.mem_filter.2 ⟨Array.mem_toList_iff.2 hm, hb2⟩, rfl⟩)⟩
    rw [hr] at hm;exact absurd hm List.not_mem_nil
  refine fun j hj => ?_
  rcases List.mem_cons.1 hj with rfl | hj
  ·exact hi
  ·refine topo_ready r (base.setIfInBounds i true) listed (by simp [hs]) h3 (fun k hk => ?_) hr j hj;have hkl := listed_lt hk;rw [Array.size_setIfInBounds] at hkl;by_cases hki : k = i
   ·subst hki;rw [listed_same (by rw [hs]; exact hkl) false true];exact hi
   ·rcases Nat.lt_or_ge i base.size with hlt | hge
    ·rw [listed_put base i k false hlt, if_neg hki] at hk;exact hb k hk
    ·rw [Array.setIfInBounds_eq_of_size_le hge] at hk;exact hb k hk
theorem topo_all : ∀ (R : List Nat) (base : Array Bool), topoB md ops base R = true -> ∀ j, j < ops.size -> base.getD j true = false -> j ∈ R
 | [], base, ht, j, hj, hb => by
  unfold topoB at ht;have := List.all_eq_true.1 ht j (List.mem_range.2 hj);rw [hb] at this;cases this
 | i :: r, base, ht, j, hj, hb => by
  unfold topoB at ht;simp only [Bool.and_eq_true] at ht;by_cases h : j = i
  ·subst h; exact List.mem_cons_self
  ·refine List.mem_cons_of_mem _ (topo_all r _ ht.2 j hj ?_);rcases Nat.lt_or_ge i base.size with hlt | hge
   ·rw [listed_put base i j true hlt, if_neg h];exact hb
   ·rw [Array.setIfInBounds_eq_of_size_le hge];exact hb
theorem filter_less {p q : Nat -> Bool} : ∀ (R : List Nat) (i : Nat), i ∈ R -> (∀ j, q j = true -> p j = true) -> p i = true -> q i = false -> (R.filter q).length < (R.filter p).length
 | [], i, h, _, _, _ => absurd h List.not_mem_nil
 | a :: r, i, h, hqp, hp, hq => by
  have hle : ∀ l : List Nat, (l.filter q).length <= (l.filter p).length := fun l => by
   induction l with
   | nil => exact Nat.le_refl _
   | cons b l ih =>
    simp only [List.filter_cons];cases hqb : q b with
    | true => rw [hqp b hqb]; simpa using ih
    | false => cases hpb : p b <;> simp <;> omega
  simp only [List.filter_cons];by_cases hai : a = i
  ·subst hai;rw [hp, hq];have := hle r;simp;omega
  ·have ih := filter_less r i ((List.mem_cons.1 h).resolve_left (fun e => hai e.symm)) hqp hp hq;cases hqa : q a with
   | true => rw [hqp a hqa]; simpa using ih
   | false => cases hpa : p a <;> simp <;> omega
theorem wpAnyH_relyF {J : (Nat -> Bool) -> Act -> World -> Prop} (R : List Nat) (base : Array Bool) (ht : topoB md ops base R = true) (hz : base.size = ops.size)
  (hS : ∀ d a w, J d a w -> S w) (hs : ∀ i ∈ R, StepR P md ops Q J i) (hd : ∀ d a w, (∀ i ∈ R, d i = true) -> J d a w -> Q .normal a w) :
  ∀ (fuel : Nat) (listed : Array Bool) (a : Act) (w : World), listed.size = ops.size -> (∀ j, base.getD j false = true -> listed.getD j false = true) -> leftN listed R <= fuel -> J (fun j => listed.getD j true) a w -> wpAnyH P md ops Q S fuel listed a w := by
 have hall : ∀ (listed : Array Bool) a w, listed.size = ops.size -> (∀ j, base.getD j false = true -> listed.getD j false = true) -> Region.ready md ops listed = [] -> J (fun j => listed.getD j true) a w -> Q .normal a w :=
  fun listed a w h1 h2 hr hJ => hd _ a w (topo_ready R base listed (by rw [h1, hz]) ht h2 hr) hJ
 have hR : ∀ (listed : Array Bool) (i : Nat), listed.size = ops.size -> (∀ j, base.getD j false = true -> listed.getD j false = true) -> i ∈ Region.ready md ops listed -> i ∈ R /\ i < listed.size /\ listed.getD i true = false /\ ∀ j ∈ depsL md ops i, listed.getD j true = true := by
  intro listed i h1 h2 hi;obtain ⟨hf, o, ho, ha⟩ := mem_ready.1 hi;have hlt : i < ops.size := (Array.getElem?_eq_some_iff.1 ho).1;refine ⟨topo_all R base ht i hlt ?_, by rw [h1]; exact hlt, hf, fun j hj => ?_⟩
  ·cases hb : base.getD i true with
   | false => rfl
   | true =>
    have h3 : base.getD i false = true := by rw [listed_same (by rw [hz]; exact hlt) false true]; exact hb
    have := h2 i h3;rw [listed_same (by rw [h1]; exact hlt) false true, hf] at this;cases this
  ·unfold depsL at hj;rw [ho] at hj;obtain ⟨e, he, rfl⟩ := List.mem_map.1 hj;obtain ⟨he1, he2⟩ := List.mem_filter.1 he;have h3 := ha e (Array.mem_toList_iff.1 he1) he2;rw [listed_same (listed_lt h3) true false];exact h3
 intro fuel
 induction fuel with
 | zero =>
  intro listed a w h1 h2 hn hJ;have hr : Region.ready md ops listed = [] := by
   rcases hq : Region.ready md ops listed with _ | ⟨i, r⟩
   ·rfl
   ·exfalso;obtain ⟨hm, _, hf, _⟩ := hR listed i h1 h2 (by rw [hq]; exact List.mem_cons_self);have : i ∈ R.filter (fun i => !listed.getD i true) := List.mem_filter.2 ⟨hm, by rw [hf]; rfl⟩;have := List.length_pos_of_mem this;unfold leftN at hn;omega
  exact ⟨hr, hall listed a w h1 h2 hr hJ⟩
 | succ fuel ih =>
  intro listed a w h1 h2 hn hJ;refine ⟨fun hr => hall listed a w h1 h2 hr hJ, fun i hi => ?_⟩;obtain ⟨hm, hlt, hf, hdp⟩ := hR listed i h1 h2 hi;refine wpOp_mono (fun b u hb => ⟨hS _ _ _ hb, ih _ b u (by simp [h1]) (fun j hj => ?_) ?_ ?_⟩) (hs i hm _ a w hf hdp hJ)
  ·rw [listed_put listed i j false hlt];split
   ·rfl
   ·exact h2 j hj
  ·have := filter_less (p := fun j => !listed.getD j true) (q := fun j => !(listed.setIfInBounds i true).getD j true) R i hm (fun j hj => by
    rw [listed_put listed i j true hlt] at hj;by_cases hji : j = i
    ·rw [if_pos hji] at hj; cases hj
    ·rw [if_neg hji] at hj; exact hj) (by rw [hf]; rfl) (by rw [listed_put listed i i true hlt, if_pos rfl]; rfl)
   unfold leftN at hn ⊢;omega
  ·rw [markD_eq listed i hlt];exact hb
def StepL (P : Program) (md : Region.Mode) (ops : Array Oper) (Q : Exit -> Act -> World -> Prop) (J : (Nat -> Bool) -> Act -> World -> Prop) (L i : Nat) : Prop :=
 ∀ d a w, d L = false -> d i = false -> (∀ j ∈ depsL md ops i, d j = true) -> J d a w -> wpOp P ops Q i (fun b u => J (markD d i) b u) a w
theorem StepL.intro {J : (Nat -> Bool) -> Act -> World -> Prop} {L : Nat} {o : Oper} {l : List Nat} (ho : ops[i]? = some o) (hl : depsL md ops i = l)
  (h : ∀ d a w (K : Act -> World -> Prop), Hid (∀ b u, J (markD d i) b u -> K b u) -> d L = false -> d i = false -> (∀ j ∈ l, d j = true) -> J d a w -> if Region.wanted o (yielded ops a.tmps) = true then Oper.wp P o a w K Q else K (a.put o.dst undef) w) : StepL P md ops Q J L i :=
 fun d a w hL hd hj hJ => wpOp_step ho (fun K hK => h d a w K (hide hK) hL hd (fun j hm => hj j (by rw [hl]; exact hm)) hJ)
theorem stepsL_nil {L : Nat} {J : (Nat -> Bool) -> Act -> World -> Prop} : ∀ i ∈ ([] : List Nat), StepL P md ops Q J L i := fun _ h => absurd h List.not_mem_nil
theorem stepsL_cons {L : Nat} {J : (Nat -> Bool) -> Act -> World -> Prop} {r : List Nat} (h : StepL P md ops Q J L i) (hr : ∀ i ∈ r, StepL P md ops Q J L i) : ∀ j ∈ i :: r, StepL P md ops Q J L j := fun j hj => by
 rcases List.mem_cons.1 hj with rfl | hj
 ·exact h
 ·exact hr j hj
theorem mark_absurd {d : Nat -> Bool} {C : Prop} (h : markD d i i = false) : C := by
 unfold markD at h;rw [Nat.beq_refl] at h;cases h
theorem not_true {b : Bool} (h : b = false) : ¬ b = true := by rw [h]; decide
def waits2 (md : Region.Mode) (ops : Array Oper) (R : List Nat) (L i : Nat) : Bool := (depsL md ops L).contains i || R.any fun j => (depsL md ops L).contains j && (depsL md ops j).contains i
theorem Ways.relyF {L : Nat} {J : (Nat -> Bool) -> Act -> World -> Prop} (R : List Nat) (base : Array Bool) (ht : topoB md ops base R = true) (hz : base.size = ops.size) (hw : (R.all fun i => Nat.beq i L || waits2 md ops R L i) = true)
  (hS : ∀ d a w, d L = false -> J d a w -> S w) (hs : ∀ i ∈ R, StepL P md ops Q J L i) (hd : ∀ d a w, (∀ i ∈ R, d i = true) -> J d a w -> Q .normal a w) :
  ∀ (fuel : Nat) (listed : Array Bool) (a : Act) (w : World), listed.size = ops.size -> (∀ j, base.getD j false = true -> listed.getD j false = true) -> leftN listed R <= fuel -> (∀ j ∈ R, listed.getD j true = true -> ∀ k ∈ depsL md ops j, listed.getD k true = true) -> (listed.getD L true = true -> ∀ i ∈ R, listed.getD i true = true) -> J (fun j => listed.getD j true) a w -> Ways P md ops Q S L fuel listed a w := by
 have hall : ∀ (listed : Array Bool) a w, listed.size = ops.size -> (∀ j, base.getD j false = true -> listed.getD j false = true) -> Region.ready md ops listed = [] -> J (fun j => listed.getD j true) a w -> Q .normal a w :=
  fun listed a w h1 h2 hr hJ => hd _ a w (topo_ready R base listed (by rw [h1, hz]) ht h2 hr) hJ
 have hR : ∀ (listed : Array Bool) (i : Nat), listed.size = ops.size -> (∀ j, base.getD j false = true -> listed.getD j false = true) -> i ∈ Region.ready md ops listed -> i ∈ R /\ i < listed.size /\ listed.getD i true = false /\ ∀ j ∈ depsL md ops i, listed.getD j true = true := by
  intro listed i h1 h2 hi;obtain ⟨hf, o, ho, ha⟩ := mem_ready.1 hi;have hlt : i < ops.size := (Array.getElem?_eq_some_iff.1 ho).1;refine ⟨topo_all R base ht i hlt ?_, by rw [h1]; exact hlt, hf, fun j hj => ?_⟩
  ·cases hb : base.getD i true with
   | false => rfl
   | true =>
    have h3 : base.getD i false = true := by rw [listed_same (by rw [hz]; exact hlt) false true]; exact hb
    have := h2 i h3;rw [listed_same (by rw [h1]; exact hlt) false true, hf] at this;cases this
  ·unfold depsL at hj;rw [ho] at hj;obtain ⟨e, he, rfl⟩ := List.mem_map.1 hj;obtain ⟨he1, he2⟩ := List.mem_filter.1 he;have h3 := ha e (Array.mem_toList_iff.1 he1) he2;rw [listed_same (listed_lt h3) true false];exact h3
 have hwd : ∀ (listed : Array Bool), (∀ j ∈ R, listed.getD j true = true -> ∀ k ∈ depsL md ops j, listed.getD k true = true) -> (∀ k ∈ depsL md ops L, listed.getD k true = true) -> ∀ i ∈ R, i ≠ L -> listed.getD i true = true := by
  intro listed hcl hdp i hi hne;have h1 := List.all_eq_true.1 hw i hi;have h2 : Nat.beq i L = false := by
   cases hb : Nat.beq i L with
   | false => rfl
   | true => exact absurd (Nat.eq_of_beq_eq_true hb) hne
  rw [h2, Bool.false_or] at h1;unfold waits2 at h1;rcases Bool.or_eq_true_iff.1 h1 with h1 | h1
  ·exact hdp i (List.contains_iff_mem.1 h1)
  ·obtain ⟨j, hj, h3⟩ := List.any_eq_true.1 h1;rw [Bool.and_eq_true] at h3;exact hcl j hj (hdp j (List.contains_iff_mem.1 h3.1)) i (List.contains_iff_mem.1 h3.2)
 intro fuel
 induction fuel with
 | zero =>
  intro listed a w h1 h2 hn _ _ hJ;have hr : Region.ready md ops listed = [] := by
   rcases hq : Region.ready md ops listed with _ | ⟨i, r⟩
   ·rfl
   ·exfalso;obtain ⟨hm, _, hf, _⟩ := hR listed i h1 h2 (by rw [hq]; exact List.mem_cons_self);have : i ∈ R.filter (fun i => !listed.getD i true) := List.mem_filter.2 ⟨hm, by rw [hf]; rfl⟩;have := List.length_pos_of_mem this;unfold leftN at hn;omega
  exact ⟨hr, hall listed a w h1 h2 hr hJ⟩
 | succ fuel ih =>
  intro listed a w h1 h2 hn hcl hl hJ;refine ⟨fun hr => hall listed a w h1 h2 hr hJ, fun i hi => ?_⟩;obtain ⟨hm, hlt, hf, hdp⟩ := hR listed i h1 h2 hi;have hLf : i ≠ L -> listed.getD L true = false := fun _ => by
   cases hb : listed.getD L true with
   | false => rfl
   | true =>
    have := hl hb i hm;rw [hf] at this;cases this
  refine wpOp_mono (fun b u hb => ⟨?_, ih _ b u (by simp [h1]) (fun j hj => ?_) ?_ (fun j hj hg k hk => ?_) (fun hg j hj => ?_) ?_⟩) (hs i hm _ a w (by by_cases hiL : i = L; exact hiL ▸ hf; exact hLf hiL) hf hdp hJ)
  ·by_cases hiL : i = L
   ·exact .inl hiL
   ·refine .inr (hS _ _ _ ?_ hb);unfold markD;have h2 : Nat.beq L i = false := by
     cases hb : Nat.beq L i with
     | false => rfl
     | true => exact absurd (Nat.eq_of_beq_eq_true hb).symm hiL
    rw [h2];exact hLf hiL
  ·rw [listed_put listed i j false hlt];split
   ·rfl
   ·exact h2 j hj
  ·have := filter_less (p := fun j => !listed.getD j true) (q := fun j => !(listed.setIfInBounds i true).getD j true) R i hm (fun j hj => by
    rw [listed_put listed i j true hlt] at hj;by_cases hji : j = i
    ·rw [if_pos hji] at hj; cases hj
    ·rw [if_neg hji] at hj; exact hj) (by rw [hf]; rfl) (by rw [listed_put listed i i true hlt, if_pos rfl]; rfl)
   unfold leftN at hn ⊢;omega
  ·rw [listed_put listed i j true hlt] at hg;rw [listed_put listed i k true hlt];by_cases hki : k = i
   ·rw [if_pos hki]
   ·rw [if_neg hki];by_cases hji : j = i
    ·subst hji;exact hdp k hk
    ·rw [if_neg hji] at hg;exact hcl j hj hg k hk
  ·rw [listed_put listed i L true hlt] at hg;rw [listed_put listed i j true hlt];by_cases hji : j = i
   ·rw [if_pos hji]
   ·rw [if_neg hji];by_cases hiL : L = i
    ·subst hiL;exact hwd listed hcl hdp j hj hji
    ·rw [if_neg hiL, hLf (fun e => hiL e.symm)] at hg;cases hg
  ·rw [markD_eq listed i hlt];exact hb
theorem Ways.rely {L : Nat} {a0 : Act} {w0 : World} {listed : Array Bool} {fuel : Nat} (R : List Nat) (Jf : Act -> (Nat -> Bool) -> Act -> World -> Prop) (ht : topoB md ops listed R = true) (hz : listed.size = ops.size) (hw : (R.all fun i => Nat.beq i L || waits2 md ops R L i) = true) (hn : leftN listed R <= fuel) (hl : listed.getD L true = false) (hR0 : (R.all fun i => !listed.getD i true) = true)
  (h0 : Jf a0 (fun j => listed.getD j true) a0 w0) (hS : ∀ d a w, d L = false -> Jf a0 d a w -> S w) (hs : ∀ i ∈ R, StepL P md ops Q (Jf a0) L i) (hd : ∀ d a w, (∀ i ∈ R, d i = true) -> Jf a0 d a w -> Q .normal a w) : Ways P md ops Q S L fuel listed a0 w0 :=
 Ways.relyF R listed ht hz hw hS hs hd fuel listed a0 w0 hz (fun _ h => h) hn (fun j hj h => by have := List.all_eq_true.1 hR0 j hj; rw [h] at this; cases this) (fun h => by rw [hl] at h; cases h) h0
end
section
variable {P : Program} {ops : Array Oper} {Q : Exit -> Act -> World -> Prop} {md : Region.Mode} {S : World -> Prop} {L : Nat}
def WaysT (P : Program) (md : Region.Mode) (ops : Array Oper) (Q : Exit -> Act -> World -> Prop) (S : World -> Prop) (L : Nat) : Nat -> Array Bool -> Act -> World -> Prop
 | 0, listed, a, w => Region.ready md ops listed = [] /\ Q .normal a w
 | fuel + 1, listed, a, w =>
  (Region.ready md ops listed = [] -> Q .normal a w) /\
  ∀ i ∈ Region.ready md ops listed, wpOp P ops Q i (fun b u => (i = L \/ listed.getD L false = true \/ S u) /\ WaysT P md ops Q S L fuel (listed.setIfInBounds i true) b u) a w
theorem WaysT.any : ∀ (fuel : Nat) (listed : Array Bool) (a : Act) (w : World), WaysT P md ops Q S L fuel listed a w -> wpAny P md ops Q fuel listed a w
 | 0, _, _, _, h => h
 | fuel + 1, _, _, _, h => ⟨h.1, fun i hi => wpOp_mono (fun b u hb => WaysT.any fuel _ b u hb.2) (h.2 i hi)⟩
def reachB (md : Region.Mode) (ops : Array Oper) : Nat -> Nat -> Nat -> Bool
 | 0, x, i => waits md ops x i
 | n + 1, x, i => waits md ops x i || ((ops[x]?).map fun o => o.after.any fun e => Region.binds md e && reachB md ops n e.on i).getD false
def closedB (md : Region.Mode) (ops : Array Oper) (listed : Array Bool) : Prop := ∀ j oj, ops[j]? = some oj -> listed.getD j false = true -> ∀ e ∈ oj.after, Region.binds md e = true -> listed.getD e.on false = true
def closedC (md : Region.Mode) (ops : Array Oper) (listed : Array Bool) : Bool := (List.range ops.size).all fun j => !listed.getD j false || ((ops[j]?).map fun o => o.after.all fun e => !Region.binds md e || listed.getD e.on false).getD true
theorem closed_spec {listed : Array Bool} (h : closedC md ops listed = true) : closedB md ops listed := by
 intro j oj hoj hl e he hb;unfold closedC at h;rw [List.all_eq_true] at h;have h1 := h j (List.mem_range.2 (Array.getElem?_eq_some_iff.1 hoj).1);rw [hl, hoj, Option.map_some, Option.getD_some] at h1;simp only [Bool.not_true, Bool.false_or] at h1;have h2 := Array.all_eq_true'.1 h1 e he;rw [hb] at h2;simpa using h2
theorem getD_set_true {listed : Array Bool} {j : Nat} (h : listed.getD i false = true) : (listed.setIfInBounds j true).getD i false = true := by
 rcases Decidable.em (j = i) with rfl | hne
 ·simp only [Array.getD_eq_getD_getElem?] at h ⊢;rcases hg : listed[j]? with _ | x
  ·rw [hg] at h; cases h
  ·have hlt : j < listed.size := (Array.getElem?_eq_some_iff.1 hg).1;simp [hlt]
 ·rw [getD_set_ne false hne]; exact h
theorem closed_step {listed : Array Bool} (h : closedB md ops listed) (hr : i ∈ Region.ready md ops listed) : closedB md ops (listed.setIfInBounds i true) := by
 intro j oj hoj hl e he hb;rcases Decidable.em (i = j) with rfl | hne
 ·obtain ⟨_, o2, ho2, hall⟩ := mem_ready.1 hr;rw [hoj] at ho2;cases ho2
  exact getD_set_true (hall e he hb)
 ·rw [getD_set_ne false hne] at hl;exact getD_set_true (h j oj hoj hl e he hb)
theorem waits_on {x : Nat} (h : waits md ops x i = true) : ∃ o, ops[x]? = some o /\ ∃ e ∈ o.after, Region.binds md e = true /\ e.on = i := by
 unfold waits at h;rcases ho : ops[x]? with _ | o
 ·rw [ho] at h; cases h
 ·rw [ho, Option.map_some, Option.getD_some] at h;obtain ⟨e, he, hb⟩ := Array.any_eq_true'.1 h;simp only [Bool.and_eq_true, beq_iff_eq] at hb;exact ⟨o, rfl, e, he, hb.1, hb.2⟩
theorem reach_listed {listed : Array Bool} (hc : closedB md ops listed) : ∀ (n x : Nat), reachB md ops n x i = true -> listed.getD x false = true -> listed.getD i false = true := by
 intro n
 induction n with
 | zero =>
  intro x h hx;obtain ⟨o, ho, e, he, hb, rfl⟩ := waits_on h;exact hc x o ho hx e he hb
 | succ n ih =>
  intro x h hx;unfold reachB at h;rcases (Bool.or_eq_true _ _).mp h with h | h
  ·obtain ⟨o, ho, e, he, hb, rfl⟩ := waits_on h;exact hc x o ho hx e he hb
  ·rcases ho : ops[x]? with _ | o
   ·rw [ho] at h; cases h
   ·rw [ho, Option.map_some, Option.getD_some] at h;obtain ⟨e, he, hb⟩ := Array.any_eq_true'.1 h;simp only [Bool.and_eq_true] at hb;exact ih e.on hb.2 (hc x o ho hx e he hb.1)
theorem reach_ready {listed : Array Bool} (hc : closedB md ops listed) (hw : reachB md ops n L i = true) (h0 : listed.getD i true = false) (hj : L ∈ Region.ready md ops listed) : False := by
 obtain ⟨_, o, ho, hall⟩ := mem_ready.1 hj;have hl : listed.getD i false = true := by
  cases n with
  | zero =>
   obtain ⟨o2, ho2, e, he, hb, rfl⟩ := waits_on hw;rw [ho] at ho2;cases ho2
   exact hall e he hb
  | succ n =>
   unfold reachB at hw;rcases (Bool.or_eq_true _ _).mp hw with h | h
   ·obtain ⟨o2, ho2, e, he, hb, rfl⟩ := waits_on h;rw [ho] at ho2;cases ho2
    exact hall e he hb
   ·rw [ho, Option.map_some, Option.getD_some] at h;obtain ⟨e, he, hb⟩ := Array.any_eq_true'.1 h;simp only [Bool.and_eq_true] at hb;exact reach_listed hc n e.on hb.2 (hall e he hb.1)
 exact not_listed h0 hl
theorem WaysT.first {oi : Oper} {v : Value} (hi : ops[i]? = some oi) (hsel : Region.noSelect ops = true) (hw : reachB md ops n L i = true)
  (hQ : ∀ c a w, Q (.panic c) (a.put oi.dst v) w -> Q (.panic c) a w) :
  ∀ (fuel : Nat) (listed : Array Bool) (a : Act) (w : World),
   (∀ j oj, ops[j]? = some oj -> j ≠ i -> listed.getD j true = false -> (∀ e ∈ oj.after, Region.binds md e = true -> e.on ≠ i) -> oi.apart ops oj = true) ->
   closedB md ops listed -> i ∈ Region.ready md ops listed -> ¬ listed.getD L false = true -> YieldsIf P ops S oi v a -> S w ->
   WaysT P md ops Q S L fuel (listed.setIfInBounds i true) (a.put oi.dst v) w -> WaysT P md ops Q S L (fuel + 1) listed a w := by
 intro fuel
 induction fuel with
 | zero =>
  intro listed a w _ _ hr hL hy hS H;refine ⟨fun h => absurd hr (by rw [h]; exact List.not_mem_nil), fun j hj => ?_⟩;rcases Decidable.em (j = i) with rfl | hji
  ·exact hy.wpOp hi hS ⟨.inr (.inr hS), H⟩
  ·have hm := ready_mono hj hji;rw [H.1] at hm;exact absurd hm List.not_mem_nil
 | succ fuel ih =>
  intro listed a w hfree hc hr hL hy hS H;refine ⟨fun h => absurd hr (by rw [h]; exact List.not_mem_nil), fun j hj => ?_⟩;rcases Decidable.em (j = i) with rfl | hji
  ·exact hy.wpOp hi hS ⟨.inr (.inr hS), H⟩
  ·have hun := (mem_ready.1 hr).1;have hjL : j ≠ L := fun e => reach_ready hc hw hun (e ▸ hj)
   obtain ⟨hju, oj, hoj, hall⟩ := mem_ready.1 hj;have hno : ∀ e ∈ oj.after, Region.binds md e = true -> e.on ≠ i := fun e he hb heq => not_listed hun (heq ▸ hall e he hb)
   have hiL : i ≠ L := fun e => reach_ready hc hw hun (e ▸ hr)
   have hLi : ¬ (listed.setIfInBounds i true).getD L false = true := by rw [getD_set_ne false hiL]; exact hL
   have hLj : ¬ (listed.setIfInBounds j true).getD L false = true := by rw [getD_set_ne false hjL]; exact hL
   refine wpOp_mono (fun b u hb => ?_) (wpOp_putIf hoj (hfree j oj hoj hji hju hno) (fun cs b => Region.noSelect_spec hsel i oi cs b hi) (fun cs b => Region.noSelect_spec hsel j oj cs b hoj) hQ hy (H.2 j (ready_mono hj hji)));obtain ⟨hyb, hSb, hWb⟩ := hb;have hSu : S u := (hSb.resolve_left hjL).resolve_left hLi;refine ⟨.inr (.inr hSu), ih _ b u (fun k ok hk hki hku => hfree k ok hk hki ?_) (closed_step hc hj) (ready_mono hr (Ne.symm hji)) hLj hyb hSu ?_⟩
   ·rcases Decidable.em (j = k) with rfl | hjk
    ·exact hju
    ·rwa [getD_set_ne true hjk] at hku
   ·rw [Array.setIfInBounds_comm _ _ hji];exact hWb
theorem WaysT.turn {o : Oper} {fuel : Nat} {listed : Array Bool} {a : Act} (hr : Region.ready md ops listed = [L]) (ho : ops[L]? = some o)
  (h : ∀ K : Act -> World -> Prop, Hid (∀ b u, WaysT P md ops Q S L fuel (listed.setIfInBounds L true) b u -> K b u) -> if Region.wanted o (yielded ops a.tmps) = true then Oper.wp P o a w K Q else K (a.put o.dst undef) w) :
  WaysT P md ops Q S L (fuel + 1) listed a w := by
 refine ⟨fun h0 => (by rw [hr] at h0; cases h0), fun j hj => ?_⟩;rw [hr, List.mem_singleton] at hj;subst hj;exact wpOp_step ho (fun K hK => h K (hide fun b u hW => hK b u ⟨.inl rfl, hW⟩))
theorem WaysT.then {o : Oper} {fuel : Nat} {listed : Array Bool} {a : Act} (hL : listed.getD L false = true) (hr : Region.ready md ops listed = [i]) (ho : ops[i]? = some o)
  (h : ∀ K : Act -> World -> Prop, Hid (∀ b u, WaysT P md ops Q S L fuel (listed.setIfInBounds i true) b u -> K b u) -> if Region.wanted o (yielded ops a.tmps) = true then Oper.wp P o a w K Q else K (a.put o.dst undef) w) :
  WaysT P md ops Q S L (fuel + 1) listed a w := by
 refine ⟨fun h0 => (by rw [hr] at h0; cases h0), fun j hj => ?_⟩;rw [hr, List.mem_singleton] at hj;subst hj;exact wpOp_step ho (fun K hK => h K (hide fun b u hW => hK b u ⟨.inr (.inl hL), hW⟩))
theorem WaysT.one {o : Oper} {fuel : Nat} {listed : Array Bool} {a : Act} (hr : Region.ready md ops listed = [i]) (ho : ops[i]? = some o)
  (h : ∀ K : Act -> World -> Prop, Hid (∀ b u, S u -> WaysT P md ops Q S L fuel (listed.setIfInBounds i true) b u -> K b u) -> if Region.wanted o (yielded ops a.tmps) = true then Oper.wp P o a w K Q else K (a.put o.dst undef) w) :
  WaysT P md ops Q S L (fuel + 1) listed a w := by
 refine ⟨fun h0 => (by rw [hr] at h0; cases h0), fun j hj => ?_⟩;rw [hr, List.mem_singleton] at hj;subst hj;exact wpOp_step ho (fun K hK => h K (hide fun b u hS hW => hK b u ⟨.inr (.inr hS), hW⟩))
theorem WaysT.done {fuel : Nat} {listed : Array Bool} {a : Act} (hr : Region.ready md ops listed = []) (h : Q .normal a w) : WaysT P md ops Q S L fuel listed a w := by
 cases fuel with
 | zero => exact ⟨hr, h⟩
 | succ n => exact ⟨fun _ => h, fun i hi => by rw [hr] at hi; cases hi⟩
theorem WaysT.start {id : Nat} {a : Act} (S : World -> Prop) (L n : Nat) (l : Array Bool) (hn : ops.size = n) (hl : Array.replicate n false = l) (hm : P.follows .mixedOrders = true) (h : WaysT P .any ops Q S L n l a w.drew) : (Code.region id ops true).wp P Q a w := by
 subst hn;subst hl;exact wp_region_any hm (WaysT.any _ _ _ _ h)
end
theorem tkT {P : Program} {ops : Array Oper} {md : Region.Mode} {Q : Exit -> Act -> World -> Prop} {S : World -> Prop} {L : Nat} (i : Nat) {x1 x2 x3 x4 x5 x6} {v : Value} {fuel : Nat} {listed : Array Bool} {a : Act} (hi : ops[i]? = some ⟨x1, x2, x3, x4, x5, x6⟩) (hS : S w)
  (hw : Region.wanted ⟨x1, x2, x3, x4, x5, x6⟩ (yielded ops a.tmps) = true) (hy : ∀ w, S w -> (execOp a.eval ⟨x1, x2, x3, x4, x5, x6⟩).run P w = .ok (.value v) w)
  (h : WaysT P md ops Q S L fuel (listed.setIfInBounds i true) (a.put x1 v) w) (hs : Region.noSelect ops = true := by kernel_rfl) (hl : reachB md ops 12 L i = true := by decide +kernel) (hf : Region.free md ops listed i = true := by kernel_rfl) (hr : (Region.ready md ops listed).contains i = true := by decide +kernel) (hL : ¬ listed.getD L false = true := by decide) (hc : closedC md ops listed = true := by decide +kernel)
  (hQ : ∀ c a w, Q (.panic c) (a.put x1 v) w -> Q (.panic c) a w := by exact fun _ _ _ h => h) : WaysT P md ops Q S L (fuel + 1) listed a w :=
 WaysT.first hi hs hl hQ fuel listed a w (Region.free_spec hi hf) (closed_spec hc) (by simpa using hr) hL (.inl ⟨hw, hy⟩) hS h
end Go.Proofs.YtedlibkkeegnaaaGreat
