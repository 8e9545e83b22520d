/- Lists of things by their names, rising: laid, taken away, found. It names nothing of the program. What a crash leaves, as lists. It names nothing of the program -/
import Derived.Test.YtedlibkkeegnaaaGreatRows
import Derived.Maps.Ext
import Derived.Sort.KeysCollected
namespace Go.Proofs.YtedlibkkeegnaaaGreat
open Go.RowKit Go.Maps Go.Sort
abbrev Str := List UInt8
section
variable {α β : Type}
def insK (x : Str × α) : List (Str × α) -> List (Str × α)
 | [] => [x]
 | y :: r => if bytesBefore x.1 y.1 then x :: y :: r else y :: insK x r
def delK (k : Str) (l : List (Str × α)) : List (Str × α) := l.filter fun p => !(p.1 == k)
def putK (k : Str) (a : α) (l : List (Str × α)) : List (Str × α) := insK (k, a) (delK k l)
def getK (k : Str) (l : List (Str × α)) : Option α := (l.find? fun p => p.1 == k).map (·.2)
def Rise (l : List (Str × α)) : Prop := l.Pairwise fun p q => bytesBefore p.1 q.1 = true
theorem before_ne {a b : Str} (h : bytesBefore a b = true) : a ≠ b := by
 rintro rfl;rw [WideAt.bytes_irrefl] at h;cases h
theorem mem_insK {x p : Str × α} : ∀ {l : List (Str × α)}, p ∈ insK x l ↔ p = x \/ p ∈ l
 | [] => by simp [insK]
 | y :: r => by
  unfold insK;split
  ·simp
  ·simp only [List.mem_cons, mem_insK (l := r)];constructor
   ·rintro (h | h | h) <;> simp [h]
   ·rintro (h | h | h) <;> simp [h]
theorem mem_delK {k : Str} {p : Str × α} {l : List (Str × α)} : p ∈ delK k l ↔ p ∈ l /\ p.1 ≠ k := by
 simp [delK]
theorem mem_putK {k : Str} {a : α} {p : Str × α} {l : List (Str × α)} : p ∈ putK k a l ↔ p = (k, a) \/ (p ∈ l /\ p.1 ≠ k) := by
 unfold putK;rw [mem_insK, mem_delK]
theorem delK_rise {k : Str} {l : List (Str × α)} (h : Rise l) : Rise (delK k l) := h.filter _
theorem insK_rise {x : Str × α} : ∀ {l : List (Str × α)}, Rise l -> (∀ p ∈ l, p.1 ≠ x.1) -> Rise (insK x l)
 | [], _, _ => by simp [insK, Rise]
 | y :: r, h, hne => by
  obtain ⟨h1, h2⟩ := List.pairwise_cons.1 h;unfold insK;split
  ·rename_i hb
   refine List.pairwise_cons.2 ⟨fun q hq => ?_, h⟩;rcases List.mem_cons.1 hq with rfl | hq
   ·exact hb
   ·exact WideShapes.bytes_trans _ _ _ hb (h1 q hq)
  ·rename_i hb
   have hyx : bytesBefore y.1 x.1 = true := by
    rcases WideAt.bytes_total x.1 y.1 (hne y (by simp)).symm with h' | h'
    ·exact absurd h' hb
    ·exact h'
   refine List.pairwise_cons.2 ⟨fun q hq => ?_, insK_rise h2 (fun p hp => hne p (by simp [hp]))⟩;rcases mem_insK.1 hq with rfl | hq
   ·exact hyx
   ·exact h1 q hq
theorem putK_rise {k : Str} {a : α} {l : List (Str × α)} (h : Rise l) : Rise (putK k a l) := insK_rise (delK_rise h) fun _ hp => (mem_delK.1 hp).2
theorem length_insK (x : Str × α) : ∀ l : List (Str × α), (insK x l).length = l.length + 1
 | [] => rfl
 | y :: r => by
  unfold insK;split
  ·rfl
  ·simp [length_insK x r]
theorem getK_mem {k : Str} {a : α} {l : List (Str × α)} (h : getK k l = some a) : (k, a) ∈ l := by
 unfold getK at h;rcases hf : l.find? (fun p => p.1 == k) with _ | p
 ·rw [hf] at h; cases h
 ·rw [hf] at h;simp only [Option.map_some, Option.some.injEq] at h;have h1 := List.find?_some hf;have h2 := List.mem_of_find?_eq_some hf;simp only [beq_iff_eq] at h1;subst h; subst h1;exact h2
theorem getK_none {k : Str} {l : List (Str × α)} (h : getK k l = none) : ∀ p ∈ l, p.1 ≠ k := by
 unfold getK at h;simp only [Option.map_eq_none_iff, List.find?_eq_none, beq_iff_eq] at h;exact h
theorem rise_inj {l : List (Str × α)} (h : Rise l) {p q : Str × α} (hp : p ∈ l) (hq : q ∈ l) (e : p.1 = q.1) : p = q := by
 induction l with
 | nil => cases hp
 | cons y r ih =>
  obtain ⟨h1, h2⟩ := List.pairwise_cons.1 h;rcases List.mem_cons.1 hp with ep | hp' <;> rcases List.mem_cons.1 hq with eq | hq'
  ·rw [ep, eq]
  ·rw [ep] at e; exact absurd e (before_ne (h1 q hq'))
  ·rw [eq] at e; exact absurd e.symm (before_ne (h1 p hp'))
  ·exact ih h2 hp' hq'
theorem mem_getK {k : Str} {a : α} {l : List (Str × α)} (hr : Rise l) (h : (k, a) ∈ l) : getK k l = some a := by
 rcases hg : getK k l with _ | b
 ·exact absurd rfl (getK_none hg _ h)
 ·have := rise_inj hr h (getK_mem hg) rfl;simp only [Prod.mk.injEq, true_and] at this;rw [this]
theorem delK_of_none {k : Str} {l : List (Str × α)} (h : getK k l = none) : delK k l = l := by
 have := getK_none h;unfold delK;rw [List.filter_eq_self];intro p hp;simp [this p hp]
theorem getK_put_same {k : Str} {a : α} {l : List (Str × α)} (h : Rise l) : getK k (putK k a l) = some a := mem_getK (putK_rise h) (mem_putK.2 (.inl rfl))
theorem getK_put_other {k j : Str} {a : α} {l : List (Str × α)} (h : Rise l) (hne : j ≠ k) : getK j (putK k a l) = getK j l := by
 rcases hg : getK j l with _ | b
 ·rcases hp : getK j (putK k a l) with _ | b
  ·rfl
  ·rcases mem_putK.1 (getK_mem hp) with e | ⟨hm, _⟩
   ·simp only [Prod.mk.injEq] at e;exact absurd e.1 hne
   ·exact absurd rfl (getK_none hg _ hm)
 ·exact mem_getK (putK_rise h) (mem_putK.2 (.inr ⟨getK_mem hg, hne⟩))
theorem getK_del_same {k : Str} {l : List (Str × α)} : getK k (delK k l) = none := by
 rcases hp : getK k (delK k l) with _ | b
 ·rfl
 ·exact absurd rfl (mem_delK.1 (getK_mem hp)).2
theorem getK_del_other {k j : Str} {l : List (Str × α)} (h : Rise l) (hne : j ≠ k) : getK j (delK k l) = getK j l := by
 rcases hg : getK j l with _ | b
 ·rcases hp : getK j (delK k l) with _ | b
  ·rfl
  ·exact absurd rfl (getK_none hg _ (mem_delK.1 (getK_mem hp)).1)
 ·exact mem_getK (delK_rise h) (mem_delK.2 ⟨getK_mem hg, hne⟩)
theorem rise_ext : ∀ {l m : List (Str × α)}, Rise l -> Rise m -> (∀ p, p ∈ l ↔ p ∈ m) -> l = m
 | [], [], _, _, _ => rfl
 | [], b :: m, _, _, h => by have := (h b).2 (by simp); simp at this
 | a :: l, [], _, _, h => by have := (h a).1 (by simp); simp at this
 | a :: l, b :: m, h1, h2, h => by
  obtain ⟨a1, a2⟩ := List.pairwise_cons.1 h1;obtain ⟨b1, b2⟩ := List.pairwise_cons.1 h2;have hab : a = b := by
   rcases List.mem_cons.1 ((h a).1 (by simp)) with e | ha
   ·exact e
   ·rcases List.mem_cons.1 ((h b).2 (by simp)) with e | hb
    ·exact e.symm
    ·have := WideShapes.bytes_trans _ _ _ (a1 b hb) (b1 a ha);rw [WideAt.bytes_irrefl] at this;cases this
  subst hab;rw [rise_ext a2 b2 (fun p => ⟨fun hp => by
   rcases List.mem_cons.1 ((h p).1 (by simp [hp])) with e | hp'
   ·exact absurd (congrArg Prod.fst e).symm (before_ne (a1 p hp))
   ·exact hp', fun hp => by
   rcases List.mem_cons.1 ((h p).2 (by simp [hp])) with e | hp'
   ·exact absurd (congrArg Prod.fst e).symm (before_ne (b1 p hp))
   ·exact hp'⟩)]
theorem putK_put (k : Str) (a b : α) {l : List (Str × α)} (h : Rise l) : putK k a (putK k b l) = putK k a l := by
 refine rise_ext (putK_rise (putK_rise h)) (putK_rise h) fun p => ?_
 simp only [mem_putK];constructor
 ·rintro (e | ⟨e | ⟨hp, hn⟩, hn'⟩)
  ·exact .inl e
  ·rw [e] at hn'; exact absurd rfl hn'
  ·exact .inr ⟨hp, hn⟩
 ·rintro (e | ⟨hp, hn⟩)
  ·exact .inl e
  ·exact .inr ⟨.inr ⟨hp, hn⟩, hn⟩
theorem putK_del (k : Str) (a : α) (l : List (Str × α)) : putK k a (delK k l) = putK k a l := by
 unfold putK delK;simp
def mapK (f : α -> β) (l : List (Str × α)) : List (Str × β) := l.map fun p => (p.1, f p.2)
theorem insK_map (f : α -> β) (k : Str) (a : α) : ∀ l : List (Str × α), mapK f (insK (k, a) l) = insK (k, f a) (mapK f l)
 | [] => rfl
 | y :: r => by
  by_cases h : bytesBefore k y.1 = true
  ·simp [insK, mapK, h]
  ·have := insK_map f k a r;unfold mapK at this;simp [insK, mapK, h, this]
theorem delK_map (f : α -> β) (k : Str) (l : List (Str × α)) : mapK f (delK k l) = delK k (mapK f l) := by
 unfold mapK delK;rw [List.filter_map]
 rfl
theorem putK_map (f : α -> β) (k : Str) (a : α) (l : List (Str × α)) : mapK f (putK k a l) = putK k (f a) (mapK f l) := by
 unfold putK;rw [insK_map, delK_map]
theorem getK_map (f : α -> β) (k : Str) (l : List (Str × α)) : getK k (mapK f l) = (getK k l).map f := by
 induction l with
 | nil => rfl
 | cons y r ih =>
  unfold getK mapK at *;by_cases h : (y.1 == k) = true
  ·simp [h]
  ·simp only [Bool.not_eq_true] at h;simp only [List.map_cons, List.find?_cons, h];exact ih
theorem rise_map (f : α -> β) {l : List (Str × α)} (h : Rise l) : Rise (mapK f l) := by
 unfold Rise mapK;rw [List.pairwise_map];exact h
theorem mapK_length (f : α -> β) (l : List (Str × α)) : (mapK f l).length = l.length := by simp [mapK]
def sumK (g : α -> Nat) (l : List (Str × α)) : Nat := (l.map fun p => g p.2).sum
theorem sumK_ins (g : α -> Nat) (x : Str × α) : ∀ l : List (Str × α), sumK g (insK x l) = sumK g l + g x.2
 | [] => by simp [sumK, insK]
 | y :: r => by
  unfold insK;split
  ·simp [sumK]; omega
  ·have := sumK_ins g x r;unfold sumK at *;simp only [List.map_cons, List.sum_cons, this];omega
theorem sumK_put (g : α -> Nat) (k : Str) (a : α) (l : List (Str × α)) : sumK g (putK k a l) = sumK g (delK k l) + g a := sumK_ins g _ _
theorem sumK_del (g : α -> Nat) (k : Str) : ∀ {l : List (Str × α)}, Rise l -> sumK g l = sumK g (delK k l) + ((getK k l).map g).getD 0
 | [], _ => rfl
 | y :: r, h => by
  obtain ⟨h1, h2⟩ := List.pairwise_cons.1 h;have ih := sumK_del g k h2;by_cases e : y.1 = k
  ·have hn : delK k (y :: r) = r := by
    unfold delK;rw [List.filter_cons];simp only [e, beq_self_eq_true, Bool.not_true, Bool.false_eq_true, if_false];rw [List.filter_eq_self];intro p hp;have := before_ne (h1 p hp);rw [e] at this;simp [this.symm]
   have hg : getK k (y :: r) = some y.2 := by unfold getK; simp [e]
   rw [hn, hg];simp [sumK]; omega
  ·have e' : (y.1 == k) = false := by simp [e]
   have hn : delK k (y :: r) = y :: delK k r := by unfold delK; rw [List.filter_cons]; simp [e]
   have hg : getK k (y :: r) = getK k r := by unfold getK; simp [e']
   rw [hn, hg];unfold sumK at *;simp only [List.map_cons, List.sum_cons];omega
theorem sumK_map (f : α -> β) (g : β -> Nat) (l : List (Str × α)) : sumK g (mapK f l) = sumK (fun a => g (f a)) l := by
 unfold sumK mapK;rw [List.map_map]
 rfl
theorem length_put {k : Str} {a : α} {l : List (Str × α)} (h : Rise l) : (putK k a l).length = if (getK k l).isSome then l.length else l.length + 1 := by
 have h1 : ∀ m : List (Str × α), sumK (fun _ => 1) m = m.length := fun m => by
  unfold sumK
  induction m with
  | nil => rfl
  | cons y r ih => simp only [List.map_cons, List.sum_cons, ih, List.length_cons]; omega
 have h2 := sumK_put (fun _ : α => 1) k a l;have h3 := sumK_del (fun _ : α => 1) k h;rw [h1] at h2 h3;rw [h2];rcases hg : getK k l with _ | b
 ·rw [hg] at h3; simp at h3 ⊢; omega
 ·rw [hg] at h3; simp at h3 ⊢; omega
end
/-! ### the map's datum -/
def strP {α : Type} (f : α -> Value) (X : List (Str × α)) : DataW Value := .map (X.map fun p => (.string p.1, .held (f p.2)))
def tok (v : Value) : Option (DataW Value × List MemPlace) := some (.held v, [])
section
variable {α : Type} (f : α -> Value)
theorem insert_str (k : Str) (a : α) : ∀ X : List (Str × α), DataW.insert (Lit.string k, DataW.held (f a)) (X.map fun p => (Lit.string p.1, DataW.held (f p.2))) = (insK (k, a) X).map fun p => (Lit.string p.1, DataW.held (f p.2))
 | [] => rfl
 | y :: r => by
  have ih := insert_str k a r;by_cases h : bytesBefore k y.1 = true
  ·simp [insK, DataW.insert, Lit.before, h]
  ·simp [insK, DataW.insert, Lit.before, h, ih]
theorem strike_str (k : Str) (X : List (Str × α)) : (X.map fun p => (Lit.string p.1, DataW.held (f p.2))).filter (fun p => !p.1.sameKey (.string k)) = (delK k X).map fun p => (Lit.string p.1, DataW.held (f p.2)) := by
 unfold delK;rw [List.filter_map]
 rfl
theorem strP_put (k : Str) (a : α) (X : List (Str × α)) : (strP f X).put (.string k) (.held (f a)) = strP f (putK k a X) := by
 unfold strP DataW.put putK;simp only;rw [strike_str, insert_str]
theorem strP_del (k : Str) (X : List (Str × α)) : (strP f X).del (.string k) = strP f (delK k X) := by
 unfold strP DataW.del;simp only;rw [strike_str]
theorem strP_at (k : Str) (z : DataW Value) : ∀ X : List (Str × α), (strP f X).atKey (.string k) z = ((getK k X).map fun a => DataW.held (f a)).getD z
 | [] => rfl
 | y :: r => by
  have ih := strP_at k z r;unfold strP DataW.atKey getK at ih ⊢;by_cases h : y.1 = k
  ·simp [Lit.sameKey, h]
  ·have h' : (y.1 == k) = false := by simp [h]
   simp only [List.map_cons, List.find?_cons, Lit.sameKey, h'] at ih ⊢;exact ih
theorem strP_has (k : Str) (X : List (Str × α)) : Maps.has (strP f X) (.string k) = (getK k X).isSome := by
 unfold strP getK;rw [Maps.has_eq, List.any_map];have : ((fun p : Lit × DataW Value => p.1.sameKey (.string k)) ∘ fun p : Str × α => (Lit.string p.1, DataW.held (f p.2))) = fun p : Str × α => p.1 == k := rfl
 rw [this]
 induction X with
 | nil => rfl
 | cons y r ih =>
  rw [List.any_cons, List.find?_cons];rcases (y.1 == k) <;> simp [ih]
theorem strP_size (X : List (Str × α)) : Maps.size (strP f X) = X.length := by simp [strP, Maps.size]
theorem strP_keys (X : List (Str × α)) : strKeys (strP f X) = X.map (·.1) := by
 unfold strP strKeys;simp [strOf, Function.comp_def]
end
theorem le_of_before : ∀ {a b : Str}, bytesBefore a b = true -> a <= b
 | [], [], h => by simp [bytesBefore] at h
 | [], _ :: _, _ => by simp
 | _ :: _, [], h => by simp [bytesBefore] at h
 | a :: r, b :: s, h => by
  simp only [bytesBefore, Bool.or_eq_true, Bool.and_eq_true, decide_eq_true_eq, beq_iff_eq] at h;rw [List.cons_le_cons_iff];rcases h with h | ⟨h1, h2⟩
  ·exact .inl h
  ·exact .inr ⟨h1, le_of_before h2⟩
theorem rise_sorted {α : Type} {X : List (Str × α)} (h : Rise X) {ss : List Str} (hp : ss.Perm (X.map (·.1))) : ss.mergeSort (fun x y => decide (x <= y)) = X.map (·.1) := by
 have h1 := mergeSort_of_perm hp
 show ss.mergeSort leB = _
 rw [h1];refine List.mergeSort_of_pairwise ?_;rw [List.pairwise_map];refine h.imp ?_;intro p q hpq;simpa [leB] using le_of_before hpq
end Go.Proofs.YtedlibkkeegnaaaGreat
namespace Go.Proofs.YtedlibkkeegnaaaGreat
def crash1 (draw j : Nat) (f : List Nat × Nat) : List Nat × Nat :=
 (f.1.take (f.2 + (draw % (f.1.length - f.2 + 1) + j) % (f.1.length - f.2 + 1)), f.2 + (draw % (f.1.length - f.2 + 1) + j) % (f.1.length - f.2 + 1))
def crashTo (draw n : Nat) (L : List (Str × (List Nat × Nat))) : List (Str × (List Nat × Nat)) := L.mapIdx fun j p => if j < n then (p.1, crash1 draw j p.2) else p
def crashD (draw : Nat) (L : List (Str × (List Nat × Nat))) : List (Str × (List Nat × Nat)) := L.mapIdx fun j p => (p.1, crash1 draw j p.2)
theorem crashTo_zero (draw : Nat) (L : List (Str × (List Nat × Nat))) : crashTo draw 0 L = L := by
 unfold crashTo;refine List.ext_getElem (by simp) fun i h1 h2 => ?_
 simp
theorem crashTo_all (draw : Nat) (L : List (Str × (List Nat × Nat))) : crashTo draw L.length L = crashD draw L := by
 unfold crashTo crashD;refine List.ext_getElem (by simp) fun i h1 h2 => ?_
 simp only [List.length_mapIdx] at h1;simp [h1]
theorem crashTo_length (draw n : Nat) (L : List (Str × (List Nat × Nat))) : (crashTo draw n L).length = L.length := by simp [crashTo]
theorem crashTo_keys (draw n : Nat) (L : List (Str × (List Nat × Nat))) : (crashTo draw n L).map (·.1) = L.map (·.1) := by
 unfold crashTo;refine List.ext_getElem (by simp) fun i h1 h2 => ?_
 simp only [List.getElem_map, List.getElem_mapIdx];split <;> rfl
theorem rise_keys {α β : Type} {l : List (Str × α)} {m : List (Str × β)} (h : Rise l) (e : m.map (·.1) = l.map (·.1)) : Rise m := by
 unfold Rise at *;have h1 : (l.map (·.1)).Pairwise (fun a b => bytesBefore a b = true) := by rw [List.pairwise_map]; exact h
 rw [<- e, List.pairwise_map] at h1;exact h1
theorem getK_at {α : Type} {l : List (Str × α)} (h : Rise l) (i : Nat) (hi : i < l.length) : getK l[i].1 l = some l[i].2 := mem_getK h (List.getElem_mem hi)
theorem putK_at {α : Type} {l : List (Str × α)} (h : Rise l) (i : Nat) (hi : i < l.length) (a : α) : putK l[i].1 a l = l.set i (l[i].1, a) := by
 have hs : Rise (l.set i (l[i].1, a)) := by
  refine rise_keys h ?_;refine List.ext_getElem (by simp) fun j h1 h2 => ?_
  simp only [List.getElem_map, List.getElem_set];split
  ·rename_i e; subst e; rfl
  ·rfl
 refine rise_ext (putK_rise h) hs fun p => ?_
 rw [mem_putK];constructor
 ·rintro (rfl | ⟨hp, hne⟩)
  ·exact List.mem_iff_getElem.2 ⟨i, by simpa using hi, by simp⟩
  ·obtain ⟨j, hj, rfl⟩ := List.mem_iff_getElem.1 hp;refine List.mem_iff_getElem.2 ⟨j, by simpa using hj, ?_⟩;rw [List.getElem_set_ne];rintro rfl;exact hne rfl
 ·intro hp;obtain ⟨j, hj, rfl⟩ := List.mem_iff_getElem.1 hp;rw [List.length_set] at hj;by_cases e : i = j
  ·subst e;left
   simp
  ·right
   rw [List.getElem_set_ne e];refine ⟨List.getElem_mem _, fun e2 => e ?_⟩;have h3 := rise_inj h (List.getElem_mem hi) (List.getElem_mem hj) e2.symm;rcases Nat.lt_trichotomy i j with hlt | heq | hlt
   ·have := List.pairwise_iff_getElem.1 h i j hi hj hlt;exact absurd e2.symm (before_ne this)
   ·exact heq
   ·have := List.pairwise_iff_getElem.1 h j i hj hi hlt;exact absurd e2 (before_ne this)
theorem crashTo_get (draw n : Nat) (L : List (Str × (List Nat × Nat))) (hr : Rise L) (hn : n < L.length) : getK L[n].1 (crashTo draw n L) = some L[n].2 := by
 have h1 := getK_at (rise_keys hr (crashTo_keys draw n L)) n (by rw [crashTo_length]; exact hn);have e : (crashTo draw n L)[n]'(by rw [crashTo_length]; exact hn) = L[n] := by simp [crashTo]
 rw [e] at h1;exact h1
theorem crashTo_step (draw n : Nat) (L : List (Str × (List Nat × Nat))) (hr : Rise L) (hn : n < L.length) : putK L[n].1 (crash1 draw n L[n].2) (crashTo draw n L) = crashTo draw (n + 1) L := by
 have hl : n < (crashTo draw n L).length := by rw [crashTo_length]; exact hn
 have h1 := putK_at (rise_keys hr (crashTo_keys draw n L)) n hl (crash1 draw n L[n].2);have e : (crashTo draw n L)[n] = L[n] := by simp [crashTo]
 rw [e] at h1;rw [h1];refine List.ext_getElem (by simp [crashTo]) fun j h2 h3 => ?_
 rw [List.getElem_set];split
 ·rename_i e; subst e
  simp [crashTo]
 ·rename_i e
  simp only [crashTo, List.getElem_mapIdx];by_cases h : j < n
  ·rw [if_pos h, if_pos (by omega)]
  ·rw [if_neg h, if_neg (by omega)]
theorem crash1_le (draw j : Nat) (f : List Nat × Nat) (h : f.2 <= f.1.length) : f.2 + (draw % (f.1.length - f.2 + 1) + j) % (f.1.length - f.2 + 1) <= f.1.length := by
 have := Nat.mod_lt (draw % (f.1.length - f.2 + 1) + j) (show f.1.length - f.2 + 1 > 0 by omega);omega
end Go.Proofs.YtedlibkkeegnaaaGreat
