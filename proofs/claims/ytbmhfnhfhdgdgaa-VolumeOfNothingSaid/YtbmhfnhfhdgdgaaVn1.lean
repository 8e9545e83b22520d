/- Lists of things by their names, rising: laid, taken away, found. It names nothing of the program. What a crash leaves, as lists. It names nothing of the program -/
import Derived.Test.YtbmhfnhfhdgdgaaRows
import Derived.Maps.Ext
import Derived.Sort.KeysCollected
namespace Go.Proofs.Ytbmhfnhfhdgdgaa
open Go.RowKit Go.Maps Go.Sort
abbrev Str := List UInt8
section
variable {α β : Type}
def insK (x : Str × α) : List (Str × α) -> List (Str × α)
 | [] => [x]
 | y :: r => if bytesBefore x.1 y.1 then x :: y :: r else y :: insK x r
def delK (k : Str) (l : List (Str × α)) : List (Str × α) := l.filter fun p => !(p.1 == k)
def putK (k : Str) (a : α) (l : List (Str × α)) : List (Str × α) := insK (k, a) (delK k l)
def getK (k : Str) (l : List (Str × α)) : Option α := (l.find? fun p => p.1 == k).map (·.2)
def Rise (l : List (Str × α)) : Prop := l.Pairwise fun p q => bytesBefore p.1 q.1 = true
theorem before_ne {a b : Str} (h : bytesBefore a b = true) : a ≠ b := by
 rintro rfl;rw [WideAt.bytes_irrefl] at h;cases h
theorem mem_insK {x p : Str × α} : ∀ {l : List (Str × α)}, p ∈ insK x l ↔ p = x \/ p ∈ l
 | [] => by simp [insK]
 | y :: r => by
  unfold insK;split
  ·simp
  ·simp only [List.mem_cons, mem_insK (l := r)];constructor
   ·rintro (h | h | h) <;> simp [h]
   ·rintro (h | h | h) <;> simp [h]
theorem mem_delK {k : Str} {p : Str × α} {l : List (Str × α)} : p ∈ delK k l ↔ p ∈ l /\ p.1 ≠ k := by
 simp [delK]
theorem mem_putK {k : Str} {a : α} {p : Str × α} {l : List (Str × α)} : p ∈ putK k a l ↔ p = (k, a) \/ (p ∈ l /\ p.1 ≠ k) := by
 unfold putK;rw [mem_insK, mem_delK]
theorem delK_rise {k : Str} {l : List (Str × α)} (h : Rise l) : Rise (delK k l) := h.filter _
theorem insK_rise {x : Str × α} : ∀ {l : List (Str × α)}, Rise l -> (∀ p ∈ l, p.1 ≠ x.1) -> Rise (insK x l)
 | [], _, _ => by simp [insK, Rise]
 | y :: r, h, hne => by
  obtain ⟨h1, h2⟩ := List.pairwise_cons.1 h;unfold insK;split
  ·rename_i hb
   refine List.pairwise_cons.2 ⟨fun q hq => ?_, h⟩;rcases List.mem_cons.1 hq with rfl | hq
   ·exact hb
   ·exact WideShapes.bytes_trans _ _ _ hb (h1 q hq)
  ·rename_i hb
   have hyx : bytesBefore y.1 x.1 = true := by
    rcases WideAt.bytes_total x.1 y.1 (hne y (by simp)).symm with h' | h'
    ·exact absurd h' hb
    ·exact h'
   refine List.pairwise_cons.2 ⟨fun q hq => ?_, insK_rise h2 (fun p hp => hne p (by simp [hp]))⟩;rcases mem_insK.1 hq with rfl | hq
   ·exact hyx
   ·exact h1 q hq
theorem putK_rise {k : Str} {a : α} {l : List (Str × α)} (h : Rise l) : Rise (putK k a l) := insK_rise (delK_rise h) fun _ hp => (mem_delK.1 hp).2
theorem getK_mem {k : Str} {a : α} {l : List (Str × α)} (h : getK k l = some a) : (k, a) ∈ l := by
 unfold getK at h;rcases hf : l.find? (fun p => p.1 == k) with _ | p
 ·rw [hf] at h; cases h
 ·rw [hf] at h;simp only [Option.map_some, Option.some.injEq] at h;have h1 := List.find?_some hf;have h2 := List.mem_of_find?_eq_some hf;simp only [beq_iff_eq] at h1;subst h; subst h1;exact h2
theorem getK_none {k : Str} {l : List (Str × α)} (h : getK k l = none) : ∀ p ∈ l, p.1 ≠ k := by
 unfold getK at h;simp only [Option.map_eq_none_iff, List.find?_eq_none, beq_iff_eq] at h;exact h
theorem delK_of_none {k : Str} {l : List (Str × α)} (h : getK k l = none) : delK k l = l := by
 have := getK_none h;unfold delK;rw [List.filter_eq_self];intro p hp;simp [this p hp]
def mapK (f : α -> β) (l : List (Str × α)) : List (Str × β) := l.map fun p => (p.1, f p.2)
theorem insK_map (f : α -> β) (k : Str) (a : α) : ∀ l : List (Str × α), mapK f (insK (k, a) l) = insK (k, f a) (mapK f l)
 | [] => rfl
 | y :: r => by
  by_cases h : bytesBefore k y.1 = true
  ·simp [insK, mapK, h]
  ·have := insK_map f k a r;unfold mapK at this;simp [insK, mapK, h, this]
theorem delK_map (f : α -> β) (k : Str) (l : List (Str × α)) : mapK f (delK k l) = delK k (mapK f l) := by
 unfold mapK delK;rw [List.filter_map]
 rfl
theorem putK_map (f : α -> β) (k : Str) (a : α) (l : List (Str × α)) : mapK f (putK k a l) = putK k (f a) (mapK f l) := by
 unfold putK;rw [insK_map, delK_map]
theorem getK_map (f : α -> β) (k : Str) (l : List (Str × α)) : getK k (mapK f l) = (getK k l).map f := by
 induction l with
 | nil => rfl
 | cons y r ih =>
  unfold getK mapK at *;by_cases h : (y.1 == k) = true
  ·simp [h]
  ·simp only [Bool.not_eq_true] at h;simp only [List.map_cons, List.find?_cons, h];exact ih
theorem rise_map (f : α -> β) {l : List (Str × α)} (h : Rise l) : Rise (mapK f l) := by
 unfold Rise mapK;rw [List.pairwise_map];exact h
theorem mapK_length (f : α -> β) (l : List (Str × α)) : (mapK f l).length = l.length := by simp [mapK]
def sumK (g : α -> Nat) (l : List (Str × α)) : Nat := (l.map fun p => g p.2).sum
theorem sumK_ins (g : α -> Nat) (x : Str × α) : ∀ l : List (Str × α), sumK g (insK x l) = sumK g l + g x.2
 | [] => by simp [sumK, insK]
 | y :: r => by
  unfold insK;split
  ·simp [sumK]; omega
  ·have := sumK_ins g x r;unfold sumK at *;simp only [List.map_cons, List.sum_cons, this];omega
theorem sumK_put (g : α -> Nat) (k : Str) (a : α) (l : List (Str × α)) : sumK g (putK k a l) = sumK g (delK k l) + g a := sumK_ins g _ _
theorem sumK_del (g : α -> Nat) (k : Str) : ∀ {l : List (Str × α)}, Rise l -> sumK g l = sumK g (delK k l) + ((getK k l).map g).getD 0
 | [], _ => rfl
 | y :: r, h => by
  obtain ⟨h1, h2⟩ := List.pairwise_cons.1 h;have ih := sumK_del g k h2;by_cases e : y.1 = k
  ·have hn : delK k (y :: r) = r := by
    unfold delK;rw [List.filter_cons];simp only [e, beq_self_eq_true, Bool.not_true, Bool.false_eq_true, if_false];rw [List.filter_eq_self];intro p hp;have := before_ne (h1 p hp);rw [e] at this;simp [this.symm]
   have hg : getK k (y :: r) = some y.2 := by unfold getK; simp [e]
   rw [hn, hg];simp [sumK]; omega
  ·have e' : (y.1 == k) = false := by simp [e]
   have hn : delK k (y :: r) = y :: delK k r := by unfold delK; rw [List.filter_cons]; simp [e]
   have hg : getK k (y :: r) = getK k r := by unfold getK; simp [e']
   rw [hn, hg];unfold sumK at *;simp only [List.map_cons, List.sum_cons];omega
theorem sumK_map (f : α -> β) (g : β -> Nat) (l : List (Str × α)) : sumK g (mapK f l) = sumK (fun a => g (f a)) l := by
 unfold sumK mapK;rw [List.map_map]
 rfl
theorem length_put {k : Str} {a : α} {l : List (Str × α)} (h : Rise l) : (putK k a l).length = if (getK k l).isSome then l.length else l.length + 1 := by
 have h1 : ∀ m : List (Str × α), sumK (fun _ => 1) m = m.length := fun m => by
  unfold sumK
  induction m with
  | nil => rfl
  | cons y r ih => simp only [List.map_cons, List.sum_cons, ih, List.length_cons]; omega
 have h2 := sumK_put (fun _ : α => 1) k a l;have h3 := sumK_del (fun _ : α => 1) k h;rw [h1] at h2 h3;rw [h2];rcases hg : getK k l with _ | b
 ·rw [hg] at h3; simp at h3 ⊢; omega
 ·rw [hg] at h3; simp at h3 ⊢; omega
end
/-! ### the map's datum -/
def strP {α : Type} (f : α -> Value) (X : List (Str × α)) : DataW Value := .map (X.map fun p => (.string p.1, .held (f p.2)))
def tok (v : Value) : Option (DataW Value × List MemPlace) := some (.held v, [])
section
variable {α : Type} (f : α -> Value)
theorem insert_str (k : Str) (a : α) : ∀ X : List (Str × α), DataW.insert (Lit.string k, DataW.held (f a)) (X.map fun p => (Lit.string p.1, DataW.held (f p.2))) = (insK (k, a) X).map fun p => (Lit.string p.1, DataW.held (f p.2))
 | [] => rfl
 | y :: r => by
  have ih := insert_str k a r;by_cases h : bytesBefore k y.1 = true
  ·simp [insK, DataW.insert, Lit.before, h]
  ·simp [insK, DataW.insert, Lit.before, h, ih]
theorem strike_str (k : Str) (X : List (Str × α)) : (X.map fun p => (Lit.string p.1, DataW.held (f p.2))).filter (fun p => !p.1.sameKey (.string k)) = (delK k X).map fun p => (Lit.string p.1, DataW.held (f p.2)) := by
 unfold delK;rw [List.filter_map]
 rfl
theorem strP_put (k : Str) (a : α) (X : List (Str × α)) : (strP f X).put (.string k) (.held (f a)) = strP f (putK k a X) := by
 unfold strP DataW.put putK;simp only;rw [strike_str, insert_str]
theorem strP_at (k : Str) (z : DataW Value) : ∀ X : List (Str × α), (strP f X).atKey (.string k) z = ((getK k X).map fun a => DataW.held (f a)).getD z
 | [] => rfl
 | y :: r => by
  have ih := strP_at k z r;unfold strP DataW.atKey getK at ih ⊢;by_cases h : y.1 = k
  ·simp [Lit.sameKey, h]
  ·have h' : (y.1 == k) = false := by simp [h]
   simp only [List.map_cons, List.find?_cons, Lit.sameKey, h'] at ih ⊢;exact ih
theorem strP_has (k : Str) (X : List (Str × α)) : Maps.has (strP f X) (.string k) = (getK k X).isSome := by
 unfold strP getK;rw [Maps.has_eq, List.any_map];have : ((fun p : Lit × DataW Value => p.1.sameKey (.string k)) ∘ fun p : Str × α => (Lit.string p.1, DataW.held (f p.2))) = fun p : Str × α => p.1 == k := rfl
 rw [this]
 induction X with
 | nil => rfl
 | cons y r ih =>
  rw [List.any_cons, List.find?_cons];rcases (y.1 == k) <;> simp [ih]
theorem strP_size (X : List (Str × α)) : Maps.size (strP f X) = X.length := by simp [strP, Maps.size]
end
end Go.Proofs.Ytbmhfnhfhdgdgaa
namespace Go.Proofs.Ytbmhfnhfhdgdgaa

end Go.Proofs.Ytbmhfnhfhdgdgaa
