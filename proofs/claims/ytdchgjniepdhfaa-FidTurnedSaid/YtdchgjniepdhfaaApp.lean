/- Bytes as slice values, and the law of an append of bytes to a slice of the call's own, whatever the appended slice is (nil, empty or not). Conditions: the lengths together are below 2 to the 47. -/
import Derived.Test.YtdchgjniepdhfaaBytes
import Derived.Laws.AppendOwnNone
import Derived.OpenShut
namespace Go.Proofs.Ytdchgjniepdhfaa
open Go.RowKit
/-- A place at which the walk stops. -/
structure Halt (p : Prop) : Prop where
  out : p
theorem halt {p : Prop} (h : Halt p) : p := h.out
/-- The value is a slice that reads as these bytes. -/
def IsB (w : World) (v : Value) (xs : List Nat) : Prop := ∃ A c, v = .slice A xs.length c ∧ Rd w A xs ∧ (A = none → c = 0) ∧ xs.length ≤ c ∧ c ≤ 9223372036854775807
theorem Own.more {w : World} {B B' : Nat} {v : Value} {l : List Nat} (h : Own w B v l) (hb : B' ≤ B) : Own w B' v l := by
  unfold Own at h ⊢
  refine ⟨h.1, ?_⟩
  rcases h.2 with hn | ⟨g, cap, cur, hv, h1, r⟩
  · exact .inl hn
  · exact .inr ⟨g, cap, cur, hv, by omega, r⟩
theorem add_off (b off j : Nat) : (⟨b, off, none⟩ : Addr).add j = ⟨b, off + j, none⟩ := by
  unfold Addr.add; split <;> simp_all
theorem Own.isB {w : World} {B : Nat} {v : Value} {xs : List Nat} (h : Own w B v xs) : IsB w v xs := by
  unfold Own at h
  rcases h.2 with ⟨rfl, hn⟩ | ⟨g, cap, cur, rfl, _, _, c1, c2, _⟩
  · refine ⟨none, 0, by rw [hn], fun hne => ?_, fun _ => rfl, by omega, by decide⟩
    exact absurd (List.eq_nil_of_length_eq_zero hn) hne
  · refine ⟨_, _, rfl, fun _ => ⟨g, 0, rfl, fun i hi => ?_⟩, (fun h => by cases h), c1, by unfold maxLen at c2; omega⟩
    rw [Nat.zero_add, h.cellAt i (by omega)]
    simp [hi]
theorem IsB.keep {w w' : World} {v : Value} {xs : List Nat} (h : IsB w v xs) (hb : Below w.heap.size w w') : IsB w' v xs := by
  obtain ⟨A, c, e, hr, hn⟩ := h
  exact ⟨A, c, e, hr.below hb, hn⟩
theorem Try.info_u8' : (Try.prog.info? 5).map (fun i => (i.zero, i.size, i.bytes)) = some (some (.int .u8 0), 1, 1) := by kernel_rfl
theorem wpList_append_bytes {w : World} {ops : Array Oper} {rest : List Oper} {o : Oper} {a : Act} {Q : Exit → Act → World → Prop} (hgd : o.guard = none) (s x : Operand)
    (ho : o.op = .call { callee := .builtin .append, args := #[s, x], argTypes := #[40, 40] })
    (B : Nat) (v : Value) (xs : List Nat) (hs : a.eval s = v) (hown : Own w B v xs)
    (u : Value) (ys : List Nat) (hx : a.eval x = u) (hr : IsB w u ys)
    (hlen : xs.length + ys.length ≤ 140737488355328) (hbase : B ≤ w.heap.size)
    (h : ∀ v' w', Own w' B v' (xs ++ ys) → Below B w w' → wpList Try.prog ops Q rest (a.put o.dst v') w') : wpList Try.prog ops Q (o :: rest) a w := by
  obtain ⟨i0, hi, hz0, hz1, hz2⟩ := info_parts Try.info_u8'
  obtain ⟨A, c, rfl, hr, hn, _⟩ := hr
  have fin : ∀ v' w', w'.ownsRow B 5 1 v' (xs.length + ys.length) ((xs.map fun x : Nat => Value.int .u8 (x : Int)) ++ (ys.map fun x : Nat => Value.int .u8 (x : Int))) → w.grownBy w' v.ownBlock → wpList Try.prog ops Q rest (a.put o.dst v') w' := by
    intro v' w' hown' hg
    refine h v' w' (by unfold Own; simpa using hown') ((Below.refl _ _).grown hg hbase fun k hk => (hown.lt k hk).1)
  rcases A with _ | ad
  · have h0 := hn rfl
    subst h0
    have hys : ys = [] := by
      rcases ys with _ | ⟨y, ys⟩
      · rfl
      · obtain ⟨_, _, e, _⟩ := hr (by simp)
        cases e
    subst hys
    exact wpList_append_own_none hgd s x _ ho B 5 i0 1 Try.underlying40 hi v _ _ hs hown hx (fin v w (by simpa [Own] using hown) (World.grownBy.refl w _))
  · refine wpList_append_own w hgd s x _ ho B 5 i0 (.int .u8 0) 1 1 Try.underlying40 hi hz0 hz1 hz2 rfl (by decide) v _ _ hs hown ad ys.length c (ys.map fun x : Nat => Value.int .u8 (x : Int)) hx (by simp) ?_ ?_ (by unfold maxLen; omega) (by omega) hbase (fun v' w' h1 h2 _ => fin v' w' h1 h2)
    · intro j u hu
      have hj : j < ys.length := by
        rcases Nat.lt_or_ge j ys.length with h | h
        · exact h
        · simp [h] at hu
      obtain ⟨b, off, e, hc⟩ := hr (by intro e; rw [e] at hj; simp at hj)
      cases e
      have := hc j hj
      simp [hj] at hu
      subst hu
      simpa [add_off, hj] using this
    · intro u hu
      simp at hu
      obtain ⟨y, _, rfl⟩ := hu
      rfl
/-- What the walk is told of a slice of integers that came in. -/
def IsRow (k : IntKind) (w : World) (a : Option Addr) (len cap : Nat) (zs : List Int) : Prop :=
  (a = none ∧ len = 0 ∧ cap = 0 ∧ zs = []) ∨
  ∃ x, a = some x ∧ len ≤ cap ∧ cap ≤ maxLen ∧ zs.length = cap ∧ (∀ i, i < zs.length → w.cell? (x.add i) = some (.int k (zs.getD i 0))) ∧ ∀ n ∈ zs, (Lit.int k n).wf = true
/-- Bytes that came in read as bytes. -/
theorem IsRow.isB {w : World} {a : Option Addr} {len cap : Nat} {zs : List Int} (h : IsRow .u8 w a len cap zs) :
    ∃ xs : List Nat, xs.length = len ∧ (∀ x ∈ xs, x < 256) ∧ IsB w (.slice a len cap) xs ∧ len ≤ 9223372036854775807 := by
  rcases h with ⟨rfl, rfl, rfl, rfl⟩ | ⟨x, rfl, h1, h2, h3, hc, hw⟩
  · exact ⟨[], rfl, by simp, ⟨none, 0, rfl, fun h => absurd rfl h, fun _ => rfl, by decide, by decide⟩, by decide⟩
  · have hb : ∀ z ∈ zs, 0 ≤ z ∧ z ≤ 255 := fun z hz => bounds_u8 (hw z hz)
    refine ⟨(zs.take len).map Int.toNat, by simp; omega, ?_, ⟨some x, cap, by congr 1; simp; omega, ?_, (fun h => by cases h), by simp; omega, by unfold maxLen at h2; omega⟩, by unfold maxLen at h2; omega⟩
    · intro y hy
      simp only [List.mem_map] at hy
      obtain ⟨z, hz, rfl⟩ := hy
      have := hb z (List.mem_of_mem_take hz)
      omega
    · intro hne
      have hl : 0 < zs.length := by
        rcases zs with _ | ⟨z, zs⟩
        · simp at hne
        · simp
      obtain ⟨b, off, sp⟩ := x
      have hs0 := hc 0 hl
      have hsp : sp = none := by simpa [Addr.add] using World.cell?_spot hs0
      subst hsp
      refine ⟨b, off, rfl, fun i hi => ?_⟩
      have hi2 : i < len ∧ i < zs.length := by simp at hi; omega
      have := hc i hi2.2
      rw [add_off] at this
      rw [this]
      have hz := hb zs[i] (List.getElem_mem hi2.2)
      simp [hi2.1, hi2.2]
      omega
theorem IsB.drewN {w : World} {v : Value} {xs : List Nat} (h : IsB w v xs) (d : Nat) : IsB (w.drewN d) v xs := h
theorem IsB.rd {w : World} {A : Option Addr} {n c : Nat} {xs : List Nat} (h : IsB w (.slice A n c) xs) : Rd w A xs := by
  obtain ⟨A', c', e, r, _⟩ := h
  cases e
  exact r
theorem IsB.form {w : World} {v : Value} {xs : List Nat} {n : Nat} (h : IsB w v xs) (hn : xs.length = n) : ∃ A c, v = .slice A n c ∧ IsB w (.slice A n c) xs ∧ n ≤ c ∧ c ≤ 9223372036854775807 := by
  subst hn
  obtain ⟨A, c, e, r, h1, h2, h3⟩ := h
  exact ⟨A, c, e, ⟨A, c, rfl, r, h1, h2, h3⟩, h2, h3⟩
theorem byte_app {xs ys : List Nat} (h1 : ∀ x ∈ xs, x < 256) (h2 : ∀ x ∈ ys, x < 256) : ∀ x ∈ xs ++ ys, x < 256 := by
  intro x hx
  rcases List.mem_append.1 hx with h | h
  · exact h1 x h
  · exact h2 x h
theorem below_step {w a b : World} (h : Below w.heap.size w a) (k : Below a.heap.size a b) : Below w.heap.size w b := h.trans (k.mono h.size)
theorem below_draw {w a : World} (h : Below w.heap.size w a) (d : Nat) : Below w.heap.size w (a.drewN d) := below_drewN h d
theorem own_lit (w : World) (cs : Array Value) (xs : List Nat) (h : cs.toList = xs.map fun x : Nat => Value.int .u8 (x : Int)) (hl : xs.length ≤ 140737488355328) :
    Own (w.alloc (.cells cs 5)) w.heap.size (.slice (some ⟨w.heap.size, 0, none⟩) xs.length xs.length) xs := by
  have hs : cs.size = xs.length := by rw [← Array.length_toList, h]; simp
  have := World.ownsRow_lit (base := w.heap.size) (e := 5) (size := 1) w cs xs.length (Nat.le_refl _) (by unfold maxLen; omega) (by omega)
  rw [h] at this
  exact this
/-- A beginning of bytes. -/
theorem IsB.take {w : World} {A : Option Addr} {n c : Nat} {xs : List Nat} (h : IsB w (.slice A n c) xs) (k : Nat) (hk : k ≤ n) : IsB w (.slice A k c) (xs.take k) := by
  obtain ⟨A', c', e, r, h1, h2, h3⟩ := h
  cases e
  have hl : (xs.take k).length = k := by rw [List.length_take]; omega
  refine ⟨A, c, by rw [hl], ?_, h1, by omega, h3⟩
  intro hne
  obtain ⟨b, off, e, hc⟩ := r (by intro e; rw [e] at hne; simp at hne)
  refine ⟨b, off, e, fun i hi => ?_⟩
  have hi2 : i < k := by omega
  rw [hc i (by omega)]
  congr 2
  simp [hi2]
/-- Bytes that were handed in read the same where only what is new has been written. -/
theorem isB_new (w : World) (cs : Array Value) (xs : List Nat) (hl : cs.toList = xs.map fun x : Nat => Value.int .u8 (x : Int)) (h : xs.length ≤ 140737488355328) (b n : Nat) (hb : b = w.heap.size) (hn : n = xs.length) :
    IsB (w.alloc (.cells cs 5)) (.slice (some ⟨b, 0, none⟩) n n) xs := by
  subst hb; subst hn
  exact ⟨_, _, rfl, rd_new _ _ _ _ _ _ rfl hl, (fun h => by cases h), Nat.le_refl _, by omega⟩
theorem rd_at {w : World} {b off : Nat} {xs : List Nat} (h : ∀ i, i < xs.length → w.cell? ⟨b, off + i, none⟩ = some (.int .u8 ((xs.getD i 0 : Nat) : Int))) (hb : ∀ x ∈ xs, x < 256) (i : Nat) (hi : i < xs.length) :
    ∃ x : Nat, w.cell? ⟨b, off + i, none⟩ = some (.int .u8 (x : Int)) ∧ x < 256 ∧ x = xs.getD i 0 := by
  refine ⟨_, h i hi, ?_, rfl⟩
  have e : xs.getD i 0 = xs[i] := by simp [hi]
  rw [e]
  exact hb _ (List.getElem_mem hi)
end Go.Proofs.Ytdchgjniepdhfaa
