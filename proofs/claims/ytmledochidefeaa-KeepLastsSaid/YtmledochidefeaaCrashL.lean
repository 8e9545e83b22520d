/- What a crash leaves, as lists. It names nothing of the program. -/
import Derived.Test.YtmledochidefeaaKeys
namespace Go.Proofs.Ytmledochidefeaa
def crash1 (draw j : Nat) (f : List Nat × Nat) : List Nat × Nat :=
  (f.1.take (f.2 + (draw % (f.1.length - f.2 + 1) + j) % (f.1.length - f.2 + 1)), f.2 + (draw % (f.1.length - f.2 + 1) + j) % (f.1.length - f.2 + 1))
/-- The first n files behind a crash, the others ahead of it. -/
def crashTo (draw n : Nat) (L : List (Str × (List Nat × Nat))) : List (Str × (List Nat × Nat)) := L.mapIdx fun j p => if j < n then (p.1, crash1 draw j p.2) else p
def crashD (draw : Nat) (L : List (Str × (List Nat × Nat))) : List (Str × (List Nat × Nat)) := L.mapIdx fun j p => (p.1, crash1 draw j p.2)
theorem crashTo_zero (draw : Nat) (L : List (Str × (List Nat × Nat))) : crashTo draw 0 L = L := by
  unfold crashTo
  refine List.ext_getElem (by simp) fun i h1 h2 => ?_
  simp
theorem crashTo_all (draw : Nat) (L : List (Str × (List Nat × Nat))) : crashTo draw L.length L = crashD draw L := by
  unfold crashTo crashD
  refine List.ext_getElem (by simp) fun i h1 h2 => ?_
  simp only [List.length_mapIdx] at h1
  simp [h1]
theorem crashTo_length (draw n : Nat) (L : List (Str × (List Nat × Nat))) : (crashTo draw n L).length = L.length := by simp [crashTo]
theorem crashTo_keys (draw n : Nat) (L : List (Str × (List Nat × Nat))) : (crashTo draw n L).map (·.1) = L.map (·.1) := by
  unfold crashTo
  refine List.ext_getElem (by simp) fun i h1 h2 => ?_
  simp only [List.getElem_map, List.getElem_mapIdx]
  split <;> rfl
theorem rise_keys {α β : Type} {l : List (Str × α)} {m : List (Str × β)} (h : Rise l) (e : m.map (·.1) = l.map (·.1)) : Rise m := by
  unfold Rise at *
  have h1 : (l.map (·.1)).Pairwise (fun a b => bytesBefore a b = true) := by rw [List.pairwise_map]; exact h
  rw [← e, List.pairwise_map] at h1
  exact h1
theorem getK_at {α : Type} {l : List (Str × α)} (h : Rise l) (i : Nat) (hi : i < l.length) : getK l[i].1 l = some l[i].2 := mem_getK h (List.getElem_mem hi)
theorem putK_at {α : Type} {l : List (Str × α)} (h : Rise l) (i : Nat) (hi : i < l.length) (a : α) : putK l[i].1 a l = l.set i (l[i].1, a) := by
  have hs : Rise (l.set i (l[i].1, a)) := by
    refine rise_keys h ?_
    refine List.ext_getElem (by simp) fun j h1 h2 => ?_
    simp only [List.getElem_map, List.getElem_set]
    split
    · rename_i e; subst e; rfl
    · rfl
  refine rise_ext (putK_rise h) hs fun p => ?_
  rw [mem_putK]
  constructor
  · rintro (rfl | ⟨hp, hne⟩)
    · exact List.mem_iff_getElem.2 ⟨i, by simpa using hi, by simp⟩
    · obtain ⟨j, hj, rfl⟩ := List.mem_iff_getElem.1 hp
      refine List.mem_iff_getElem.2 ⟨j, by simpa using hj, ?_⟩
      rw [List.getElem_set_ne]
      rintro rfl
      exact hne rfl
  · intro hp
    obtain ⟨j, hj, rfl⟩ := List.mem_iff_getElem.1 hp
    rw [List.length_set] at hj
    by_cases e : i = j
    · subst e
      left
      simp
    · right
      rw [List.getElem_set_ne e]
      refine ⟨List.getElem_mem _, fun e2 => e ?_⟩
      have h3 := rise_inj h (List.getElem_mem hi) (List.getElem_mem hj) e2.symm
      rcases Nat.lt_trichotomy i j with hlt | heq | hlt
      · have := List.pairwise_iff_getElem.1 h i j hi hj hlt
        exact absurd e2.symm (before_ne this)
      · exact heq
      · have := List.pairwise_iff_getElem.1 h j i hj hi hlt
        exact absurd e2 (before_ne this)
theorem crashTo_get (draw n : Nat) (L : List (Str × (List Nat × Nat))) (hr : Rise L) (hn : n < L.length) : getK L[n].1 (crashTo draw n L) = some L[n].2 := by
  have h1 := getK_at (rise_keys hr (crashTo_keys draw n L)) n (by rw [crashTo_length]; exact hn)
  have e : (crashTo draw n L)[n]'(by rw [crashTo_length]; exact hn) = L[n] := by simp [crashTo]
  rw [e] at h1
  exact h1
theorem crashTo_step (draw n : Nat) (L : List (Str × (List Nat × Nat))) (hr : Rise L) (hn : n < L.length) : putK L[n].1 (crash1 draw n L[n].2) (crashTo draw n L) = crashTo draw (n + 1) L := by
  have hl : n < (crashTo draw n L).length := by rw [crashTo_length]; exact hn
  have h1 := putK_at (rise_keys hr (crashTo_keys draw n L)) n hl (crash1 draw n L[n].2)
  have e : (crashTo draw n L)[n] = L[n] := by simp [crashTo]
  rw [e] at h1
  rw [h1]
  refine List.ext_getElem (by simp [crashTo]) fun j h2 h3 => ?_
  rw [List.getElem_set]
  split
  · rename_i e; subst e
    simp [crashTo]
  · rename_i e
    simp only [crashTo, List.getElem_mapIdx]
    by_cases h : j < n
    · rw [if_pos h, if_pos (by omega)]
    · rw [if_neg h, if_neg (by omega)]
theorem crash1_le (draw j : Nat) (f : List Nat × Nat) (h : f.2 ≤ f.1.length) : f.2 + (draw % (f.1.length - f.2 + 1) + j) % (f.1.length - f.2 + 1) ≤ f.1.length := by
  have := Nat.mod_lt (draw % (f.1.length - f.2 + 1) + j) (show f.1.length - f.2 + 1 > 0 by omega)
  omega
end Go.Proofs.Ytmledochidefeaa
