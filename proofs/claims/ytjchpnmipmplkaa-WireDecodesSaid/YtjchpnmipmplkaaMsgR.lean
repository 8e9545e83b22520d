/- The document's own way to read a message, without a program: so many numbers, once and again; it comes to the same. No condition. -/
import Derived.Test.YtjchpnmipmplkaaMsg
namespace Go.Proofs.Ytjchpnmipmplkaa
open Go.RowKit
def numsL : Nat → List Nat → Option (List Nat × List Nat)
  | 0, b => some ([], b)
  | n + 1, b => match numL b with
    | none => none
    | some (v, r) => match numsL n r with
      | none => none
      | some (l, r') => some (v :: l, r')
theorem numsL_bad {n : Nat} {b : List Nat} (h : numL b = none) : numsL (n + 1) b = none := by simp only [numsL, h]
theorem numsL_step {n v : Nat} {b r : List Nat} (h : numL b = some (v, r)) : numsL (n + 1) b = (numsL n r).map fun x => (v :: x.1, x.2) := by
  simp only [numsL, h]
  rcases numsL n r with _ | ⟨l, r'⟩ <;> rfl
theorem numsL_app : ∀ (us r : List Nat), (∀ u ∈ us, u < 18446744073709551616) → numsL us.length ((us.map uvl).flatten ++ r) = some (us, r) := by
  intro us
  induction us with
  | nil => intro r _; rfl
  | cons u us ih =>
    intro r hu
    rw [List.length_cons, List.map_cons, List.flatten_cons, List.append_assoc, numsL_step (numL_app u _ (hu u (by simp))), ih r (fun x hx => hu x (List.mem_cons_of_mem _ hx))]
    rfl
theorem numsL_inv : ∀ (n : Nat) (b us r : List Nat), (∀ x ∈ b, x < 256) → numsL n b = some (us, r) → b = (us.map uvl).flatten ++ r ∧ us.length = n ∧ (∀ u ∈ us, u < 18446744073709551616) ∧ (∀ x ∈ r, x < 256) ∧ r.length ≤ b.length := by
  intro n
  induction n with
  | zero =>
    intro b us r hb h
    simp only [numsL, Option.some.injEq, Prod.mk.injEq] at h
    obtain ⟨rfl, rfl⟩ := h
    exact ⟨rfl, rfl, by simp, hb, Nat.le_refl _⟩
  | succ n ih =>
    intro b us r hb h
    rcases hn : numL b with _ | ⟨v, r'⟩
    · rw [numsL_bad hn] at h; cases h
    · obtain ⟨hbv, hv⟩ := numL_inv hb hn
      rw [numsL_step hn] at h
      rcases hl : numsL n r' with _ | ⟨l, r2⟩
      · rw [hl] at h; cases h
      · rw [hl] at h
        simp only [Option.map_some, Option.some.injEq, Prod.mk.injEq] at h
        obtain ⟨rfl, rfl⟩ := h
        obtain ⟨e, hln, hlu, hr, hle⟩ := ih r' l r2 (fun x hx => hb x (by rw [hbv]; exact List.mem_append_right _ hx)) hl
        refine ⟨?_, by rw [List.length_cons, hln], ?_, hr, ?_⟩
        · rw [List.map_cons, List.flatten_cons, List.append_assoc, ← e]
          exact hbv
        · intro u hu
          rcases List.mem_cons.1 hu with rfl | hu
          · exact hv
          · exact hlu u hu
        · have := congrArg List.length hbv
          rw [List.length_append] at this
          omega
/-- Of bytes that are a message the numbers are there, and within their bounds. -/
theorem ref_chain {p : List Nat} {m : Mess} {r : List Nat} (hb : ∀ x ∈ p, x < 256) (h : rmsg p = (m, some r)) :
    ∃ r1, numsL 4 p = some ([m.1, m.2.1, m.2.2.1, m.2.2.2.1.length], r1) ∧ ∃ us, numsL m.2.2.2.1.length r1 = some (us, uvl m.2.2.2.2.length ++ m.2.2.2.2) ∧ numsL 1 (uvl m.2.2.2.2.length ++ m.2.2.2.2) = some ([m.2.2.2.2.length], m.2.2.2.2) ∧ ValidM m := by
  obtain ⟨hv, hp, _⟩ := rmsg_inv hb h
  obtain ⟨f, t, k, zs, d⟩ := m
  have hv0 := hv
  obtain ⟨hf, ht, hk, hn, hz, hd⟩ := hv
  simp only at hf ht hk hn hz hd
  refine ⟨(zs.map fun z => uvl (zigS z).toNat).flatten ++ (uvl d.length ++ d), ?_, zs.map fun z => (zigS z).toNat, ?_, ?_, hv0⟩
  · have e : p = ([f, t, k, zs.length].map uvl).flatten ++ ((zs.map fun z => uvl (zigS z).toNat).flatten ++ (uvl d.length ++ d)) := by rw [hp]; unfold bodyL; simp
    rw [e]
    exact numsL_app [f, t, k, zs.length] _ (by intro u hu; simp at hu; omega)
  · have e := numsL_app (zs.map fun z => (zigS z).toNat) (uvl d.length ++ d) (by
      intro u hu
      simp only [List.mem_map] at hu
      obtain ⟨z, hz1, rfl⟩ := hu
      have := zig_wf z (hz z hz1)
      omega)
    rw [List.length_map, List.map_map] at e
    exact e
  · have e := numsL_app [d.length] d (by intro u hu; simp at hu; omega)
    simpa using e
theorem ref_bad1 {p : List Nat} (hb : ∀ x ∈ p, x < 256) (h : numsL 4 p = none) : (rmsg p).2 = none := by
  rcases hm : rmsg p with ⟨m, _ | r⟩
  · rfl
  · obtain ⟨r1, h1, _⟩ := ref_chain hb hm
    rw [h] at h1; cases h1
theorem ref_bad2 {p r1 : List Nat} {a b c n : Nat} (hb : ∀ x ∈ p, x < 256) (h : numsL 4 p = some ([a, b, c, n], r1)) (hbad : 2147483647 < a ∨ 2147483647 < b ∨ 2147483647 < c ∨ 64 < n) : (rmsg p).2 = none := by
  rcases hm : rmsg p with ⟨m, _ | r⟩
  · rfl
  · obtain ⟨r1', h1, _, _, _, hv⟩ := ref_chain hb hm
    rw [h] at h1
    simp only [Option.some.injEq, Prod.mk.injEq, List.cons.injEq] at h1
    have h1f := hv.f; have h1t := hv.t; have h1k := hv.k; have h1n := hv.n
    omega
theorem ref_bad3 {p r1 : List Nat} {a b c n : Nat} (hb : ∀ x ∈ p, x < 256) (h : numsL 4 p = some ([a, b, c, n], r1)) (h2 : numsL n r1 = none) : (rmsg p).2 = none := by
  rcases hm : rmsg p with ⟨m, _ | r⟩
  · rfl
  · obtain ⟨r1', h1, us, hu, _⟩ := ref_chain hb hm
    rw [h] at h1
    simp only [Option.some.injEq, Prod.mk.injEq, List.cons.injEq] at h1
    obtain ⟨⟨_, _, _, hn, _⟩, rfl⟩ := h1
    rw [← hn, h2] at hu
    cases hu
theorem ref_bad4 {p r1 r2 us : List Nat} {a b c n : Nat} (hb : ∀ x ∈ p, x < 256) (h : numsL 4 p = some ([a, b, c, n], r1)) (h2 : numsL n r1 = some (us, r2)) (h3 : numsL 1 r2 = none) : (rmsg p).2 = none := by
  rcases hm : rmsg p with ⟨m, _ | r⟩
  · rfl
  · obtain ⟨r1', h1, us', hu, hd, _⟩ := ref_chain hb hm
    rw [h] at h1
    simp only [Option.some.injEq, Prod.mk.injEq, List.cons.injEq] at h1
    obtain ⟨⟨_, _, _, hn, _⟩, rfl⟩ := h1
    rw [← hn, h2] at hu
    simp only [Option.some.injEq, Prod.mk.injEq] at hu
    rw [hu.2, hd] at h3
    cases h3
theorem ref_bad5 {p r1 r2 r3 us : List Nat} {a b c n d : Nat} (hb : ∀ x ∈ p, x < 256) (h : numsL 4 p = some ([a, b, c, n], r1)) (h2 : numsL n r1 = some (us, r2)) (h3 : numsL 1 r2 = some ([d], r3)) (hbad : d ≠ r3.length ∨ 1047552 < r3.length) : (rmsg p).2 = none := by
  rcases hm : rmsg p with ⟨m, _ | r⟩
  · rfl
  · obtain ⟨r1', h1, us', hu, hd, hv⟩ := ref_chain hb hm
    rw [h] at h1
    simp only [Option.some.injEq, Prod.mk.injEq, List.cons.injEq] at h1
    obtain ⟨⟨_, _, _, hn, _⟩, rfl⟩ := h1
    rw [← hn, h2] at hu
    simp only [Option.some.injEq, Prod.mk.injEq] at hu
    rw [hu.2, hd] at h3
    simp only [Option.some.injEq, Prod.mk.injEq, List.cons.injEq] at h3
    obtain ⟨⟨rfl, _⟩, rfl⟩ := h3
    have := hv.d
    rcases hbad with h | h
    · exact absurd rfl h
    · omega
theorem ref_ok {p r1 r2 r3 us : List Nat} {a b c n d : Nat} (hb : ∀ x ∈ p, x < 256) (h : numsL 4 p = some ([a, b, c, n], r1)) (h2 : numsL n r1 = some (us, r2)) (h3 : numsL 1 r2 = some ([d], r3)) (ha : a ≤ 2147483647) (hbb : b ≤ 2147483647) (hc : c ≤ 2147483647) (hn : n ≤ 64) (hd : d = r3.length) (hl : r3.length ≤ 1047552) :
    rmsg p = ((a, b, c, us.map fun u : Nat => zagS (u : Int), r3), some []) := by
  obtain ⟨e1, _, _, b1, _⟩ := numsL_inv 4 p _ _ hb h
  obtain ⟨e2, l2, u2, b2, _⟩ := numsL_inv n r1 us r2 b1 h2
  obtain ⟨e3, _, _, _, _⟩ := numsL_inv 1 r2 _ _ b2 h3
  have hmm : (us.map fun u : Nat => zagS (u : Int)).map (fun z => uvl (zigS z).toNat) = us.map uvl := by
    rw [List.map_map]
    apply List.map_congr_left
    intro u _
    show uvl (zigS (zagS (u : Int))).toNat = uvl u
    rw [zig_zag _ (by omega), Int.toNat_natCast]
  have hp : p = bodyL (a, b, c, us.map fun u : Nat => zagS (u : Int), r3) := by
    unfold bodyL
    simp only [hmm, List.length_map, l2]
    rw [e1, e2, e3, hd]
    simp
  have hv : ValidM (a, b, c, us.map fun u : Nat => zagS (u : Int), r3) := ⟨ha, hbb, hc, by simp only [List.length_map]; omega, by
    intro z hz
    simp only [List.mem_map] at hz
    obtain ⟨u, hu, rfl⟩ := hz
    exact zag_wf u (u2 u hu), hl⟩
  rw [hp]
  exact rmsg_back _ hv
end Go.Proofs.Ytjchpnmipmplkaa
