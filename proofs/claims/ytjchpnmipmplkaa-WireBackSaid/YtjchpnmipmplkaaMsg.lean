/- What a message's bytes are, without a program: written, read number by number with an error that stays, there and back. No condition but the document's own bounds. -/
import Derived.Test.YtjchpnmipmplkaaPure
import Derived.Test.YtjchpnmipmplkaaZig
namespace Go.Proofs.Ytjchpnmipmplkaa
open Go.RowKit
abbrev Mess := Nat × Nat × Nat × List Int × List Nat
def bodyL (m : Mess) : List Nat := uvl m.1 ++ uvl m.2.1 ++ uvl m.2.2.1 ++ uvl m.2.2.2.1.length ++ (m.2.2.2.1.map fun z => uvl (zigS z).toNat).flatten ++ uvl m.2.2.2.2.length ++ m.2.2.2.2
structure ValidM (m : Mess) : Prop where
  f : m.1 ≤ 2147483647
  t : m.2.1 ≤ 2147483647
  k : m.2.2.1 ≤ 2147483647
  n : m.2.2.2.1.length ≤ 64
  z : ∀ z ∈ m.2.2.2.1, -9223372036854775808 ≤ z ∧ z < 9223372036854775808
  d : m.2.2.2.2.length ≤ 1047552
def numL (b : List Nat) : Option (Nat × List Nat) := if (rvl 0 0 b).2.2 = 0 then some ((rvl 0 0 b).1, b.drop (rvl 0 0 b).2.1) else none
theorem numL_app (v : Nat) (r : List Nat) (h : v < 18446744073709551616) : numL (uvl v ++ r) = some (v, r) := by
  unfold numL
  rw [rvl_uvl r v 0 0 (by decide) (by simpa using h) (Or.inl rfl), if_pos rfl]
  simp
theorem numL_inv {b r : List Nat} {v : Nat} (hb : ∀ x ∈ b, x < 256) (h : numL b = some (v, r)) : b = uvl v ++ r ∧ v < 18446744073709551616 := by
  unfold numL at h
  have hl := rvl_le b 0 0 (by decide) (by decide)
  obtain ⟨a, m, e, he⟩ : ∃ a m e, rvl 0 0 b = (a, m, e) := ⟨_, _, _, rfl⟩
  rw [he] at h hl
  by_cases h0 : e = 0
  · subst h0
    rw [if_pos rfl] at h
    simp only [Option.some.injEq, Prod.mk.injEq] at h
    obtain ⟨rfl, rfl⟩ := h
    obtain ⟨u, hv, _, hx, hm⟩ := rvl_inv b 0 0 a m hb (by decide) he
    have hu : a = u := by simpa using hv
    subst hu
    exact ⟨hx, hl.1⟩
  · rw [if_neg h0] at h; cases h
def rnum : Option (List Nat) → Nat × Option (List Nat)
  | none => (0, none)
  | some b => match numL b with | none => (0, none) | some (v, r) => (v, some r)
theorem rnum_none : rnum none = (0, none) := rfl
theorem rnum_bad {b : List Nat} (h : numL b = none) : rnum (some b) = (0, none) := by simp only [rnum, h]
theorem rnum_ok {b r : List Nat} {v : Nat} (h : numL b = some (v, r)) : rnum (some b) = (v, some r) := by simp only [rnum, h]
theorem rnum_lt (s : Option (List Nat)) : (rnum s).1 < 18446744073709551616 := by
  rcases s with _ | b
  · decide
  · rcases h : numL b with _ | ⟨v, r⟩
    · rw [rnum_bad h]; decide
    · rw [rnum_ok h]
      unfold numL at h
      have hl := rvl_le b 0 0 (by decide) (by decide)
      by_cases h0 : (rvl 0 0 b).2.2 = 0
      · rw [if_pos h0] at h; cases h; exact hl.1
      · rw [if_neg h0] at h; cases h
def rup (most : Nat) (s : Option (List Nat)) : Nat × Option (List Nat) := if (rnum s).1 ≤ most then rnum s else (0, none)
def rsig (s : Option (List Nat)) : Int × Option (List Nat) := (zagS ((rnum s).1 : Int), (rnum s).2)
def rsigs : Nat → Option (List Nat) → List Int × Option (List Nat)
  | 0, s => ([], s)
  | n + 1, s => ((rsig s).1 :: (rsigs n (rsig s).2).1, (rsigs n (rsig s).2).2)
def rdat (s : Option (List Nat)) : List Nat × Option (List Nat) :=
  match (rup 1047552 s).2 with
  | none => ([], none)
  | some b => if (rup 1047552 s).1 = b.length then (b, some []) else ([], none)
def rmsg (p : List Nat) : Mess × Option (List Nat) :=
  (((rup 2147483647 (some p)).1, (rup 2147483647 (rup 2147483647 (some p)).2).1, (rup 2147483647 (rup 2147483647 (rup 2147483647 (some p)).2).2).1,
    (rsigs (rup 64 (rup 2147483647 (rup 2147483647 (rup 2147483647 (some p)).2).2).2).1 (rup 64 (rup 2147483647 (rup 2147483647 (rup 2147483647 (some p)).2).2).2).2).1,
    (rdat (rsigs (rup 64 (rup 2147483647 (rup 2147483647 (rup 2147483647 (some p)).2).2).2).1 (rup 64 (rup 2147483647 (rup 2147483647 (rup 2147483647 (some p)).2).2).2).2).2).1),
   (rdat (rsigs (rup 64 (rup 2147483647 (rup 2147483647 (rup 2147483647 (some p)).2).2).2).1 (rup 64 (rup 2147483647 (rup 2147483647 (rup 2147483647 (some p)).2).2).2).2).2).2)
theorem rmsg_of {p : List Nat} {f t k n : Nat} {s1 s2 s3 s4 s5 s6 : Option (List Nat)} {zs : List Int} {d : List Nat} (h1 : rup 2147483647 (some p) = (f, s1)) (h2 : rup 2147483647 s1 = (t, s2)) (h3 : rup 2147483647 s2 = (k, s3)) (h4 : rup 64 s3 = (n, s4)) (h5 : rsigs n s4 = (zs, s5)) (h6 : rdat s5 = (d, s6)) : rmsg p = ((f, t, k, zs, d), s6) := by
  unfold rmsg
  simp only [h1, h2, h3, h4, h5, h6]
theorem rup_app (most v : Nat) (r : List Nat) (h : v ≤ most) (hv : v < 18446744073709551616) : rup most (some (uvl v ++ r)) = (v, some r) := by
  unfold rup
  rw [rnum_ok (numL_app v r hv), if_pos h]
theorem rup_inv {most v : Nat} {b r : List Nat} (hb : ∀ x ∈ b, x < 256) (h : rup most (some b) = (v, some r)) : b = uvl v ++ r ∧ v ≤ most := by
  unfold rup at h
  split at h
  · rename_i hm
    rcases hn : numL b with _ | ⟨v', r'⟩
    · rw [rnum_bad hn] at h; cases h
    · rw [rnum_ok hn] at h hm
      cases h
      exact ⟨(numL_inv hb hn).1, hm⟩
  · cases h
theorem rup_none (most : Nat) : rup most none = (0, none) := by unfold rup; rw [rnum_none]; simp
theorem rup_le (most : Nat) (s : Option (List Nat)) : (rup most s).1 ≤ most := by
  unfold rup
  split
  · assumption
  · exact Nat.zero_le _
theorem rdat_none : rdat none = ([], none) := by unfold rdat; rw [rup_none]
theorem rsigs_len (n : Nat) : ∀ s, (rsigs n s).1.length = n := by
  induction n with
  | zero => intro s; rfl
  | succ n ih => intro s; unfold rsigs; simp [ih]
theorem rsigs_none (n : Nat) : (rsigs n none).2 = none := by
  induction n with
  | zero => rfl
  | succ n ih => show (rsigs n (rsig none).2).2 = none; exact ih
theorem zag_wf (u : Nat) (h : u < 18446744073709551616) : -9223372036854775808 ≤ zagS (u : Int) ∧ zagS (u : Int) < 9223372036854775808 := by unfold zagS; split <;> omega
theorem zig_wf (z : Int) (h : -9223372036854775808 ≤ z ∧ z < 9223372036854775808) : 0 ≤ zigS z ∧ zigS z < 18446744073709551616 := by unfold zigS; split <;> omega
theorem rsigs_wf (n : Nat) : ∀ s, ∀ z ∈ (rsigs n s).1, -9223372036854775808 ≤ z ∧ z < 9223372036854775808 := by
  induction n with
  | zero => intro s z hz; simp [rsigs] at hz
  | succ n ih =>
    intro s z hz
    unfold rsigs at hz
    rcases List.mem_cons.1 hz with rfl | hz
    · exact zag_wf _ (rnum_lt s)
    · exact ih _ z hz
theorem rsigs_app : ∀ (zs : List Int) (r : List Nat), (∀ z ∈ zs, -9223372036854775808 ≤ z ∧ z < 9223372036854775808) → rsigs zs.length (some ((zs.map fun z => uvl (zigS z).toNat).flatten ++ r)) = (zs, some r) := by
  intro zs
  induction zs with
  | nil => intro r _; rfl
  | cons z zs ih =>
    intro r hz
    have h1 := zig_wf z (hz z (by simp))
    have e : rsig (some (((z :: zs).map fun z => uvl (zigS z).toNat).flatten ++ r)) = (z, some ((zs.map fun z => uvl (zigS z).toNat).flatten ++ r)) := by
      unfold rsig
      rw [List.map_cons, List.flatten_cons, List.append_assoc, rnum_ok (numL_app _ _ (by omega))]
      have e2 : (((zigS z).toNat : Nat) : Int) = zigS z := by omega
      simp only [e2, zag_zig]
    rw [List.length_cons]
    unfold rsigs
    rw [e]
    simp only [ih r (fun y hy => hz y (List.mem_cons_of_mem _ hy))]
theorem rsigs_inv : ∀ (n : Nat) (b r : List Nat), (∀ x ∈ b, x < 256) → (rsigs n (some b)).2 = some r → b = ((rsigs n (some b)).1.map fun z => uvl (zigS z).toNat).flatten ++ r := by
  intro n
  induction n with
  | zero => intro b r _ h; simp only [rsigs] at h ⊢; cases h; rfl
  | succ n ih =>
    intro b r hb h
    unfold rsigs at h ⊢
    rcases hn : numL b with _ | ⟨v, r'⟩
    · have e : rsig (some b) = (0, none) := by unfold rsig; rw [rnum_bad hn]; rfl
      rw [e] at h
      rw [rsigs_none] at h
      cases h
    · have e : rsig (some b) = (zagS (v : Int), some r') := by unfold rsig; rw [rnum_ok hn]
      obtain ⟨hbv, hv⟩ := numL_inv hb hn
      rw [e] at h ⊢
      have := ih r' r (fun x hx => hb x (by rw [hbv]; exact List.mem_append_right _ hx)) h
      rw [List.map_cons, List.flatten_cons, List.append_assoc, ← this, zig_zag _ (by omega), Int.toNat_natCast]
      exact hbv
theorem rdat_app (d : List Nat) (h : d.length ≤ 1047552) : rdat (some (uvl d.length ++ d)) = (d, some []) := by
  unfold rdat
  rw [rup_app _ _ _ h (by omega)]
  simp
theorem rdat_inv {b d r : List Nat} (hb : ∀ x ∈ b, x < 256) (h : rdat (some b) = (d, some r)) : b = uvl d.length ++ d ∧ d.length ≤ 1047552 := by
  unfold rdat at h
  rcases hu : rup 1047552 (some b) with ⟨v, _ | r'⟩
  · rw [hu] at h; cases h
  · rw [hu] at h
    simp only at h
    obtain ⟨hbv, hv⟩ := rup_inv hb hu
    by_cases hl : v = r'.length
    · rw [if_pos hl] at h
      cases h
      subst hl
      exact ⟨hbv, hv⟩
    · rw [if_neg hl] at h; cases h
/-- What was written is read as it. -/
theorem rmsg_back (m : Mess) (h : ValidM m) : rmsg (bodyL m) = (m, some []) := by
  obtain ⟨f, t, k, zs, d⟩ := m
  obtain ⟨hf, ht, hk, hn, hz, hd⟩ := h
  simp only at hf ht hk hn hz hd
  have e : bodyL (f, t, k, zs, d) = uvl f ++ (uvl t ++ (uvl k ++ (uvl zs.length ++ ((zs.map fun z => uvl (zigS z).toNat).flatten ++ (uvl d.length ++ d))))) := by unfold bodyL; simp
  rw [e]
  exact rmsg_of (rup_app _ _ _ hf (by omega)) (rup_app _ _ _ ht (by omega)) (rup_app _ _ _ hk (by omega)) (rup_app _ _ _ hn (by omega)) (rsigs_app zs _ hz) (rdat_app d hd)
/-- What is read as a message was written as it. -/
theorem rmsg_inv {p r : List Nat} {m : Mess} (hb : ∀ x ∈ p, x < 256) (h : rmsg p = (m, some r)) : ValidM m ∧ p = bodyL m ∧ ∀ x ∈ m.2.2.2.2, x < 256 := by
  obtain ⟨f, s1, h1⟩ : ∃ f s1, rup 2147483647 (some p) = (f, s1) := ⟨_, _, rfl⟩
  obtain ⟨t, s2, h2⟩ : ∃ t s2, rup 2147483647 s1 = (t, s2) := ⟨_, _, rfl⟩
  obtain ⟨k, s3, h3⟩ : ∃ k s3, rup 2147483647 s2 = (k, s3) := ⟨_, _, rfl⟩
  obtain ⟨n, s4, h4⟩ : ∃ n s4, rup 64 s3 = (n, s4) := ⟨_, _, rfl⟩
  obtain ⟨zs, s5, h5⟩ : ∃ zs s5, rsigs n s4 = (zs, s5) := ⟨_, _, rfl⟩
  obtain ⟨d, s6, h6⟩ : ∃ d s6, rdat s5 = (d, s6) := ⟨_, _, rfl⟩
  rw [rmsg_of h1 h2 h3 h4 h5 h6] at h
  cases h
  rcases s5 with _ | p5
  · rw [rdat_none] at h6; cases h6
  rcases s4 with _ | p4
  · have := rsigs_none n; rw [h5] at this; cases this
  rcases s3 with _ | p3
  · rw [rup_none] at h4; cases h4
  rcases s2 with _ | p2
  · rw [rup_none] at h3; cases h3
  rcases s1 with _ | p1
  · rw [rup_none] at h2; cases h2
  have up : ∀ {a b c : List Nat}, a = b ++ c → (∀ x ∈ a, x < 256) → ∀ x ∈ c, x < 256 := fun e h x hx => h x (by rw [e]; exact List.mem_append_right _ hx)
  obtain ⟨e1, l1⟩ := rup_inv hb h1
  have b1 := up e1 hb
  obtain ⟨e2, l2⟩ := rup_inv b1 h2
  have b2 := up e2 b1
  obtain ⟨e3, l3⟩ := rup_inv b2 h3
  have b3 := up e3 b2
  obtain ⟨e4, l4⟩ := rup_inv b3 h4
  have b4 := up e4 b3
  have e5 := rsigs_inv n p4 p5 b4 (by rw [h5])
  have hlen := rsigs_len n (some p4)
  have hwf := rsigs_wf n (some p4)
  rw [h5] at e5 hlen hwf
  simp only at e5 hlen hwf
  have b5 := up e5 b4
  obtain ⟨e6, l6⟩ := rdat_inv b5 h6
  have b6 := up e6 b5
  refine ⟨⟨l1, l2, l3, by show zs.length ≤ 64; omega, hwf, l6⟩, ?_, b6⟩
  unfold bodyL
  simp only [hlen]
  rw [e1, e2, e3, e4, e5, e6]
  simp
def zeroM : Mess := (0, 0, 0, [], [])
/-- What bytes begin with: the message, how many bytes it takes, the error. -/
def wdecL (b : List Nat) : Mess × Nat × Nat :=
  if (decL b).2.2 ≠ 0 then (zeroM, 0, (decL b).2.2)
  else match (rmsg (decL b).1).2 with
  | none => (zeroM, 0, 3)
  | some _ => ((rmsg (decL b).1).1, (decL b).2.1, 0)
theorem wdecL_err {b p : List Nat} {n e : Nat} (h : decL b = (p, n, e)) (he : e ≠ 0) : wdecL b = (zeroM, 0, e) := by unfold wdecL; rw [h, if_pos he]
theorem wdecL_bad {b p : List Nat} {n : Nat} {m : Mess} (h : decL b = (p, n, 0)) (hm : rmsg p = (m, none)) : wdecL b = (zeroM, 0, 3) := by unfold wdecL; rw [h]; simp only [hm]; simp
theorem wdecL_ok {b p r : List Nat} {n : Nat} {m : Mess} (h : decL b = (p, n, 0)) (hm : rmsg p = (m, some r)) : wdecL b = (m, n, 0) := by unfold wdecL; rw [h]; simp only [hm]; simp
theorem bodyL_len (m : Mess) (h : ValidM m) : (bodyL m).length ≤ 1048576 := by
  obtain ⟨f, t, k, zs, d⟩ := m
  obtain ⟨hf, ht, hk, hn, hz, hd⟩ := h
  simp only at hf ht hk hn hz hd
  have l1 := uvl_len64 f (by omega)
  have l2 := uvl_len64 t (by omega)
  have l3 := uvl_len64 k (by omega)
  have l4 := uvl_len64 zs.length (by omega)
  have l6 := uvl_len64 d.length (by omega)
  have l5 : ∀ l : List Int, (∀ z ∈ l, -9223372036854775808 ≤ z ∧ z < 9223372036854775808) → (l.map fun z => uvl (zigS z).toNat).flatten.length ≤ 10 * l.length := by
    intro l
    induction l with
    | nil => intro _; simp
    | cons z l ih =>
      intro hz
      have h1 := zig_wf z (hz z (by simp))
      have := ih fun y hy => hz y (List.mem_cons_of_mem _ hy)
      have := uvl_len64 (zigS z).toNat (by omega)
      rw [List.map_cons, List.flatten_cons, List.length_append, List.length_cons]
      omega
  have l5 := l5 zs hz
  unfold bodyL
  simp only [List.length_append]
  omega
theorem bodyL_byte (m : Mess) (h : ∀ x ∈ m.2.2.2.2, x < 256) : ∀ x ∈ bodyL m, x < 256 := by
  unfold bodyL
  refine byte_app (byte_app (byte_app (byte_app (byte_app (byte_app (uvl_byte _) (uvl_byte _)) (uvl_byte _)) (uvl_byte _)) ?_) (uvl_byte _)) h
  intro x hx
  simp only [List.mem_flatten, List.mem_map] at hx
  obtain ⟨l, ⟨z, _, rfl⟩, hx⟩ := hx
  exact uvl_byte _ x hx
end Go.Proofs.Ytjchpnmipmplkaa
