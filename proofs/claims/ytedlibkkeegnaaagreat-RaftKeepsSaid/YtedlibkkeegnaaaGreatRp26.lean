/- The program's log beside the document's, as lists: what keeps them so. It names nothing of the program but the disk's lists. -/
import Derived.Test.YtedlibkkeegnaaaGreatRp13
import Derived.Test.YtedlibkkeegnaaaGreatRp25
namespace Go.Proofs.YtedlibkkeegnaaaGreat
open Go.RowKit Go.Maps
variable {L : DiskL} {M : LogL} {P : PLog} {room n i : Nat}
def freshP (P : PLog) : Bool := match P.segs.getLast? with
 | none => true
 | some x => decide (1024 <= (recsL x.1 x.2.1).length)
def whereP (P : PLog) : Nat := if freshP P = true then P.next else (P.segs.getLast?.map (·.1)).getD P.next
def laidP (l : List Sgf) (p : List Nat) : List Sgf := match l.getLast? with
 | none => []
 | some x => l.dropLast ++ [(x.1, x.2.1 ++ [p], true)]
def addP (room : Nat) (k : Str) (p : List Nat) (P : PLog) (L : DiskL) : (PLog × DiskL) × Nat × Nat :=
 if 1048566 < p.length then ((P, L), 0, 5)
 else if 99999999 <= P.next then ((P, L), 0, 6)
 else if (appL room (nameL k (whereP P)) (recL P.next p) L).2 ≠ 0 then ((P, L), 0, (appL room (nameL k (whereP P)) (recL P.next p) L).2)
 else ((⟨laidP (if freshP P = true then P.segs ++ [(P.next, [], false)] else P.segs) p, P.next + 1⟩, (appL room (nameL k (whereP P)) (recL P.next p) L).1), P.next, 0)
structure Twin (k : Str) (P : PLog) (M : LogL) (L : DiskL) : Prop where
 segs : M.segs = P.segs.map bareP
 next : M.next = P.next
 chain : ∃ i, Chain i M.segs M.next
 full : ∀ s ∈ M.segs.dropLast, s.2 ≠ []
 low : ∀ s ∈ M.segs, s.1 < 100000000
 file : ∀ s ∈ M.segs, ∃ a, getK (nameL k s.1) L = some a /\ a.1.length = (recsL s.1 s.2).length
 stray : ∀ n, n < 100000000 -> (getK (nameL k n) L).isSome = true -> ∃ s ∈ M.segs, s.1 = n
 fresh : ∀ x ∈ P.segs, x.2.2 = true -> x.1 ∈ M.dirty
 last : ∀ x ∈ P.segs, x.2.2 = false -> ∀ a, getK (nameL k x.1) L = some a -> a.2 = a.1.length
 dirt : ∀ n ∈ M.dirty, n < 100000000
theorem app_ok {n : Str} {p : List Nat} (h : (appL room n p L).2 = 0) : (appL room n p L).1 = putK n (oldB n L ++ p, oldN n L) L := by
 unfold appL at h ⊢;split
 ·next h1 => rw [if_pos h1] at h; exact absurd h (by simp)
 ·next h1 =>
  rw [if_neg h1] at h;split
  ·next h2 => rw [if_pos h2] at h; exact absurd h (by simp)
  ·rfl
theorem chain_le {S : List Sg} (h : Chain i S n) : ∀ s ∈ S, i <= s.1 /\ s.1 + s.2.length <= n := by
 induction S generalizing i with
 | nil => intro s hs; cases hs
 | cons t r ih =>
  intro s hs;obtain ⟨h1, h2⟩ := h;have hle : ∀ {S : List Sg} {i n : Nat}, Chain i S n -> i <= n := by
   intro S
   induction S with
   | nil => intro i n h; exact Nat.le_of_eq h
   | cons s r ih => intro i n h; have := ih h.2; omega
  rcases List.mem_cons.1 hs with rfl | hs
  ·have := hle h2;omega
  ·have := ih h2 s hs;omega
theorem Twin.sizes {k : Str} (h : Twin k P M L) : freshL k M L = freshP P /\ whereL k M L = whereP P := by
 have hs := h.segs;have hf : freshL k M L = freshP P := by
  unfold freshL freshP;rw [hs, List.getLast?_map];rcases e : P.segs.getLast? with _ | x
  ·rfl
  ·simp only [Option.map_some];have hm : bareP x ∈ M.segs := by rw [hs]; exact List.mem_map.2 ⟨x, List.mem_of_getLast? e, rfl⟩
   obtain ⟨a, h1, h2⟩ := h.file _ hm;have h1 : getK (nameL k x.1) L = some a := h1;have h2 : a.1.length = (recsL x.1 x.2.1).length := h2
   show decide (1024 <= sizeL (nameL k x.1) L) = _
   unfold sizeL;rw [h1];simp only [Option.map_some, Option.getD_some, h2]
 refine ⟨hf, ?_⟩;unfold whereL whereP lastL;rw [hf, h.next, hs, List.getLast?_map];rcases P.segs.getLast? with _ | x <;> rfl
theorem chain_last {S : List Sg} {s : Sg} (h : Chain i (S ++ [s]) n) : Chain i S s.1 /\ n = s.1 + s.2.length := by
 obtain ⟨m, h1, h2⟩ := chain_split h;obtain ⟨e1, e2⟩ := h2;have e2 : m + s.2.length = n := e2;rw [e1];exact ⟨h1, e2.symm⟩
theorem twin_add {k : Str} (p : List Nat) (h : Twin k P M L) (hr : Rise L) :
  (addL room k p M L).2 = (addP room k p P L).2 /\ (addL room k p M L).1.2 = (addP room k p P L).1.2 /\ Twin k (addP room k p P L).1.1 (addL room k p M L).1.1 (addP room k p P L).1.2 := by
 obtain ⟨hf, hw⟩ := h.sizes;unfold addL addP;rw [hf, hw, h.next];split
 ·exact ⟨rfl, rfl, h⟩
 ·next hp =>
  split
  ·exact ⟨rfl, rfl, h⟩
  ·next hn =>
   split
   ·exact ⟨rfl, rfl, h⟩
   ·next ha =>
    have ha := app_ok (Decidable.of_not_not ha);rw [ha];refine ⟨rfl, rfl, ?_⟩;obtain ⟨i, hc⟩ := h.chain;have hn : P.next < 99999999 := by omega
    by_cases hfp : freshP P = true
    ·have hwp : whereP P = P.next := by unfold whereP; rw [if_pos hfp]
     have hall : ∀ s ∈ M.segs, s.1 < P.next := fun s hs => by
      have h1 := (chain_le hc s hs).2;have h2 : s.2 ≠ [] := by
       rcases List.eq_nil_or_concat M.segs with e | ⟨S0, t, e⟩
       ·rw [e] at hs;cases hs
       ·rw [List.concat_eq_append] at e;have hso := h.full;rw [e, List.dropLast_concat] at hso;rw [e] at hs;rcases List.mem_append.1 hs with hs | hs
        ·exact hso s hs
        ·have hst : s = t := by simpa using hs
         subst hst;rw [<- hf] at hfp;unfold freshL at hfp;rw [e, List.getLast?_concat] at hfp;obtain ⟨a, g1, g2⟩ := h.file s (by rw [e]; simp);intro h0;have hz : sizeL (nameL k s.1) L = 0 := by
          unfold sizeL;rw [g1];simp only [Option.map_some, Option.getD_some];rw [g2, h0]
          rfl
         dsimp only at hfp;rw [hz] at hfp;exact absurd hfp (by decide)
      have h3 := List.length_pos_iff.2 h2;rw [h.next] at h1;omega
     have hno : getK (nameL k P.next) L = none := by
      rcases e : getK (nameL k P.next) L with _ | a
      ·rfl
      ·obtain ⟨s, hs, e2⟩ := h.stray P.next (by omega) (by rw [e]; rfl);have := hall s hs;omega
     have e1 : oldB (nameL k P.next) L = [] := by unfold oldB; rw [hno]; rfl
     have hget : ∀ n, n < 100000000 -> n ≠ P.next -> ∀ b, getK (nameL k n) (putK (nameL k P.next) b L) = getK (nameL k n) L := fun n h1 h2 b => getK_put_other hr (fun e => h2 (name_inj k h1 (by omega) e))
     have hlm : laidL (M.segs ++ [(P.next, [])]) p = M.segs ++ [(P.next, [p])] := by
      unfold laidL;rw [List.getLast?_concat];simp
     have hlp : laidP (P.segs ++ [(P.next, [], false)]) p = P.segs ++ [(P.next, [p], true)] := by
      unfold laidP;rw [List.getLast?_concat];simp
     rw [if_pos hfp, if_pos hfp, hwp, hlm, hlp, e1, List.nil_append];refine ⟨by rw [List.map_append, h.segs]; rfl, rfl, ⟨i, ?_⟩, ?_, ?_, ?_, ?_, ?_, ?_, ?_⟩
     ·refine chain_app hc ⟨?_, ?_⟩
      ·exact h.next.symm
      ·show M.next + 1 = P.next + 1
       rw [h.next]
     ·show ∀ s ∈ (M.segs ++ [(P.next, [p])]).dropLast, s.2 ≠ []
      rw [List.dropLast_concat];intro s hs h0;have h1 := (chain_le hc s hs).2;have h2 := hall s hs;rcases List.eq_nil_or_concat M.segs with e | ⟨S0, t, e⟩
      ·rw [e] at hs;cases hs
      ·rw [List.concat_eq_append] at e;have hso := h.full;rw [e, List.dropLast_concat] at hso;have hs' := hs;rw [e] at hs';rcases List.mem_append.1 hs' with hs' | hs'
       ·exact hso s hs' h0
       ·have hst : s = t := by simpa using hs'
        subst hst;have hcl := hc;rw [e] at hcl;have := (chain_last hcl).2;rw [h0, h.next] at this;simp at this;omega
     ·intro s hs;rcases List.mem_append.1 hs with hs | hs
      ·exact h.low s hs
      ·have e : s = (P.next, [p]) := by simpa using hs
       subst e
       show P.next < 100000000
       omega
     ·intro s hs;rcases List.mem_append.1 hs with hs | hs
      ·obtain ⟨a, g1, g2⟩ := h.file s hs;exact ⟨a, by rw [hget s.1 (h.low s hs) (by have := hall s hs; omega)]; exact g1, g2⟩
      ·have e : s = (P.next, [p]) := by simpa using hs
       subst e;exact ⟨_, getK_put_same hr, by simp [recsL]⟩
     ·intro n hn1 hn2;by_cases e : n = P.next
      ·exact ⟨(P.next, [p]), List.mem_append.2 (.inr (by simp)), e.symm⟩
      ·rw [hget n hn1 e] at hn2;obtain ⟨s, hs, e2⟩ := h.stray n hn1 hn2;exact ⟨s, List.mem_append.2 (.inl hs), e2⟩
     ·intro x hx hxt;rcases List.mem_append.1 hx with hx | hx
      ·exact List.mem_append.2 (.inl (h.fresh x hx hxt))
      ·have e : x = (P.next, [p], true) := by simpa using hx
       subst e;exact List.mem_append.2 (.inr (by simp))
     ·intro x hx hxf a ha;rcases List.mem_append.1 hx with hx | hx
      ·have hm : bareP x ∈ M.segs := by rw [h.segs]; exact List.mem_map.2 ⟨x, hx, rfl⟩
       rw [hget x.1 (h.low _ hm) (by have := hall _ hm; unfold bareP at this; omega)] at ha;exact h.last x hx hxf a ha
      ·have e : x = (P.next, [p], true) := by simpa using hx
       subst e;exact absurd hxf (by simp)
     ·intro n hn1;rcases List.mem_append.1 hn1 with hn1 | hn1
      ·exact h.dirt n hn1
      ·have : n = P.next := by simpa using hn1
       omega
    ·have hne : P.segs ≠ [] := fun e => hfp (by unfold freshP; rw [e]; rfl)
     rcases List.eq_nil_or_concat P.segs with e | ⟨S0, x, e⟩
     ·exact absurd e hne
     ·rw [List.concat_eq_append] at e;have em : M.segs = S0.map bareP ++ [bareP x] := by rw [h.segs, e, List.map_append]; rfl
      have hwp : whereP P = x.1 := by
       unfold whereP;rw [if_neg hfp, e, List.getLast?_concat]
       rfl
      have hcl := hc;rw [em] at hcl;obtain ⟨c1, c2⟩ := chain_last hcl;rw [h.next] at c2;have c2 : P.next = x.1 + x.2.1.length := c2;have hmx : bareP x ∈ M.segs := by rw [em]; simp
      have hlx : x.1 < 100000000 := h.low _ hmx;have hso := h.full;rw [em, List.dropLast_concat] at hso;have hall : ∀ s ∈ S0.map bareP, s.1 < x.1 := fun s hs => by
       have h1 := (chain_le c1 s hs).2;have h3 := List.length_pos_iff.2 (hso s hs);have h1 : s.1 + s.2.length <= x.1 := h1;omega
      obtain ⟨a, g1, g2⟩ := h.file _ hmx;have g1 : getK (nameL k x.1) L = some a := g1;have g2 : a.1.length = (recsL x.1 x.2.1).length := g2;have e1 : oldB (nameL k x.1) L = a.1 := by unfold oldB; rw [g1]; rfl
      have hget : ∀ n, n < 100000000 -> n ≠ x.1 -> ∀ b, getK (nameL k n) (putK (nameL k x.1) b L) = getK (nameL k n) L := fun n h1 h2 b => getK_put_other hr (fun e => h2 (name_inj k h1 hlx e))
      have hlm : laidL M.segs p = S0.map bareP ++ [(x.1, x.2.1 ++ [p])] := by
       unfold laidL;rw [em, List.getLast?_concat];simp [bareP]
      have hlp : laidP P.segs p = S0 ++ [(x.1, x.2.1 ++ [p], true)] := by
       unfold laidP;rw [e, List.getLast?_concat];simp
      have er : recsL x.1 (x.2.1 ++ [p]) = recsL x.1 x.2.1 ++ recL P.next p := by
       rw [recs_app, c2]
       show recsL x.1 x.2.1 ++ (recL (x.1 + x.2.1.length) p ++ []) = _
       rw [List.append_nil]
      rw [if_neg hfp, if_neg hfp, hwp, hlm, hlp, e1];refine ⟨by rw [List.map_append]; rfl, rfl, ⟨i, ?_⟩, ?_, ?_, ?_, ?_, ?_, ?_, ?_⟩
      ·refine chain_app c1 ⟨rfl, ?_⟩
       show x.1 + (x.2.1 ++ [p]).length = P.next + 1
       rw [List.length_append, c2]
       rfl
      ·show ∀ s ∈ (S0.map bareP ++ [(x.1, x.2.1 ++ [p])]).dropLast, s.2 ≠ []
       rw [List.dropLast_concat];exact hso
      ·intro s hs;rcases List.mem_append.1 hs with hs | hs
       ·exact h.low s (by rw [em]; exact List.mem_append.2 (.inl hs))
       ·have e : s = (x.1, x.2.1 ++ [p]) := by simpa using hs
        subst e;exact hlx
      ·intro s hs;rcases List.mem_append.1 hs with hs | hs
       ·have hm : s ∈ M.segs := by rw [em]; exact List.mem_append.2 (.inl hs)
        obtain ⟨a2, k1, k2⟩ := h.file s hm;exact ⟨a2, by rw [hget s.1 (h.low s hm) (by have := hall s hs; omega)]; exact k1, k2⟩
       ·have e : s = (x.1, x.2.1 ++ [p]) := by simpa using hs
        subst e;exact ⟨_, getK_put_same hr, by rw [er, List.length_append, List.length_append, g2]⟩
      ·intro n hn1 hn2;by_cases e3 : n = x.1
       ·exact ⟨(x.1, x.2.1 ++ [p]), List.mem_append.2 (.inr (by simp)), e3.symm⟩
       ·rw [hget n hn1 e3] at hn2;obtain ⟨s, hs, e2⟩ := h.stray n hn1 hn2;rw [em] at hs;rcases List.mem_append.1 hs with hs | hs
        ·exact ⟨s, List.mem_append.2 (.inl hs), e2⟩
        ·have : s = bareP x := by simpa using hs
         subst this;exact absurd e2.symm e3
      ·intro y hy hyt;rcases List.mem_append.1 hy with hy | hy
       ·exact List.mem_append.2 (.inl (h.fresh y (by rw [e]; exact List.mem_append.2 (.inl hy)) hyt))
       ·have e : y = (x.1, x.2.1 ++ [p], true) := by simpa using hy
        subst e;exact List.mem_append.2 (.inr (by simp))
      ·intro y hy hyf b hb;rcases List.mem_append.1 hy with hy | hy
       ·have hm0 : bareP y ∈ S0.map bareP := List.mem_map.2 ⟨y, hy, rfl⟩;have hm : bareP y ∈ M.segs := by rw [em]; exact List.mem_append.2 (.inl hm0)
        rw [hget y.1 (h.low _ hm) (by have := hall _ hm0; unfold bareP at this; omega)] at hb;exact h.last y (by rw [e]; exact List.mem_append.2 (.inl hy)) hyf b hb
       ·have e : y = (x.1, x.2.1 ++ [p], true) := by simpa using hy
        subst e;exact absurd hyf (by simp)
      ·intro n hn1;rcases List.mem_append.1 hn1 with hn1 | hn1
       ·exact h.dirt n hn1
       ·have : n = x.1 := by simpa using hn1
        omega
end Go.Proofs.YtedlibkkeegnaaaGreat
