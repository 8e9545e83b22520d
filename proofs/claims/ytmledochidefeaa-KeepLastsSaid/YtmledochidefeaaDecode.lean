/- The contract of frame.Decode: any bytes begin with a record, or are refused for the first reason of all. Condition: rows below 2 to the 39. -/
import Derived.Test.YtmledochidefeaaFrame
namespace Go.Proofs.Ytmledochidefeaa
open Go.RowKit
/-- What bytes begin with: what the record holds, how many bytes it takes, the error. -/
def decL (b : List Nat) : List Nat × Nat × Nat :=
  if b.length < 8 then ([], 0, 2)
  else if 1048576 < val32 b then ([], 0, 5)
  else if b.length < 8 + val32 b then ([], 0, 2)
  else if val32 (b.drop 4) ≠ sumS (b.take 4 ++ (b.drop 8).take (val32 b)) then ([], 0, 4)
  else ((b.drop 8).take (val32 b), 8 + val32 b, 0)
theorem val32_lt {xs : List Nat} (hb : ∀ x ∈ xs, x < 256) : val32 xs < 4294967296 := by
  have h : ∀ i, xs.getD i 0 < 256 := by
    intro i
    by_cases hi : i < xs.length
    · have e : xs.getD i 0 = xs[i] := by simp [hi]
      rw [e]; exact hb _ (List.getElem_mem hi)
    · have e : xs.getD i 0 = 0 := by simp; rw [List.getElem?_eq_none (by omega)]; rfl
      rw [e]; decide
  have h0 := h 0; have h1 := h 1; have h2 := h 2; have h3 := h 3
  unfold val32
  omega
theorem nil_isB {w : World} {n c : Nat} {xs : List Nat} (h : IsB w (.slice none n c) xs) : xs = [] ∧ n = 0 := by
  have e0 : xs = [] := by
    rcases xs with _ | ⟨y, ys⟩
    · rfl
    · obtain ⟨_, _, e, _⟩ := h.rd (by simp)
      cases e
  subst e0
  obtain ⟨_, _, e, _⟩ := h
  cases e
  exact ⟨rfl, rfl⟩
theorem IsB.at_ {w : World} {A : Option Addr} {n c : Nat} {xs : List Nat} (h : IsB w (.slice A n c) xs) (h1 : 1 ≤ n) : ∃ b off, A = some ⟨b, off, none⟩ := by
  have hl : xs.length = n := by
    obtain ⟨_, _, e, _⟩ := h
    cases e
    rfl
  obtain ⟨b, off, e, _⟩ := h.rd (by intro e; rw [e] at hl; simp at hl; omega)
  exact ⟨b, off, e⟩
set_option maxHeartbeats 1600000 in
theorem decode_any (A : Option Addr) (n c : Nat) (b : List Nat) (w : World) (hA : IsB w (.slice A n c) b) (hn : b.length = n) (hb : ∀ x ∈ b, x < 256) (h3 : n ≤ 549755813888) (hc : n ≤ c) (lc : c ≤ 9223372036854775807) :
    Calls Try.prog 37 #[.slice A n c] w fun e w' => ∃ s, e = .returned (.tuple #[s, .int .i64 ((decL b).2.1 : Nat), .int .i64 ((decL b).2.2 : Nat)]) ∧ Own w' w.heap.size s (decL b).1 ∧ Below w.heap.size w w' := by
  have HA := hide hA
  have HN := hide hn
  have HB := hide hb
  by_cases h8 : n < 8
  · have e : decL b = ([], 0, 2) := by unfold decL; rw [if_pos (by rw [hn]; exact h8)]
    rw [e]
    clear hA hn hb e
    go_enter Try.func37, Try.ntmps37
    go_wp2_with fail
    go_ret3
    exact ⟨_, rfl, World.ownsRow_nil _ _ _ _, Below.refl _ _⟩
  · obtain ⟨g, off, rfl⟩ := hA.at_ (by omega)
    have hv := val32_lt hb
    have hv4 := val32_lt (xs := b.drop 4) (fun x hx => hb x (List.mem_of_mem_drop hx))
    obtain ⟨v, hve⟩ : ∃ v, v = val32 b := ⟨_, rfl⟩
    rw [← hve] at hv
    have HV := hide hve
    by_cases hbig : 1048576 < v
    · have e : decL b = ([], 0, 5) := by unfold decL; rw [if_neg (by rw [hn]; exact h8), if_pos (by rw [← hve]; exact hbig)]
      rw [e]
      clear hA hn hb e hve hv4
      go_enter Try.func37, Try.ntmps37
      go_wp2_with fail
      refine (get32_any _ n c b _ HA.out.rd HN.out.symm HB.out (by omega) (by omega)).mono ?_
      rintro e w1 ⟨rfl, d, rfl⟩
      rw [← HV.out]
      go_wp2_with fail
      go_ret3
      exact ⟨_, rfl, World.ownsRow_nil _ _ _ _, below_drewN (Below.refl _ _) d⟩
    · by_cases hend : n < 8 + v
      · have e : decL b = ([], 0, 2) := by unfold decL; rw [if_neg (by rw [hn]; exact h8), if_neg (by rw [← hve]; exact hbig), if_pos (by rw [← hve, hn]; exact hend)]
        rw [e]
        clear hA hn hb e hve hv4
        go_enter Try.func37, Try.ntmps37
        go_wp2_with fail
        refine (get32_any _ n c b _ HA.out.rd HN.out.symm HB.out (by omega) (by omega)).mono ?_
        rintro e w1 ⟨rfl, d, rfl⟩
        rw [← HV.out]
        go_wp2_with fail
        go_ret3
        exact ⟨_, rfl, World.ownsRow_nil _ _ _ _, below_drewN (Below.refl _ _) d⟩
      · obtain ⟨p, hp⟩ : ∃ p, p = (b.drop 8).take v := ⟨_, rfl⟩
        have hpl : p.length = v := by rw [hp, List.length_take, List.length_drop, hn]; omega
        have hpb : ∀ x ∈ p, x < 256 := fun x hx => hb x (List.mem_of_mem_drop (List.mem_of_mem_take (by rw [← hp]; exact hx)))
        obtain ⟨q, hq⟩ : ∃ q, q = val32 (b.drop 4) := ⟨_, rfl⟩
        rw [← hq] at hv4
        obtain ⟨t, ht⟩ : ∃ t, t = sumS (b.take 4 ++ p) := ⟨_, rfl⟩
        have hdec : decL b = if q ≠ t then ([], 0, 4) else (p, 8 + v, 0) := by
          unfold decL
          rw [if_neg (by rw [hn]; exact h8), if_neg (by rw [← hve]; exact hbig), if_neg (by rw [← hve, hn]; exact hend), ← hve, ← hp, ← hq, ← ht]
        have P := hide (And.intro hpl hpb)
        have i4 := hA.drop 4 (n - 4) (c - 4) rfl rfl (by omega)
        have I4 := hide i4
        have i8 : IsB w (.slice (some ⟨g, if c = 8 then off else off + 8, none⟩) v (c - 8)) p := by
          by_cases hc8 : c = 8
          · have hv0 : v = 0 := by omega
            have hp0 : p = [] := List.eq_nil_of_length_eq_zero (by omega)
            rw [if_pos hc8, hp0, hv0]
            exact ⟨_, _, rfl, fun h => absurd rfl h, (fun h => by cases h), Nat.zero_le _, by omega⟩
          · rw [if_neg hc8]
            have := (hA.drop 8 (n - 8) (c - 8) rfl rfl (by omega)).take v (by omega)
            rw [← hp] at this
            exact this
        have I8 := hide i8
        have IT := hide (hA.take 4 (by omega))
        have HQ := hide hq
        have HT := hide ht
        have LT : Hid ((b.take 4).length = 4) := by unfold Hid; rw [List.length_take, hn]; omega
        have L4 : Hid (n - 4 = (b.drop 4).length) := by unfold Hid; rw [List.length_drop, hn]
        have BT : Hid (∀ x ∈ b.take 4, x < 256) := fun x hx => hb x (List.mem_of_mem_take hx)
        have B4 : Hid (∀ x ∈ b.drop 4, x < 256) := fun x hx => hb x (List.mem_of_mem_drop hx)
        have HD := hide hdec
        clear hA hn hb hp hq ht hdec hve i4 i8 hpl hpb
        have hsub : (8 : Int) + (v : Int) - 8 = (v : Int) := by omega
        have hqt : ((q : Int) != (t : Int)) = true ∧ Hid (decL b = ([], 0, 4)) ∨ ((q : Int) != (t : Int)) = false ∧ Hid (decL b = (p, 8 + v, 0)) := by
          by_cases e : q = t
          · right
            exact ⟨by simp [e], by have := HD.out; rw [if_neg (by simp [e])] at this; exact this⟩
          · left
            exact ⟨by simp; omega, by have := HD.out; rw [if_pos e] at this; exact this⟩
        by_cases hc8 : c = 8
        · rw [if_pos hc8] at I8
          subst hc8
          rcases hqt with ⟨hqt, HE⟩ | ⟨hqt, HE⟩
          all_goals
            rw [HE.out]
            go_enter Try.func37, Try.ntmps37
            go_wp2_with fail
            refine (get32_any _ n _ b _ HA.out.rd HN.out.symm HB.out (by omega) (by omega)).mono ?_
            rintro e w1 ⟨rfl, d, rfl⟩
            rw [← HV.out]
            go_wp2_with fail
            refine (get32_any _ (n - 4) _ (b.drop 4) _ (I4.out.rd.drewN d) L4.out B4.out (by omega) (by omega)).mono ?_
            rintro e w1 ⟨rfl, d2, rfl⟩
            rw [← HQ.out]
            go_wp2_with fail
            refine (sumOf_any _ _ 4 v _ _ (b.take 4) p _ (IT.out.drewN (d + d2)) (I8.out.drewN (d + d2)) LT.out P.out.1 BT.out P.out.2 (by omega)).mono ?_
            rintro e w3 ⟨rfl, k3⟩
            rw [← HT.out]
            have K3 := hide (below_step (below_drewN (Below.refl w.heap.size w) (d + d2)) k3)
            have I9 := hide ((I8.out.drewN (d + d2)).keep k3)
            clear k3
            go_wp2_with fail
          · go_ret3
            exact ⟨_, rfl, World.ownsRow_nil _ _ _ _, K3.out⟩
          · refine (clone_any _ v _ p _ I9.out P.out.1 (by omega)).mono ?_
            rintro e w4 ⟨s4, rfl, o4, k4⟩
            have O4 := hide (o4.more K3.out.size)
            have K4 := hide (below_step K3.out k4)
            clear o4 k4
            go_wp2_with fail
            go_ret3
            exact ⟨s4, by simp, O4.out, K4.out⟩
        · rw [if_neg hc8] at I8
          rcases hqt with ⟨hqt, HE⟩ | ⟨hqt, HE⟩
          all_goals
            rw [HE.out]
            go_enter Try.func37, Try.ntmps37
            go_wp2_with fail
            refine (get32_any _ n _ b _ HA.out.rd HN.out.symm HB.out (by omega) (by omega)).mono ?_
            rintro e w1 ⟨rfl, d, rfl⟩
            rw [← HV.out]
            go_wp2_with fail
            refine (get32_any _ (n - 4) _ (b.drop 4) _ (I4.out.rd.drewN d) L4.out B4.out (by omega) (by omega)).mono ?_
            rintro e w1 ⟨rfl, d2, rfl⟩
            rw [← HQ.out]
            go_wp2_with fail
            refine (sumOf_any _ _ 4 v _ _ (b.take 4) p _ (IT.out.drewN (d + d2)) (I8.out.drewN (d + d2)) LT.out P.out.1 BT.out P.out.2 (by omega)).mono ?_
            rintro e w3 ⟨rfl, k3⟩
            rw [← HT.out]
            have K3 := hide (below_step (below_drewN (Below.refl w.heap.size w) (d + d2)) k3)
            have I9 := hide ((I8.out.drewN (d + d2)).keep k3)
            clear k3
            go_wp2_with fail
          · go_ret3
            exact ⟨_, rfl, World.ownsRow_nil _ _ _ _, K3.out⟩
          · refine (clone_any _ v _ p _ I9.out P.out.1 (by omega)).mono ?_
            rintro e w4 ⟨s4, rfl, o4, k4⟩
            have O4 := hide (o4.more K3.out.size)
            have K4 := hide (below_step K3.out k4)
            clear o4 k4
            go_wp2_with fail
            go_ret3
            exact ⟨s4, by simp, O4.out, K4.out⟩
end Go.Proofs.Ytmledochidefeaa
