/- The walk of the law DiskFull. No conditions but the widths. -/
import Derived.Test.YtgbfmhjnalfnbaaOne
import Derived.Test.YtgbfmhjnalfnbaaKnown
namespace Go.Proofs.Ytgbfmhjnalfnbaa
open Go.RowKit Go.Maps
theorem size_any (F : Nat → Prop) (d room : Nat) (L : DiskL) (s : ByteArray) (w : World) (hD : DiskAt w F d room L) (hs : s.size ≤ 1099511627776) :
    Calls Try.prog 24 #[.pointer (some ⟨d, 0, none⟩), .string s] w fun e w' => ∃ n : Nat, e = .returned (.tuple #[.int .i64 (n : Int), .bool (getK s.data.toList L).isSome]) ∧ n ≤ 1073741824 ∧ Below w.heap.size w w' := by
  rcases hg : getK s.data.toList L with _ | ⟨xs, l⟩
  · refine (size_none F d room L s w hD hs hg).mono ?_
    rintro e w' ⟨rfl, k⟩
    exact ⟨0, rfl, by decide, k⟩
  · obtain ⟨X, A, c, rfl, _, _, _, _, _, _, hlen⟩ := disk_found hD hg
    refine (size_some F d room _ s xs l w hD hs hg).mono ?_
    rintro e w' ⟨rfl, k⟩
    exact ⟨xs.length, rfl, hlen, k⟩
set_option maxRecDepth 100000 in
set_option maxHeartbeats 800000 in
theorem diskFull_core (room : Nat) (A1 A2 : Option Addr) (n1 c1 n2 c2 n : Nat) (xs ys : List Nat) (La Lb : DiskL) (e1 e2 : Nat) (p1 p2 : Bool) (w : World) (hr : room ≤ 5000) (h1 : IsB w (.slice A1 n1 c1) xs) (h2 : IsB w (.slice A2 n2 c2) ys) (l1 : xs.length = n1) (l2 : ys.length = n2)
    (b1 : ∀ x ∈ xs, x < 256) (b2 : ∀ x ∈ ys, x < 256) (hm : n1 + n2 ≤ 8000) (ha : appL room [97] xs [] = (La, e1)) (hb : appL room [98] ys La = (Lb, e2)) (he1 : ((e1 : Int) == 0) = p1) (he2 : ((e2 : Int) == 0) = p2)
    (hp1 : p1 = true ∧ n1 ≤ room ∧ n = n1 ∨ p1 = false ∧ ¬ n1 ≤ room ∧ n = 0) (hp2 : p2 = true ∧ n2 ≤ room - n ∨ p2 = false ∧ ¬ n2 ≤ room - n) (his : (getK [98] Lb).isSome = p2) :
    Calls Try.prog 5 #[.int .i64 (room : Int), .slice A1 n1 c1, .slice A2 n2 c2] w fun e w' => e = .returned (.bool true) ∧ Below w.heap.size w w' := by
  have H1 := hide h1
  have H2 := hide h2
  have L1 := hide l1
  have L2 := hide l2
  have B1 := hide b1
  have B2 := hide b2
  have HA := hide ha
  have HB := hide hb
  have HIS := hide his
  clear h1 h2 l1 l2 b1 b2 ha hb his
  have kc : n1 ≤ 8000 ∧ n2 ≤ 8000 := by omega
  obtain ⟨kc1, kc2⟩ := kc
  rcases hp1 with ⟨rfl, hle1, rfl⟩ | ⟨rfl, hle1, rfl⟩ <;> rcases hp2 with ⟨rfl, hle2⟩ | ⟨rfl, hle2⟩
  all_goals
    try have hz2 : (n2 : Int) ≤ (room : Int) - (n : Int) := by omega
    try have hz2 : ¬ ((n2 : Int) ≤ (room : Int) - (n : Int)) := by omega
    try have hz3 : (n2 : Int) ≤ (room : Int) := by omega
    try have hz3 : ¬ ((n2 : Int) ≤ (room : Int)) := by omega
    try have hz4 : decide ((n2 : Int) ≤ (room : Int) - (n : Int)) = false := decide_eq_false hz2
    try have hz5 : decide ((n2 : Int) ≤ (room : Int)) = false := decide_eq_false hz3
    try have hz6 : decide (n2 ≤ room) = false := decide_eq_false (by omega)
    go_enter Try.func5, Try.ntmps5
    go_wp2_with fail
    refine (new_any room w (by omega)).mono ?_
    rintro e w1 ⟨d, F1, rfl, d1, u1, k1⟩
    have D1 := hide d1
    have K1 := hide k1
    have U1 := hide u1
    clear d1 u1 k1
    go_wp2_with fail
    refine (append_any F1 d room [] ⟨#[97]⟩ A1 _ c1 xs _ D1.out (by decide) (H1.out.keep K1.out) L1.out B1.out (by omega)).mono ?_
    rintro e w2 ⟨rfl, F2, d2, n2'⟩
    rw [show appL room (⟨#[97]⟩ : ByteArray).data.toList xs [] = (La, e1) from HA.out] at d2 ⊢
    have K2 := hide (K1.out.trans (n2'.below K1.out.size U1.out))
    have U2 := hide (n2'.up K1.out.size U1.out)
    have D2 := hide d2
    clear d2 n2'
    go_wp2_with fail
    refine (append_any F2 d room La ⟨#[98]⟩ A2 n2 c2 ys _ D2.out (by decide) (H2.out.keep K2.out) L2.out B2.out (by omega)).mono ?_
    rintro e w3 ⟨rfl, F3, d3, n3'⟩
    rw [show appL room (⟨#[98]⟩ : ByteArray).data.toList ys La = (Lb, e2) from HB.out] at d3 ⊢
    have K3 := hide (K2.out.trans (n3'.below K2.out.size U2.out))
    have U3 := hide (n3'.up K2.out.size U2.out)
    have D3 := hide d3
    have HU := d3.facts.2.2.1
    clear d3 n3'
    go_wp2_with fail
    refine (size_any F3 d room Lb ⟨#[98]⟩ _ D3.out (by decide)).mono ?_
    rintro e w4 ⟨q, rfl, hq, k4⟩
    rw [show (getK (⟨#[98]⟩ : ByteArray).data.toList Lb).isSome = _ from HIS.out]
    have D4 := hide (D3.out.below k4)
    have K4 := hide (K3.out.trans (k4.mono K3.out.size))
    clear k4
    obtain ⟨us, hus⟩ : ∃ us, us = usedL Lb := ⟨_, rfl⟩
    rw [← hus] at HU
    have HUS := hide hus
    clear hus
    go_wp2_with fail
    refine (used_any F3 d room Lb _ D4.out).mono ?_
    rintro e w5 ⟨rfl, rfl⟩
    rw [← HUS.out]
    go_wp2_with fail
    refine (known_any _).mono ?_
    rintro e w10 ⟨rfl, k10⟩
    go_wp2_with fail
    go_ret
    exact ⟨rfl, below_step K4.out k10⟩
theorem diskFull_out (z : Int) (A1 A2 : Option Addr) (n1 c1 n2 c2 : Nat) (w : World) (hb : n1 ≤ 140737488351232) (hb2 : n2 ≤ 140737488351232) (h : z < 0 ∨ ¬ z < 0 ∧ (5000 < z ∨ ¬ 5000 < z ∧ 8000 < n1 + n2)) :
    Calls Try.prog 5 #[.int .i64 z, .slice A1 n1 c1, .slice A2 n2 c2] w fun e w' => e = .returned (.bool true) ∧ Below w.heap.size w w' := by
  rcases h with h | ⟨h, h' | ⟨h', h''⟩⟩
  all_goals
    go_enter Try.func5, Try.ntmps5
    go_wp2_with fail
    go_ret
    exact ⟨rfl, Below.refl _ _⟩
theorem appL_full {room : Nat} {k : Str} {p : List Nat} {L : DiskL} (hk : 1 ≤ k.length ∧ k.length ≤ 64) (h : room < usedL L + p.length) : appL room k p L = (L, 6) := by
  unfold appL
  rw [if_neg (fun h => h hk), if_pos (.inr h)]
theorem appL_ab {room : Nat} {xs ys : List Nat} (h : xs.length + ys.length ≤ room) : appL room [98] ys [([97], (xs, 0))] = ([([97], (xs, 0)), ([98], (ys, 0))], 0) := by
  unfold appL
  rw [if_neg (by simp), if_neg]
  · rfl
  · rw [usedL_one]
    rintro (⟨_, h'⟩ | h')
    · simp at h'
    · omega
theorem diskFull_walk (a0 : Int) (a1 : Option Addr) (len1 cap1 : Nat) (z1 : List Int) (a2 : Option Addr) (len2 cap2 : Nat) (z2 : List Int) (w : World) (_w0 : (Lit.int .i64 a0).wf = true) (w1 : IsRow .u8 w a1 len1 cap1 z1) (w2 : IsRow .u8 w a2 len2 cap2 z2)
    (b1 : len1 ≤ 140737488351232) (b2 : len2 ≤ 140737488351232) :
    Calls Try.prog 5 #[.int .i64 a0, .slice a1 len1 cap1, .slice a2 len2 cap2] w fun e w' => e = .returned (.bool true) ∧ Below w.heap.size w w' := by
  obtain ⟨xs, hl1, hb1, hM1, _⟩ := w1.isB
  obtain ⟨ys, hl2, hb2, hM2, _⟩ := w2.isB
  by_cases h : a0 < 0 ∨ ¬ a0 < 0 ∧ (5000 < a0 ∨ ¬ 5000 < a0 ∧ 8000 < len1 + len2)
  · exact diskFull_out a0 a1 a2 len1 cap1 len2 cap2 w b1 b2 h
  · obtain ⟨room, rfl⟩ : ∃ r : Nat, a0 = (r : Int) := ⟨a0.toNat, by omega⟩
    have hr : room ≤ 5000 := by omega
    have hm : len1 + len2 ≤ 8000 := by omega
    by_cases q1 : len1 ≤ room
    · have ha : appL room [97] xs [] = ([([97], (xs, 0))], 0) := appL_new (by decide) (by omega)
      by_cases q2 : len2 ≤ room - len1
      · exact diskFull_core room a1 a2 len1 cap1 len2 cap2 len1 xs ys _ _ 0 0 true true w hr hM1 hM2 hl1 hl2 hb1 hb2 hm ha (appL_ab (by omega)) rfl rfl (.inl ⟨rfl, q1, rfl⟩) (.inl ⟨rfl, q2⟩) rfl
      · exact diskFull_core room a1 a2 len1 cap1 len2 cap2 len1 xs ys _ _ 0 6 true false w hr hM1 hM2 hl1 hl2 hb1 hb2 hm ha (appL_full (by decide) (by rw [usedL_one]; omega)) rfl rfl (.inl ⟨rfl, q1, rfl⟩) (.inr ⟨rfl, q2⟩) rfl
    · have hu0 : usedL [] = 0 := rfl
      have ha : appL room [97] xs [] = ([], 6) := appL_full (by decide) (by omega)
      by_cases q2 : len2 ≤ room - 0
      · exact diskFull_core room a1 a2 len1 cap1 len2 cap2 0 xs ys _ _ 6 0 false true w hr hM1 hM2 hl1 hl2 hb1 hb2 hm ha (appL_new (by decide) (by omega)) rfl rfl (.inr ⟨rfl, q1, rfl⟩) (.inl ⟨rfl, q2⟩) rfl
      · exact diskFull_core room a1 a2 len1 cap1 len2 cap2 0 xs ys _ _ 6 6 false false w hr hM1 hM2 hl1 hl2 hb1 hb2 hm ha (appL_full (by decide) (by omega)) rfl rfl (.inr ⟨rfl, q1, rfl⟩) (.inr ⟨rfl, q2⟩) rfl
end Go.Proofs.Ytgbfmhjnalfnbaa
