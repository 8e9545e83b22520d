/- The walk of RaftWaits: one that hears nobody stands for election at its wait's end, and asks each other one. No condition. -/
import Derived.Test.YtejhoefmcldpnaaGreatRk39
namespace Go.Proofs.YtejhoefmcldpnaaGreat
open Go.RowKit Go.Maps
theorem max_turn (z : Int) : max 0 z = max z 0 := by omega
theorem wait_nat (draw : Int) : ∃ k m : Nat, waitOf draw = (k : Int) ∧ 10 ≤ k ∧ k ≤ 19 ∧ max 0 draw % 10 = (m : Int) ∧ k = 10 + m := by
  unfold waitOf
  rw [max_turn]
  refine ⟨(10 + max draw 0 % 10).toNat, (max draw 0 % 10).toNat, ?_, ?_, ?_, ?_, ?_⟩ <;> omega
def wM : LogL := ⟨[], 1, []⟩
theorem w_term0 : TermE wM ((wM.next - 1 : Nat) : Int) 0 := .inr ⟨rfl, 7, rfl⟩
theorem w_draft : ∀ id < 5, (draftL 1048576 termK [1, id + 1] []).2 = 0 := by decide +kernel
theorem w_nums (id : Nat) (h : id < 5) : numsL [0 + 1, id + 1] = [1, id + 1] := by
  simp only [numsL]
  rw [uvl_low (show 0 + 1 < 128 by decide), uvl_low (show id + 1 < 128 by omega)]
  rfl
/-- The node behind j ticks. -/
def wN (id n k j : Nat) : Nd := ⟨id, n, 0, ((0 : Nat) : Int) - 1, 0, -1, 0, 0, ((k + 1 - j : Nat) : Int), 0, noPeers⟩
theorem wtick {w : World} {S : Nat → Prop} {r d l id n k j : Nat} (h : NdS w S r d l 1048576 (wN id n k j) wM []) (draw : Int) (h1 : 1 ≤ j) (hj : j < k) (hk : k ≤ 19) :
    Calls Tryz.prog 16 #[.pointer (some ⟨r, 0, none⟩), .int .i64 draw] w fun e w' => e = .returned (.slice none 0 0) ∧ NdS w' S r d l 1048576 (wN id n k (j + 1)) wM [] ∧ Next S w S w' := by
  refine (tick_wait h draw (k + 1 - j) rfl (by omega) (by omega)).mono ?_
  rintro e w' ⟨rfl, h2, n2⟩
  refine ⟨rfl, ?_, n2⟩
  have e9 : (k + 1 - j - 1 : Nat) = k + 1 - (j + 1) := by omega
  rw [e9] at h2
  exact h2
theorem wtick_last {w : World} {S : Nat → Prop} {r d l id n k : Nat} (h : NdS w S r d l 1048576 (wN id n k k) wM []) (draw : Int) (hn : 3 ≤ n) (hn5 : n ≤ 5) (hid : id < n) :
    Calls Tryz.prog 16 #[.pointer (some ⟨r, 0, none⟩), .int .i64 draw] w fun e w' => ∃ g c, e = .returned (.slice (some ⟨g, 0, none⟩) (n - 1) c) ∧ w'.cell? ⟨g, 2, none⟩ = some (.int .i64 1) ∧ ∃ S' N' L', N'.role = 1 ∧ N'.term = 1 ∧ NdS w' S' r d l 1048576 N' wM L' ∧ Next S w S' w' := by
  refine tick_stand h draw (by show ((k + 1 - k : Nat) : Int) = 1; omega) (.inl rfl) (fun w1 h1 n1 => ?_)
  have hst := stand_many h1 draw 0 hn (Nat.le_refl _) (by decide) w_term0 (by show 0 + 1 < 9223372036854775807; decide) (by show (draftL 1048576 termK (numsL [0 + 1, id + 1]) []).2 = 0; rw [w_nums id (by omega)]; exact w_draft id (by omega))
  refine hst.mono ?_
  rintro e w2 ⟨v, rfl, hr, S2, h2, n2⟩
  obtain ⟨g, c, rfl, hc⟩ := hr.form (by show 1 ≤ n - 1; omega)
  exact ⟨_, _, _, rfl, g, c, rfl, hc, S2, _, _, rfl, rfl, h2, n1.trans n2⟩
set_option maxRecDepth 100000 in
set_option maxHeartbeats 3200000 in
theorem raftWaits_ok (id n : Nat) (draw : Int) (W : World) (hn : n = 3 ∨ n = 5) (hid : id < n) :
    Calls Tryz.prog 7 #[.int .i64 (id : Int), .int .i64 (n : Int), .int .i64 draw] W fun e w' => e = .returned (.bool true) ∧ Below W.heap.size W w' := by
  obtain ⟨k, m, hk, hk1, hk2, hk3, hkm⟩ := wait_nat draw
  have HN := hide (And.intro hn hid)
  have hidz : ¬ ((id : Int) < 0) := by omega
  have hidn : ¬ ((n : Int) ≤ (id : Int)) := by omega
  have hnn : ((n : Int) != 3) = false ∨ ((n : Int) != 3) = true ∧ ((n : Int) != 5) = false := by
    rcases hn with rfl | rfl <;> simp
  have HK := hide hk
  have HK3 := hide (And.intro hk3 hkm)
  clear hn hid hk hk3 hkm
  rcases hnn with h3 | ⟨h3, h5⟩
  all_goals (
    go_enter Tryz.func7, Tryz.ntmps7
    go_wp2_with fail
    refine (new_any 1048576 W (by decide)).mono ?_
    rintro e w1 ⟨d, F1, rfl, d1, l1, k1⟩
    have D1 := hide d1
    have K1 := hide k1
    have L1 := hide l1
    clear d1 l1 k1
    go_wp2_with fail
    have hop := ropen_any F1 d 1048576 [] id n 0 0 draw w1 D1.out (HN.out.1.elim (fun e => .inr (.inl e)) (fun e => .inr (.inr e))) HN.out.2 k_term (by decide) (Nat.zero_le _) rfl (by rw [k_open.1]; exact k_all)
    rw [k_open.1, k_open.2] at hop
    refine hop.mono ?_
    rintro e w2 ⟨r, l, rfl, S2, h2, n2⟩
    have H2 : Hid (NdS w2 S2 r d l 1048576 (wN id n k 1) wM []) := hide (by unfold ndNew at h2; rw [HK.out] at h2; exact h2)
    have K2 := hide (K1.out.trans (n2.below K1.out.size L1.out))
    have HS2 := hide (n2.up K1.out.size L1.out)
    clear h2 n2 hop
    go_wp2_with fail
    go_loopw [11, 12, 13, 14, 15] (fun i _ _ _ _ wr => ∃ j : Nat, 1 ≤ j ∧ j ≤ k ∧ i = .int .i64 (j : Int) ∧ Hid (NdS wr S2 r d l 1048576 (wN id n k j) wM []) ∧ Hid (Below W.heap.size W wr)) (fun i _ _ _ _ _ => k - (intOf i).toNat)
    case atStart => exact ⟨1, by omega, by omega, rfl, H2, K2⟩
    case round =>
      obtain ⟨j, hj1, hj2, rfl, HS, HB⟩ := hrel
      have hjz : (j : Int) < 30 := by omega
      by_cases hlt : j < k
      · have TW := hide (wtick HS.out draw hj1 hlt hk2)
        go_wp2_with fail
        refine TW.out.mono ?_
        rintro e w3 ⟨rfl, h3, n3⟩
        have H3 := hide h3
        have B3 := hide (HB.out.trans (n3.below HB.out.size HS2.out))
        clear h3 n3 TW
        go_wp2_with fail
        go_roundw
        case rel => exact ⟨j + 1, by omega, by omega, by go_num, H3, B3⟩
        case measure => simp [intOf]; omega
      · obtain rfl : j = k := by omega
        have TW := hide (wtick_last HS.out draw (HN.out.1.elim (fun e => by omega) (fun e => by omega)) (HN.out.1.elim (fun e => by omega) (fun e => by omega)) HN.out.2)
        have hm := HK3.out.1
        have hm1 : (m : Int) ≤ 9 := by have := HK3.out.2; omega
        have hjm : j = 10 + m := HK3.out.2
        have hm0 : ((j : Int) == 10 + max 0 draw % 10) = true := by rw [hm]; simp; omega
        have hml : (0 : Int) ≤ max 0 draw % 10 := by omega
        have hmh : max 0 draw % 10 ≤ 9 := by omega
        clear hjm hm hm1
        obtain ⟨n1, hn1⟩ : ∃ q, q = n - 1 := ⟨_, rfl⟩
        have hn2 : ((n1 : Int) == (n : Int) - 1) = true := by have := HN.out.1; simp; omega
        have hn3 : ((n1 : Int) == 0) = false := by have := HN.out.1; simp; omega
        have hn5 : (n : Int) ≤ 5 := by have := HN.out.1; omega
        have hn6 : (3 : Int) ≤ (n : Int) := by have := HN.out.1; omega
        have hn4 : 0 < n1 := by have := HN.out.1; omega
        rw [← hn1] at TW
        clear hn1 hlt h3
        try clear h5
        go_wp2_with fail
        refine TW.out.mono ?_
        rintro e w3 ⟨g, c, rfl, hc, S3, N3, L3, hro, hte, h3, n3⟩
        have H3 := hide h3
        have B3 := hide (HB.out.trans (n3.below HB.out.size HS2.out))
        have HC := hide hc
        have ST := hide (state_any h3)
        rw [hro, hte] at ST
        clear h3 n3 TW hc hro hte
        go_wp2_with fail
        refine ST.out.mono ?_
        rintro e w4 ⟨rfl, k4⟩
        have hc4 := (k4.cell (cell_lt HC.out)).trans HC.out
        have B4 := hide (B3.out.trans (k4.mono B3.out.size))
        clear k4 ST
        go_wp2_with fail
        refine (known_any _).mono ?_
        rintro e w5 ⟨rfl, k5⟩
        have B5 := hide (B4.out.trans (k5.mono B4.out.size))
        clear k5
        go_wp2_with fail
        go_ret
        exact ⟨rfl, B5.out⟩)
set_option maxRecDepth 100000 in
theorem raftWaits_bad (id n draw : Int) (W : World) (h : id < 0 ∨ (0 ≤ id ∧ n ≤ id) ∨ (0 ≤ id ∧ id < n ∧ (n != 3) = true ∧ (n != 5) = true)) :
    Calls Tryz.prog 7 #[.int .i64 id, .int .i64 n, .int .i64 draw] W fun e w' => e = .returned (.bool true) ∧ Below W.heap.size W w' := by
  rcases h with h | ⟨h1, h⟩ | ⟨h1, h2, h3, h5⟩
  · go_enter Tryz.func7, Tryz.ntmps7
    go_wp2_with fail
    refine (known_any _).mono ?_
    rintro e w1 ⟨rfl, k1⟩
    have K1 := hide k1
    clear k1
    go_wp2_with fail
    go_ret
    exact ⟨rfl, K1.out⟩
  · have hz : ¬ id < 0 := by omega
    go_enter Tryz.func7, Tryz.ntmps7
    go_wp2_with fail
    refine (known_any _).mono ?_
    rintro e w1 ⟨rfl, k1⟩
    have K1 := hide k1
    clear k1
    go_wp2_with fail
    go_ret
    exact ⟨rfl, K1.out⟩
  · have hz : ¬ id < 0 := by omega
    have hz2 : ¬ n ≤ id := by omega
    go_enter Tryz.func7, Tryz.ntmps7
    go_wp2_with fail
    refine (known_any _).mono ?_
    rintro e w1 ⟨rfl, k1⟩
    have K1 := hide k1
    clear k1
    go_wp2_with fail
    go_ret
    exact ⟨rfl, K1.out⟩
theorem raftWaits_walk (id n draw : Int) (W : World) :
    Calls Tryz.prog 7 #[.int .i64 id, .int .i64 n, .int .i64 draw] W fun e w' => e = .returned (.bool true) ∧ Below W.heap.size W w' := by
  by_cases h1 : id < 0
  · exact raftWaits_bad id n draw W (.inl h1)
  by_cases h2 : n ≤ id
  · exact raftWaits_bad id n draw W (.inr (.inl ⟨by omega, h2⟩))
  by_cases h3 : n = 3 ∨ n = 5
  · obtain ⟨i, rfl⟩ : ∃ i : Nat, id = (i : Int) := ⟨id.toNat, by omega⟩
    obtain ⟨m, rfl⟩ : ∃ m : Nat, n = (m : Int) := ⟨n.toNat, by omega⟩
    exact raftWaits_ok i m draw W (by omega) (by omega)
  · exact raftWaits_bad id n draw W (.inr (.inr ⟨by omega, by omega, by simp; omega, by simp; omega⟩))
end Go.Proofs.YtejhoefmcldpnaaGreat
