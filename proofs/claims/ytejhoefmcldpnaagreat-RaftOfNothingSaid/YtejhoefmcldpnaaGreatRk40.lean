/- What a nil node answers, and Open where it is refused. No condition. -/
import Derived.Test.YtejhoefmcldpnaaGreatRk39
import Derived.Test.YtejhoefmcldpnaaGreatRk21
import Derived.Test.YtejhoefmcldpnaaGreatRk7
namespace Go.Proofs.YtejhoefmcldpnaaGreat
open Go.RowKit Go.Maps
theorem nil_propose (v : Value) (w : World) : Calls Tryz.prog 13 #[.pointer none, v] w fun e w' => e = .returned (.tuple #[.int .i64 0, .slice none 0 0, .int .i64 1]) ∧ w = w' := by
  go_enter Tryz.func13, Tryz.ntmps13
  go_wp2_with fail
  refine bodyPost_ret (v := .tuple #[.int .i64 0, .slice none 0 0, .int .i64 1]) (by simp [results, Tryz.results13, go_sem]) rfl ⟨rfl, rfl⟩
theorem nil_state (w : World) : Calls Tryz.prog 14 #[.pointer none] w fun e w' => e = .returned (.tuple #[.int .i64 0, .int .i64 0, .int .i64 0]) ∧ w = w' := by
  go_enter Tryz.func14, Tryz.ntmps14
  go_wp2_with fail
  refine bodyPost_ret (v := .tuple #[.int .i64 0, .int .i64 0, .int .i64 0]) (by simp [results, Tryz.results14, go_sem]) rfl ⟨rfl, rfl⟩
theorem nil_log (w : World) : Calls Tryz.prog 15 #[.pointer none] w fun e w' => e = .returned (.tuple #[.int .i64 0, .int .i64 0]) ∧ w = w' := by
  go_enter Tryz.func15, Tryz.ntmps15
  go_wp2_with fail
  refine (stopped_nil w).mono ?_
  rintro e w1 ⟨rfl, rfl⟩
  go_wp2_with fail
  refine bodyPost_ret (v := .tuple #[.int .i64 0, .int .i64 0]) (by simp [results, Tryz.results15, go_sem]) rfl ⟨rfl, rfl⟩
theorem nil_tick (v : Value) (w : World) : Calls Tryz.prog 16 #[.pointer none, v] w fun e w' => e = .returned (.slice none 0 0) ∧ w = w' := by
  go_enter Tryz.func16, Tryz.ntmps16
  go_wp2_with fail
  refine (stopped_nil w).mono ?_
  rintro e w1 ⟨rfl, rfl⟩
  go_wp2_with fail
  go_ret
  exact ⟨rfl, rfl⟩
theorem nil_take (w : World) : Calls Tryz.prog 17 #[.pointer none] w fun e w' => e = .returned (.slice none 0 0) ∧ w = w' := by
  go_enter Tryz.func17, Tryz.ntmps17
  go_wp2_with fail
  refine (stopped_nil w).mono ?_
  rintro e w1 ⟨rfl, rfl⟩
  go_wp2_with fail
  go_ret
  exact ⟨rfl, rfl⟩
set_option maxRecDepth 100000 in
theorem nil_hear (f t k : Int) (A3 A4 : Option Addr) (n3 c3 n4 c4 : Nat) (v : Value) (w : World) : Calls Tryz.prog 11 #[.pointer none, .agg #[.int .i64 f, .int .i64 t, .int .i64 k, .slice A3 n3 c3, .slice A4 n4 c4], v] w fun e w' => e = .returned (.slice none 0 0) ∧ Below w.heap.size w w' := by
  go_enter Tryz.func11, Tryz.ntmps11
  go_wp2_with fail
  refine (stopped_nil _).mono ?_
  rintro e w1 ⟨rfl, rfl⟩
  go_wp2_with fail
  go_ret
  exact ⟨rfl, below_alloc _ _⟩
set_option maxRecDepth 100000 in
theorem open_none (w : World) : Calls Tryz.prog 10 #[.int .i64 0, .int .i64 1, .pointer none, .int .i64 0] w fun e w' => e = .returned (.tuple #[.pointer none, .int .i64 1]) ∧ w = w' := by
  go_enter Tryz.func10, Tryz.ntmps10
  go_wp2_with fail
  go_ret2
  exact ⟨rfl, rfl⟩
set_option maxRecDepth 100000 in
theorem open_two (v : Value) (w : World) : Calls Tryz.prog 10 #[.int .i64 0, .int .i64 2, v, .int .i64 0] w fun e w' => e = .returned (.tuple #[.pointer none, .int .i64 1]) ∧ w = w' := by
  go_enter Tryz.func10, Tryz.ntmps10
  go_wp2_with fail
  go_ret2
  exact ⟨rfl, rfl⟩
set_option maxRecDepth 100000 in
set_option maxHeartbeats 12800000 in
theorem raftOfNothing_walk (f t k : Int) (A3 A4 A1 : Option Addr) (n3 c3 n4 c4 n1 c1 : Nat) (z : Int) (W : World) (h3 : n3 ≤ 140737488351232) (h4 : n4 ≤ 140737488351232) (h1 : n1 ≤ 140737488351232) :
    Calls Tryz.prog 4 #[.agg #[.int .i64 f, .int .i64 t, .int .i64 k, .slice A3 n3 c3, .slice A4 n4 c4], .slice A1 n1 c1, .int .i64 z] W fun e w' => e = .returned (.bool true) ∧ Below W.heap.size W w' := by
  have ka := below_alloc W (.cells #[.int .i64 f, .int .i64 t, .int .i64 k, .slice A3 n3 c3, .slice A4 n4 c4] 34)
  have bg := Blk.new W (B := 0) 34 #[.int .i64 f, .int .i64 t, .int .i64 k, .slice A3 n3 c3, .slice A4 n4 c4] (Nat.zero_le _)
  have x3 := bg.cell 3
  have x4 := bg.cell 4
  dsimp only [List.getElem?_cons_zero, List.getElem?_cons_succ] at x3 x4
  have KA := hide ka
  have BG := hide bg
  clear ka bg
  by_cases hb : 30000 < n1 + n4 + n3
  · have hbz : (30000 : Int) < (n1 : Int) + (n4 : Int) + (n3 : Int) := by omega
    go_enter Tryz.func4, Tryz.ntmps4
    go_wp2_with fail
    go_ret
    exact ⟨rfl, KA.out⟩
  · have hbz : ¬ (30000 : Int) < (n1 : Int) + (n4 : Int) + (n3 : Int) := by omega
    go_enter Tryz.func4, Tryz.ntmps4
    go_wp2_with fail
    refine (nil_propose _ _).mono ?_
    rintro e w1 ⟨rfl, rfl⟩
    go_wp2_with fail
    refine (nil_state _).mono ?_
    rintro e w1 ⟨rfl, rfl⟩
    go_wp2_with fail
    refine (nil_log _).mono ?_
    rintro e w1 ⟨rfl, rfl⟩
    go_wp2_with fail
    refine (open_none _).mono ?_
    rintro e w1 ⟨rfl, rfl⟩
    go_wp2_with fail
    refine (new_any 100 _ (by decide)).mono ?_
    rintro e w1 ⟨d, F1, rfl, d1, l1, k1⟩
    have BG1 := hide (BG.out.keep k1)
    have K1 := hide (KA.out.trans (k1.mono KA.out.size))
    obtain ⟨g, hg⟩ : ∃ g, g = W.heap.size := ⟨_, rfl⟩
    rw [← hg] at BG1
    rw [← hg]
    have HG := hide hg
    clear d1 l1 k1 x3 x4 BG hg hbz
    go_wp2_with fail
    refine (open_two _ _).mono ?_
    rintro e w2 ⟨rfl, rfl⟩
    have y0 : w1.cell? ⟨g, 0, none⟩ = some (.int .i64 f) := BG1.out.cell 0
    have y1 : w1.cell? ⟨g, 1, none⟩ = some (.int .i64 t) := BG1.out.cell 1
    have y2 : w1.cell? ⟨g, 2, none⟩ = some (.int .i64 k) := BG1.out.cell 2
    have y3 : w1.cell? ⟨g, 3, none⟩ = some (.slice A3 n3 c3) := BG1.out.cell 3
    have y4 : w1.cell? ⟨g, 4, none⟩ = some (.slice A4 n4 c4) := BG1.out.cell 4
    have HGS := hide (show g ≤ w1.heap.size from Nat.le_of_lt BG1.out.lt)
    go_wp2_with fail
    go_region_held3 (fun W' => W'.cell? ⟨g, 0, none⟩ = some (.int .i64 f) ∧ W'.cell? ⟨g, 1, none⟩ = some (.int .i64 t) ∧ W'.cell? ⟨g, 2, none⟩ = some (.int .i64 k) ∧ W'.cell? ⟨g, 3, none⟩ = some (.slice A3 n3 c3) ∧ W'.cell? ⟨g, 4, none⟩ = some (.slice A4 n4 c4)) (go_keep)
      (first
        | (go_at_call 16; refine (nil_tick _ _).mono ?_; rintro e w2 ⟨rfl, rfl⟩)
        | (go_at_call 11; refine (nil_hear _ _ _ _ _ _ _ _ _ _ _).mono ?_; rintro e w3 ⟨rfl, k3⟩; have k4 : Below w1.heap.size w1 w3 := (by exact ⟨k3.os, k3.tape, k3.output, k3.size, k3.block⟩); have B3 := BG1.out.keep k4; have K3 := hide (K1.out.trans (k4.mono K1.out.size)); have z0 : w3.cell? ⟨g, 0, none⟩ = some (.int .i64 f) := B3.cell 0; have z1 : w3.cell? ⟨g, 1, none⟩ = some (.int .i64 t) := B3.cell 1; have z2 : w3.cell? ⟨g, 2, none⟩ = some (.int .i64 k) := B3.cell 2; have z3 : w3.cell? ⟨g, 3, none⟩ = some (.slice A3 n3 c3) := B3.cell 3; have z4 : w3.cell? ⟨g, 4, none⟩ = some (.slice A4 n4 c4) := B3.cell 4; have B3 := hide B3; clear k3 k4)
        | (go_at_call 17; refine (nil_take _).mono ?_; rintro e w4 ⟨rfl, rfl⟩)
        | (go_at_call 8; refine (known_any _).mono ?_; rintro e w5 ⟨rfl, k5⟩; have B5 := B3.out.keep k5; have K5 := hide (K3.out.trans (k5.mono K3.out.size)); have v0 : w5.cell? ⟨g, 0, none⟩ = some (.int .i64 f) := B5.cell 0; have v1 : w5.cell? ⟨g, 1, none⟩ = some (.int .i64 t) := B5.cell 1; have v2 : w5.cell? ⟨g, 2, none⟩ = some (.int .i64 k) := B5.cell 2; have v3 : w5.cell? ⟨g, 3, none⟩ = some (.slice A3 n3 c3) := B5.cell 3; have v4 : w5.cell? ⟨g, 4, none⟩ = some (.slice A4 n4 c4) := B5.cell 4; clear k5))
    go_wp2_with fail
    go_ret
    exact ⟨rfl, K5.out⟩
end Go.Proofs.YtejhoefmcldpnaaGreat
