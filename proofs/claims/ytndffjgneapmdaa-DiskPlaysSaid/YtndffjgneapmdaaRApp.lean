/- The document's Append where it is refused. No condition but the widths. -/
import Derived.Test.YtndffjgneapmdaaRRot
import Derived.Test.YtndffjgneapmdaaRList2
import Derived.BigQuiet
namespace Go.Proofs.Ytndffjgneapmdaa
open Go.RowKit Go.Maps
theorem rappend_arg (p : Nat) (s : ByteArray) (v : Value) (w : World) (hs : ¬ (1 ≤ s.size ∧ s.size ≤ 64)) (hb : s.size ≤ 9223372036854775807) :
    Calls Try.prog 25 #[.pointer (some ⟨p, 0, none⟩), .string s, v] w fun e w' => e = .returned (.int .i64 1) ∧ w = w' := by
  have HT := hide (rIsName_any s w hb)
  rw [decide_eq_false hs] at HT
  clear hs
  go_enter Try.func25, Try.ntmps25
  go_wp2_with fail
  refine HT.out.mono ?_
  rintro e w0 ⟨rfl, rfl⟩
  go_wp2_with fail
  go_ret
  exact ⟨rfl, rfl⟩
set_option maxRecDepth 100000 in
set_option maxHeartbeats 1600000 in
theorem rappend_full (G : Nat → Prop) (p room : Nat) (v : Value) (X : List (Str × Fil)) (s : ByteArray) (P : Option Addr) (m cp : Nat) (w : World) (h : RShell w G p room v X) (hr : Rise X) (hn : 1 ≤ s.size ∧ s.size ≤ 64) (hroom : room ≤ 1099511627776) (hu : sumK filL X ≤ 1099511627776) (hmr : m ≤ 1099511627776)
    (his : ((getK s.data.toList X).isSome = true ∨ (getK s.data.toList X).isSome = false ∧ X.length < 256) ∧ room < sumK filL X + m ∨ (getK s.data.toList X).isSome = false ∧ 256 ≤ X.length) :
    Calls Try.prog 25 #[.pointer (some ⟨p, 0, none⟩), .string s, .slice P m cp] w fun e w' => e = .returned (.int .i64 6) ∧ ∃ d, w' = w.drewN d := by
  obtain ⟨A, c, rfl, hlc, hc63, _, _⟩ := h.form
  have c0 : w.cell? ⟨p, 0, none⟩ = some (.int .i64 (room : Int)) := h.cells.cell 0
  have c1 : w.cell? ⟨p, 1, none⟩ = some (.slice A X.length c) := h.cells.cell 1
  have HIN := hide (rIsName_any s w (by omega))
  rw [decide_eq_true hn] at HIN
  have HS := hide (spot_any G p room _ X s w h hr)
  have HX := hide h
  obtain ⟨is, hi⟩ : ∃ is, is = (getK s.data.toList X).isSome := ⟨_, rfl⟩
  obtain ⟨j, hj⟩ : ∃ j, j = posK s.data.toList X := ⟨_, rfl⟩
  obtain ⟨N, hN⟩ : ∃ N, N = X.length := ⟨_, rfl⟩
  obtain ⟨u, hU⟩ : ∃ u, u = sumK filL X := ⟨_, rfl⟩
  have hjN : j ≤ N := by rw [hj, hN]; exact pos_le _ _
  rw [← hi, ← hj] at HS
  rw [← hi, ← hN, ← hU] at his
  rw [← hN] at c1 hlc
  have HU := hide hU
  have HUU := hide hu
  rw [← hU] at hu
  clear h hi hj hN hr hn hU
  rcases his with ⟨rfl | ⟨rfl, hfew⟩, hful⟩ | ⟨rfl, hmany⟩
  · have hgo : (room : Int) < (u : Int) + (m : Int) := by omega
    have hb : u + m ≤ 9223372036854775807 := by omega
    go_enter Try.func25, Try.ntmps25
    go_wp2_with fail
    refine HIN.out.mono ?_
    rintro e w0 ⟨rfl, rfl⟩
    go_wp2_with fail
    refine HS.out.mono ?_
    rintro e w1 ⟨rfl, dd, hd⟩
    have c0' : w1.cell? ⟨p, 0, none⟩ = some (.int .i64 (room : Int)) := by rw [hd]; exact c0
    have c1' : w1.cell? ⟨p, 1, none⟩ = some (.slice A N c) := by rw [hd]; exact c1
    have HX1 := hide (HX.out.below (w' := w1) (by rw [hd]; exact below_drewN (Below.refl _ _) dd))
    have HD := hide hd
    clear hd c0 c1
    go_wp2_with fail
    go_quiet ((go_at_call 41; refine Calls.quiet_of (v := .int .i64 (u : Int)) ?_; refine (rused_any G p room _ X _ (HX1.out.below (below_drewN (Below.refl _ _) _)) HUU.out).mono ?_; rintro e w' ⟨rfl, rfl⟩; exact ⟨by rw [HU.out], 0, rfl⟩))
    go_wp2_with fail
    go_ret
    exact ⟨rfl, _, by rw [HD.out, World.drewN_drewN]⟩
  · have hfew2 : (decide (256 ≤ (N : Int))) = false := decide_eq_false (by omega)
    have hfew3 : ¬ (256 ≤ (N : Int)) := by omega
    have hgo : (room : Int) < (u : Int) + (m : Int) := by omega
    have hb : u + m ≤ 9223372036854775807 := by omega
    go_enter Try.func25, Try.ntmps25
    go_wp2_with fail
    refine HIN.out.mono ?_
    rintro e w0 ⟨rfl, rfl⟩
    go_wp2_with fail
    refine HS.out.mono ?_
    rintro e w1 ⟨rfl, dd, hd⟩
    have c0' : w1.cell? ⟨p, 0, none⟩ = some (.int .i64 (room : Int)) := by rw [hd]; exact c0
    have c1' : w1.cell? ⟨p, 1, none⟩ = some (.slice A N c) := by rw [hd]; exact c1
    have HX1 := hide (HX.out.below (w' := w1) (by rw [hd]; exact below_drewN (Below.refl _ _) dd))
    have HD := hide hd
    clear hd c0 c1
    go_wp2_with fail
    go_quiet ((go_at_call 41; refine Calls.quiet_of (v := .int .i64 (u : Int)) ?_; refine (rused_any G p room _ X _ (HX1.out.below (below_drewN (Below.refl _ _) _)) HUU.out).mono ?_; rintro e w' ⟨rfl, rfl⟩; exact ⟨by rw [HU.out], 0, rfl⟩))
    go_wp2_with fail
    go_ret
    exact ⟨rfl, _, by rw [HD.out, World.drewN_drewN]⟩
  · have hmany2 : (decide (256 ≤ (N : Int))) = true := decide_eq_true (by omega)
    have hmany3 : 256 ≤ (N : Int) := by omega
    go_enter Try.func25, Try.ntmps25
    go_wp2_with fail
    refine HIN.out.mono ?_
    rintro e w0 ⟨rfl, rfl⟩
    go_wp2_with fail
    refine HS.out.mono ?_
    rintro e w1 ⟨rfl, dd, hd⟩
    have c0' : w1.cell? ⟨p, 0, none⟩ = some (.int .i64 (room : Int)) := by rw [hd]; exact c0
    have c1' : w1.cell? ⟨p, 1, none⟩ = some (.slice A N c) := by rw [hd]; exact c1
    have HD := hide hd
    clear hd c0 c1
    go_wp2_with fail
    go_region
    all_goals
      go_wp2_with fail
      go_ret
      exact ⟨rfl, dd + 1, by rw [HD.out]; exact World.drewN_drewN w dd 1⟩
end Go.Proofs.Ytndffjgneapmdaa
