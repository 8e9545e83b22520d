/- The document's Append where it is taken. No condition but the widths. -/
import Derived.Test.YtndffjgneapmdaaRApp
namespace Go.Proofs.Ytndffjgneapmdaa
open Go.RowKit Go.Maps
set_option maxRecDepth 100000 in
set_option maxHeartbeats 6400000 in
theorem rappend_old (G : Nat → Prop) (p room : Nat) (v : Value) (X : List (Str × Fil)) (s : ByteArray) (a : Fil) (P : Option Addr) (m cp : Nat) (ps : List Nat) (w : World) (h : RShell w G p room v X) (hr : Rise X) (hg : getK s.data.toList X = some a) (hn : 1 ≤ s.size ∧ s.size ≤ 64) (hroom : room ≤ 1099511627776) (hu : sumK filL X ≤ 1099511627776) (hmr : m ≤ 1099511627776)
    (hful : sumK filL X + m ≤ room) (hPB : IsB w (.slice P m cp) ps) (hPM : ps.length = m) (hP8 : ∀ x ∈ ps, x < 256) (hlen : a.2.1.length ≤ 1099511627776) :
    Calls Try.prog 25 #[.pointer (some ⟨p, 0, none⟩), .string s, .slice P m cp] w fun e w' => e = .returned (.int .i64 0) ∧ ∃ G' v' u, RShell w' G' p room v' (putK s.data.toList (u, a.2.1 ++ ps, a.2.2) X) ∧ Next G w G' w' := by
  obtain ⟨g, c, A, n, cc, rfl, ha, hxn, hncc, hcc, hXc, hc63, hGg, hgl, q0, q1, q2, fz⟩ := rfound h hr hg
  obtain ⟨hjl, hXj⟩ := posK_get hr hg
  have c0 : w.cell? ⟨p, 0, none⟩ = some (.int .i64 (room : Int)) := h.cells.cell 0
  have c1 : w.cell? ⟨p, 1, none⟩ = some (.slice (some ⟨g, 0, none⟩) X.length c) := h.cells.cell 1
  have HIN := hide (rIsName_any s w (by omega))
  rw [decide_eq_true hn] at HIN
  have HS := hide (spot_any G p room _ X s w h hr)
  have HQ := hide (fun u : Value => put_at (u, a.2.1 ++ ps, a.2.2) hr hg)
  have HX := hide h
  have ho := (h.each _ (getK_mem hg)).1
  have hb8 : ∀ x ∈ a.2.1, x < 256 := (h.each _ (getK_mem hg)).2.2
  have H8 : Hid (∀ x ∈ a.2.1 ++ ps, x < 256) := by
    intro x hx
    rcases List.mem_append.1 hx with hx | hx
    · exact hb8 x hx
    · exact hP8 x hx
  have HB : Hid (IsB w (.slice A n cc) a.2.1) := by
    have := ho.isB
    rw [show (s.data.toList, a).2.1 = a.1 from rfl, ha] at this
    exact this
  have HPB := hide hPB
  have HPM := hide hPM
  obtain ⟨N, hN⟩ : ∃ N, N = X.length := ⟨_, rfl⟩
  obtain ⟨j, hj⟩ : ∃ j, j = posK s.data.toList X := ⟨_, rfl⟩
  obtain ⟨u, hU⟩ : ∃ u, u = sumK filL X := ⟨_, rfl⟩
  have HXJ : Hid (∃ hj : j < X.length, X[j] = (s.data.toList, a)) := by
    subst hj
    exact ⟨hjl, hXj⟩
  rw [← hj, hg] at HS
  rw [← hj] at HQ hjl q0 q1 q2
  rw [← hN] at c1 hjl hXc
  rw [← hU] at hful
  have HU := hide hU
  have HUU := hide hu
  rw [← hU] at hu
  obtain ⟨u0, xs, l⟩ := a
  simp only at ha hxn hlen HB q2 H8
  subst ha
  have HN := hide hN
  have HNN := hide hxn
  have HGG := hide hGg
  have f2 := fz (j * 3 + 1)
  have hnl : n ≤ 1099511627776 := by omega
  have hgo : ¬ ((room : Int) < (u : Int) + (m : Int)) := by omega
  have hb : u + m ≤ 9223372036854775807 := by omega
  clear h hN hj hg hr hn hxn hGg q0 hXj ho hb8 q2 fz hPB hPM hP8 hU
  go_enter Try.func25, Try.ntmps25
  go_wp2_with fail
  refine HIN.out.mono ?_
  rintro e w0 ⟨rfl, rfl⟩
  go_wp2_with fail
  refine HS.out.mono ?_
  rintro e w1 ⟨rfl, dd, hd⟩
  have k1 : Below w.heap.size w w1 := by rw [hd]; exact below_drewN (Below.refl _ _) dd
  have c0' : w1.cell? ⟨p, 0, none⟩ = some (.int .i64 (room : Int)) := by rw [hd]; exact c0
  have c1' : w1.cell? ⟨p, 1, none⟩ = some (.slice (some ⟨g, 0, none⟩) N c) := by rw [hd]; exact c1
  have q1' : w1.cell? ⟨g, j * 3 + 1, none⟩ = some (.slice A n cc) := by rw [hd]; exact q1
  have f1' : w1.frozen? ⟨g, j * 3 + 1, none⟩ = false := by rw [hd]; exact f2
  have HK1 := hide k1
  have HX1 := hide (HX.out.below k1)
  clear hd c0 c1 f2 q1 k1
  go_wp2_with fail
  go_quiet ((go_at_call 41; refine Calls.quiet_of (v := .int .i64 (u : Int)) ?_; refine (rused_any G p room _ X _ (HX1.out.below (below_drewN (Below.refl _ _) _)) HUU.out).mono ?_; rintro e w' ⟨rfl, rfl⟩; exact ⟨by rw [HU.out], 0, rfl⟩))
  obtain ⟨w2, h2⟩ : ∃ w2, w2 = w1.drewN nq := ⟨_, rfl⟩
  rw [← h2]
  have k2 : Below w.heap.size w w2 := below_step HK1.out (by rw [h2]; exact below_drewN (Below.refl _ _) _)
  have c2' : w2.cell? ⟨p, 1, none⟩ = some (.slice (some ⟨g, 0, none⟩) N c) := by rw [h2]; exact c1'
  have q2' : w2.cell? ⟨g, j * 3 + 1, none⟩ = some (.slice A n cc) := by rw [h2]; exact q1'
  have f2' : w2.frozen? ⟨g, j * 3 + 1, none⟩ = false := by rw [h2]; exact f1'
  have hpl : p < w2.heap.size := cell_lt c2'
  have hgl2 : g < w2.heap.size := cell_lt q2'
  have HB2 := hide (HB.out.keep k2)
  have HPB2 := hide (HPB.out.keep k2)
  have HX2 := hide (HX.out.below k2)
  have N2 := hide (Next.of_below G k2)
  clear h2 c0' c1' q1' f1' k2 HX1
  have KA := below_alloc w2 (.cells #[] 5)
  go_wp2_with fail
  go_region_law (first
      | (refine step_append_bytes rfl (.tmp 52) (.tmp 60) rfl w2.heap.size _ [] rfl (own_emptyB (W := w2) (Nat.le_refl _) _ rfl) _ xs rfl (HB2.out.keep ⟨KA.os, KA.tape, KA.output, KA.size, KA.block⟩) (by rw [List.length_nil]; omega) KA.size ?_; intro v3 w3 o3 k3; rw [List.nil_append] at o3; have K3 : Below w2.heap.size w2 w3 := (by refine Below.trans ?_ k3; exact ⟨KA.os, KA.tape, KA.output, KA.size, KA.block⟩); have q3c : w3.cell? ⟨p, 1, none⟩ = some (.slice (some ⟨g, 0, none⟩) N c) := (by rw [← c2']; exact K3.cell hpl); have q3 : w3.cell? ⟨g, j * 3 + 1, none⟩ = some (.slice A n cc) := (by rw [← q2']; exact K3.cell hgl2); clear k3)
      | (refine step_append_bytes rfl (.tmp 61) (.tmp 62) rfl w2.heap.size _ xs rfl o3 _ ps rfl (HPB2.out.keep ⟨K3.os, K3.tape, K3.output, K3.size, K3.block⟩) (by rw [HPM.out]; omega) K3.size ?_; intro v4 w4 o4 k4; have K4 : Below w2.heap.size w2 w4 := (by refine Below.trans ?_ k4; exact ⟨K3.os, K3.tape, K3.output, K3.size, K3.block⟩); obtain ⟨A4, n4, c4, rfl⟩ := o4.shape; have q4c : w4.cell? ⟨p, 1, none⟩ = some (.slice (some ⟨g, 0, none⟩) N c) := (by rw [← c2']; exact K4.cell hpl); have q4 : w4.cell? ⟨g, j * 3 + 1, none⟩ = some (.slice A n cc) := (by rw [← q2']; exact K4.cell hgl2); have f4 : w4.frozen? ⟨g, j * 3 + 1, none⟩ = false := (by rw [← f2']; exact K4.frozen hgl2); have O4 := hide o4; have KK4 := hide K4; clear o4 k4 K4))
  all_goals
    obtain ⟨hjl', hXj⟩ := HXJ.out
    obtain ⟨G', s4, n4', g4⟩ := lay_bytes HX2.out KK4.out HGG.out j hjl' O4.out (Nat.le_refl _) H8.out
    rw [hXj] at s4
    have S4 : Hid (∃ G' v' u, RShell (w4.setCell ⟨g, j * 3 + 1, none⟩ (.slice A4 n4 c4)) G' p room v' (putK s.data.toList (u, xs ++ ps, l) X) ∧ Next G w G' (w4.setCell ⟨g, j * 3 + 1, none⟩ (.slice A4 n4 c4))) := by
      refine ⟨G', .slice (some ⟨g, 0, none⟩) X.length c, .slice A4 n4 c4, ?_, N2.out.trans n4'⟩
      rw [HQ.out]
      exact s4
    clear s4 n4' hXj g4
    go_wp2_with fail
    go_ret
    exact ⟨rfl, S4.out⟩
end Go.Proofs.Ytndffjgneapmdaa
