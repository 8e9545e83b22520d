/- The document's Append where it is refused. No condition but the widths. The document's Append where it is taken. No condition but the widths. The document's Append to a new file. No condition but the widths. The document's Remove. No condition but the widths. The document's Rename where it is done. No condition but the widths. The contracts of the document's own Draw and Round. Condition: numbers far below 2 to the 63. -/
import Derived.Test.YtmledochidefeaaK18
import Derived.BigQuiet
import Derived.Test.YtmledochidefeaaK1
namespace Go.Proofs.Ytmledochidefeaa
open Go.RowKit Go.Maps
theorem rappend_arg (p : Nat) (s : ByteArray) (v : Value) (w : World) (hs : ¬ (1 ≤ s.size ∧ s.size ≤ 64)) (hb : s.size ≤ 9223372036854775807) :
    Calls Try.prog 30 #[.pointer (some ⟨p, 0, none⟩), .string s, v] w fun e w' => e = .returned (.int .i64 1) ∧ w = w' := by
  have HT := hide (rIsName_any s w hb)
  rw [decide_eq_false hs] at HT
  clear hs
  go_enter Try.func30, Try.ntmps30
  go_wp2_with fail
  refine HT.out.mono ?_
  rintro e w0 ⟨rfl, rfl⟩
  go_wp2_with fail
  go_ret
  exact ⟨rfl, rfl⟩
set_option maxRecDepth 100000 in
set_option maxHeartbeats 1600000 in
theorem rappend_full (G : Nat → Prop) (p room : Nat) (v : Value) (X : List (Str × Fil)) (s : ByteArray) (P : Option Addr) (m cp : Nat) (w : World) (h : RShell w G p room v X) (hr : Rise X) (hn : 1 ≤ s.size ∧ s.size ≤ 64) (hroom : room ≤ 1099511627776) (hu : sumK filL X ≤ 1099511627776) (hmr : m ≤ 1099511627776)
    (his : ((getK s.data.toList X).isSome = true ∨ (getK s.data.toList X).isSome = false ∧ X.length < 256) ∧ room < sumK filL X + m ∨ (getK s.data.toList X).isSome = false ∧ 256 ≤ X.length) :
    Calls Try.prog 30 #[.pointer (some ⟨p, 0, none⟩), .string s, .slice P m cp] w fun e w' => e = .returned (.int .i64 6) ∧ ∃ d, w' = w.drewN d := by
  obtain ⟨A, c, rfl, hlc, hc63, _, _⟩ := h.form
  have c0 : w.cell? ⟨p, 0, none⟩ = some (.int .i64 (room : Int)) := h.cells.cell 0
  have c1 : w.cell? ⟨p, 1, none⟩ = some (.slice A X.length c) := h.cells.cell 1
  have HIN := hide (rIsName_any s w (by omega))
  rw [decide_eq_true hn] at HIN
  have HS := hide (spot_any G p room _ X s w h hr)
  have HX := hide h
  obtain ⟨is, hi⟩ : ∃ is, is = (getK s.data.toList X).isSome := ⟨_, rfl⟩
  obtain ⟨j, hj⟩ : ∃ j, j = posK s.data.toList X := ⟨_, rfl⟩
  obtain ⟨N, hN⟩ : ∃ N, N = X.length := ⟨_, rfl⟩
  obtain ⟨u, hU⟩ : ∃ u, u = sumK filL X := ⟨_, rfl⟩
  have hjN : j ≤ N := by rw [hj, hN]; exact pos_le _ _
  rw [← hi, ← hj] at HS
  rw [← hi, ← hN, ← hU] at his
  rw [← hN] at c1 hlc
  have HU := hide hU
  have HUU := hide hu
  rw [← hU] at hu
  clear h hi hj hN hr hn hU
  rcases his with ⟨rfl | ⟨rfl, hfew⟩, hful⟩ | ⟨rfl, hmany⟩
  · have hgo : (room : Int) < (u : Int) + (m : Int) := by omega
    have hb : u + m ≤ 9223372036854775807 := by omega
    go_enter Try.func30, Try.ntmps30
    go_wp2_with fail
    refine HIN.out.mono ?_
    rintro e w0 ⟨rfl, rfl⟩
    go_wp2_with fail
    refine HS.out.mono ?_
    rintro e w1 ⟨rfl, dd, hd⟩
    have c0' : w1.cell? ⟨p, 0, none⟩ = some (.int .i64 (room : Int)) := by rw [hd]; exact c0
    have c1' : w1.cell? ⟨p, 1, none⟩ = some (.slice A N c) := by rw [hd]; exact c1
    have HX1 := hide (HX.out.below (w' := w1) (by rw [hd]; exact below_drewN (Below.refl _ _) dd))
    have HD := hide hd
    clear hd c0 c1
    go_wp2_with fail
    go_quiet ((go_at_call 52; refine Calls.quiet_of (v := .int .i64 (u : Int)) ?_; refine (rused_any G p room _ X _ (HX1.out.below (below_drewN (Below.refl _ _) _)) HUU.out).mono ?_; rintro e w' ⟨rfl, rfl⟩; exact ⟨by rw [HU.out], 0, rfl⟩))
    go_wp2_with fail
    go_ret
    exact ⟨rfl, _, by rw [HD.out, World.drewN_drewN]⟩
  · have hfew2 : (decide (256 ≤ (N : Int))) = false := decide_eq_false (by omega)
    have hfew3 : ¬ (256 ≤ (N : Int)) := by omega
    have hgo : (room : Int) < (u : Int) + (m : Int) := by omega
    have hb : u + m ≤ 9223372036854775807 := by omega
    go_enter Try.func30, Try.ntmps30
    go_wp2_with fail
    refine HIN.out.mono ?_
    rintro e w0 ⟨rfl, rfl⟩
    go_wp2_with fail
    refine HS.out.mono ?_
    rintro e w1 ⟨rfl, dd, hd⟩
    have c0' : w1.cell? ⟨p, 0, none⟩ = some (.int .i64 (room : Int)) := by rw [hd]; exact c0
    have c1' : w1.cell? ⟨p, 1, none⟩ = some (.slice A N c) := by rw [hd]; exact c1
    have HX1 := hide (HX.out.below (w' := w1) (by rw [hd]; exact below_drewN (Below.refl _ _) dd))
    have HD := hide hd
    clear hd c0 c1
    go_wp2_with fail
    go_quiet ((go_at_call 52; refine Calls.quiet_of (v := .int .i64 (u : Int)) ?_; refine (rused_any G p room _ X _ (HX1.out.below (below_drewN (Below.refl _ _) _)) HUU.out).mono ?_; rintro e w' ⟨rfl, rfl⟩; exact ⟨by rw [HU.out], 0, rfl⟩))
    go_wp2_with fail
    go_ret
    exact ⟨rfl, _, by rw [HD.out, World.drewN_drewN]⟩
  · have hmany2 : (decide (256 ≤ (N : Int))) = true := decide_eq_true (by omega)
    have hmany3 : 256 ≤ (N : Int) := by omega
    go_enter Try.func30, Try.ntmps30
    go_wp2_with fail
    refine HIN.out.mono ?_
    rintro e w0 ⟨rfl, rfl⟩
    go_wp2_with fail
    refine HS.out.mono ?_
    rintro e w1 ⟨rfl, dd, hd⟩
    have c0' : w1.cell? ⟨p, 0, none⟩ = some (.int .i64 (room : Int)) := by rw [hd]; exact c0
    have c1' : w1.cell? ⟨p, 1, none⟩ = some (.slice A N c) := by rw [hd]; exact c1
    have HD := hide hd
    clear hd c0 c1
    go_wp2_with fail
    go_region
    all_goals
      go_wp2_with fail
      go_ret
      exact ⟨rfl, dd + 1, by rw [HD.out]; exact World.drewN_drewN w dd 1⟩
end Go.Proofs.Ytmledochidefeaa
namespace Go.Proofs.Ytmledochidefeaa
open Go.RowKit Go.Maps
set_option maxRecDepth 100000 in
set_option maxHeartbeats 6400000 in
theorem rappend_old (G : Nat → Prop) (p room : Nat) (v : Value) (X : List (Str × Fil)) (s : ByteArray) (a : Fil) (P : Option Addr) (m cp : Nat) (ps : List Nat) (w : World) (h : RShell w G p room v X) (hr : Rise X) (hg : getK s.data.toList X = some a) (hn : 1 ≤ s.size ∧ s.size ≤ 64) (hroom : room ≤ 1099511627776) (hu : sumK filL X ≤ 1099511627776) (hmr : m ≤ 1099511627776)
    (hful : sumK filL X + m ≤ room) (hPB : IsB w (.slice P m cp) ps) (hPM : ps.length = m) (hP8 : ∀ x ∈ ps, x < 256) (hlen : a.2.1.length ≤ 1099511627776) :
    Calls Try.prog 30 #[.pointer (some ⟨p, 0, none⟩), .string s, .slice P m cp] w fun e w' => e = .returned (.int .i64 0) ∧ ∃ G' v' u, RShell w' G' p room v' (putK s.data.toList (u, a.2.1 ++ ps, a.2.2) X) ∧ Next G w G' w' := by
  obtain ⟨g, c, A, n, cc, rfl, ha, hxn, hncc, hcc, hXc, hc63, hGg, hgl, q0, q1, q2, fz⟩ := rfound h hr hg
  obtain ⟨hjl, hXj⟩ := posK_get hr hg
  have c0 : w.cell? ⟨p, 0, none⟩ = some (.int .i64 (room : Int)) := h.cells.cell 0
  have c1 : w.cell? ⟨p, 1, none⟩ = some (.slice (some ⟨g, 0, none⟩) X.length c) := h.cells.cell 1
  have HIN := hide (rIsName_any s w (by omega))
  rw [decide_eq_true hn] at HIN
  have HS := hide (spot_any G p room _ X s w h hr)
  have HQ := hide (fun u : Value => put_at (u, a.2.1 ++ ps, a.2.2) hr hg)
  have HX := hide h
  have ho := (h.each _ (getK_mem hg)).1
  have hb8 : ∀ x ∈ a.2.1, x < 256 := (h.each _ (getK_mem hg)).2.2
  have H8 : Hid (∀ x ∈ a.2.1 ++ ps, x < 256) := by
    intro x hx
    rcases List.mem_append.1 hx with hx | hx
    · exact hb8 x hx
    · exact hP8 x hx
  have HB : Hid (IsB w (.slice A n cc) a.2.1) := by
    have := ho.isB
    rw [show (s.data.toList, a).2.1 = a.1 from rfl, ha] at this
    exact this
  have HPB := hide hPB
  have HPM := hide hPM
  obtain ⟨N, hN⟩ : ∃ N, N = X.length := ⟨_, rfl⟩
  obtain ⟨j, hj⟩ : ∃ j, j = posK s.data.toList X := ⟨_, rfl⟩
  obtain ⟨u, hU⟩ : ∃ u, u = sumK filL X := ⟨_, rfl⟩
  have HXJ : Hid (∃ hj : j < X.length, X[j] = (s.data.toList, a)) := by
    subst hj
    exact ⟨hjl, hXj⟩
  rw [← hj, hg] at HS
  rw [← hj] at HQ hjl q0 q1 q2
  rw [← hN] at c1 hjl hXc
  rw [← hU] at hful
  have HU := hide hU
  have HUU := hide hu
  rw [← hU] at hu
  obtain ⟨u0, xs, l⟩ := a
  simp only at ha hxn hlen HB q2 H8
  subst ha
  have HN := hide hN
  have HNN := hide hxn
  have HGG := hide hGg
  have f2 := fz (j * 3 + 1)
  have hnl : n ≤ 1099511627776 := by omega
  have hgo : ¬ ((room : Int) < (u : Int) + (m : Int)) := by omega
  have hb : u + m ≤ 9223372036854775807 := by omega
  clear h hN hj hg hr hn hxn hGg q0 hXj ho hb8 q2 fz hPB hPM hP8 hU
  go_enter Try.func30, Try.ntmps30
  go_wp2_with fail
  refine HIN.out.mono ?_
  rintro e w0 ⟨rfl, rfl⟩
  go_wp2_with fail
  refine HS.out.mono ?_
  rintro e w1 ⟨rfl, dd, hd⟩
  have k1 : Below w.heap.size w w1 := by rw [hd]; exact below_drewN (Below.refl _ _) dd
  have c0' : w1.cell? ⟨p, 0, none⟩ = some (.int .i64 (room : Int)) := by rw [hd]; exact c0
  have c1' : w1.cell? ⟨p, 1, none⟩ = some (.slice (some ⟨g, 0, none⟩) N c) := by rw [hd]; exact c1
  have q1' : w1.cell? ⟨g, j * 3 + 1, none⟩ = some (.slice A n cc) := by rw [hd]; exact q1
  have f1' : w1.frozen? ⟨g, j * 3 + 1, none⟩ = false := by rw [hd]; exact f2
  have HK1 := hide k1
  have HX1 := hide (HX.out.below k1)
  clear hd c0 c1 f2 q1 k1
  go_wp2_with fail
  go_quiet ((go_at_call 52; refine Calls.quiet_of (v := .int .i64 (u : Int)) ?_; refine (rused_any G p room _ X _ (HX1.out.below (below_drewN (Below.refl _ _) _)) HUU.out).mono ?_; rintro e w' ⟨rfl, rfl⟩; exact ⟨by rw [HU.out], 0, rfl⟩))
  obtain ⟨w2, h2⟩ : ∃ w2, w2 = w1.drewN nq := ⟨_, rfl⟩
  rw [← h2]
  have k2 : Below w.heap.size w w2 := below_step HK1.out (by rw [h2]; exact below_drewN (Below.refl _ _) _)
  have c2' : w2.cell? ⟨p, 1, none⟩ = some (.slice (some ⟨g, 0, none⟩) N c) := by rw [h2]; exact c1'
  have q2' : w2.cell? ⟨g, j * 3 + 1, none⟩ = some (.slice A n cc) := by rw [h2]; exact q1'
  have f2' : w2.frozen? ⟨g, j * 3 + 1, none⟩ = false := by rw [h2]; exact f1'
  have hpl : p < w2.heap.size := cell_lt c2'
  have hgl2 : g < w2.heap.size := cell_lt q2'
  have HB2 := hide (HB.out.keep k2)
  have HPB2 := hide (HPB.out.keep k2)
  have HX2 := hide (HX.out.below k2)
  have N2 := hide (Next.of_below G k2)
  clear h2 c0' c1' q1' f1' k2 HX1
  have KA := below_alloc w2 (.cells #[] 5)
  go_wp2_with fail
  go_region_law (first
      | (refine step_append_bytes rfl (.tmp 52) (.tmp 60) rfl w2.heap.size _ [] rfl (own_emptyB (W := w2) (Nat.le_refl _) _ rfl) _ xs rfl (HB2.out.keep ⟨KA.os, KA.tape, KA.output, KA.size, KA.block⟩) (by rw [List.length_nil]; omega) KA.size ?_; intro v3 w3 o3 k3; rw [List.nil_append] at o3; have K3 : Below w2.heap.size w2 w3 := (by refine Below.trans ?_ k3; exact ⟨KA.os, KA.tape, KA.output, KA.size, KA.block⟩); have q3c : w3.cell? ⟨p, 1, none⟩ = some (.slice (some ⟨g, 0, none⟩) N c) := (by rw [← c2']; exact K3.cell hpl); have q3 : w3.cell? ⟨g, j * 3 + 1, none⟩ = some (.slice A n cc) := (by rw [← q2']; exact K3.cell hgl2); clear k3)
      | (refine step_append_bytes rfl (.tmp 61) (.tmp 62) rfl w2.heap.size _ xs rfl o3 _ ps rfl (HPB2.out.keep ⟨K3.os, K3.tape, K3.output, K3.size, K3.block⟩) (by rw [HPM.out]; omega) K3.size ?_; intro v4 w4 o4 k4; have K4 : Below w2.heap.size w2 w4 := (by refine Below.trans ?_ k4; exact ⟨K3.os, K3.tape, K3.output, K3.size, K3.block⟩); obtain ⟨A4, n4, c4, rfl⟩ := o4.shape; have q4c : w4.cell? ⟨p, 1, none⟩ = some (.slice (some ⟨g, 0, none⟩) N c) := (by rw [← c2']; exact K4.cell hpl); have q4 : w4.cell? ⟨g, j * 3 + 1, none⟩ = some (.slice A n cc) := (by rw [← q2']; exact K4.cell hgl2); have f4 : w4.frozen? ⟨g, j * 3 + 1, none⟩ = false := (by rw [← f2']; exact K4.frozen hgl2); have O4 := hide o4; have KK4 := hide K4; clear o4 k4 K4))
  all_goals
    obtain ⟨hjl', hXj⟩ := HXJ.out
    obtain ⟨G', s4, n4', g4⟩ := lay_bytes HX2.out KK4.out HGG.out j hjl' O4.out (Nat.le_refl _) H8.out
    rw [hXj] at s4
    have S4 : Hid (∃ G' v' u, RShell (w4.setCell ⟨g, j * 3 + 1, none⟩ (.slice A4 n4 c4)) G' p room v' (putK s.data.toList (u, xs ++ ps, l) X) ∧ Next G w G' (w4.setCell ⟨g, j * 3 + 1, none⟩ (.slice A4 n4 c4))) := by
      refine ⟨G', .slice (some ⟨g, 0, none⟩) X.length c, .slice A4 n4 c4, ?_, N2.out.trans n4'⟩
      rw [HQ.out]
      exact s4
    clear s4 n4' hXj g4
    go_wp2_with fail
    go_ret
    exact ⟨rfl, S4.out⟩
end Go.Proofs.Ytmledochidefeaa
namespace Go.Proofs.Ytmledochidefeaa
open Go.RowKit Go.Maps
theorem IsB.turnE {S : Nat → Prop} {w w' : World} {v : Value} {xs : List Nat} (h : IsB w v xs) (t : Turn S w w') (ho : xs ≠ [] → Off S v) : IsB w' v xs := by
  rcases xs with _ | ⟨x, xs⟩
  · obtain ⟨A, c, e, _, hn⟩ := h
    exact ⟨A, c, e, fun hne => absurd rfl hne, hn⟩
  · exact h.turn t (ho (by simp))
theorem set_mid {α : Type} (X : List α) (j : Nat) (hj : j ≤ X.length) (y z : α) : (X.take j ++ y :: X.drop j).set j z = X.take j ++ z :: X.drop j := by
  have hl : (X.take j).length = j := by rw [List.length_take]; omega
  rw [List.set_append_right (h := by omega), hl, Nat.sub_self, List.set_cons_zero]
theorem length_mid {α : Type} (X : List α) (j : Nat) (hj : j ≤ X.length) (y : α) : (X.take j ++ y :: X.drop j).length = X.length + 1 := by
  rw [List.length_append, List.length_cons, List.length_take, List.length_drop]
  omega
theorem get_mid {α : Type} (X : List α) (j : Nat) (hj : j ≤ X.length) (y : α) : ∃ h : j < (X.take j ++ y :: X.drop j).length, (X.take j ++ y :: X.drop j)[j] = y := by
  have hl : (X.take j).length = j := by rw [List.length_take]; omega
  refine ⟨by rw [length_mid X j hj]; omega, ?_⟩
  rw [List.getElem_append_right (by omega)]
  simp [hl]
theorem put_mid {k : Str} (b : Fil) {X : List (Str × Fil)} (hg : getK k X = none) : putK k b X = X.take (posK k X) ++ (k, b) :: X.drop (posK k X) := by
  unfold putK
  rw [delK_of_none hg]
  exact ins_at k b (fun q hq => getK_none hg q hq)
set_option maxRecDepth 100000 in
set_option maxHeartbeats 6400000 in
theorem rappend_new (G : Nat → Prop) (p room : Nat) (v : Value) (X : List (Str × Fil)) (s : ByteArray) (P : Option Addr) (m cp : Nat) (ps : List Nat) (w : World) (h : RShell w G p room v X) (hr : Rise X) (hg : getK s.data.toList X = none) (hfew : X.length < 256) (hn : 1 ≤ s.size ∧ s.size ≤ 64) (hroom : room ≤ 1099511627776) (hu : sumK filL X ≤ 1099511627776) (hmr : m ≤ 1099511627776)
    (hful : sumK filL X + m ≤ room) (hPB : IsB w (.slice P m cp) ps) (hPM : ps.length = m) (hP8 : ∀ x ∈ ps, x < 256) (hPG : ps ≠ [] → Off G (.slice P m cp)) :
    Calls Try.prog 30 #[.pointer (some ⟨p, 0, none⟩), .string s, .slice P m cp] w fun e w' => e = .returned (.int .i64 0) ∧ ∃ G' v' u, RShell w' G' p room v' (putK s.data.toList (u, ps, 0) X) ∧ Next G w G' w' := by
  obtain ⟨A0, cap0, rfl, hlc, hc63, -, -⟩ := h.form
  have c0 : w.cell? ⟨p, 0, none⟩ = some (.int .i64 (room : Int)) := h.cells.cell 0
  have c1 : w.cell? ⟨p, 1, none⟩ = some (.slice A0 X.length cap0) := h.cells.cell 1
  have HIN := hide (rIsName_any s w (by omega))
  rw [decide_eq_true hn] at HIN
  have HS := hide (spot_any G p room _ X s w h hr)
  have HQ := hide (fun u : Value => put_mid (u, ps, 0) hg)
  have HX := hide h
  have H8 := hide hP8
  have HPB := hide hPB
  have HPM := hide hPM
  have HPG := hide hPG
  obtain ⟨N, hN⟩ : ∃ N, N = X.length := ⟨_, rfl⟩
  obtain ⟨j, hj⟩ : ∃ j, j = posK s.data.toList X := ⟨_, rfl⟩
  obtain ⟨u, hU⟩ : ∃ u, u = sumK filL X := ⟨_, rfl⟩
  have hjX : j ≤ X.length := by rw [hj]; exact pos_le _ _
  have HJ := hide hjX
  rw [← hj, hg] at HS
  rw [← hj] at HQ
  rw [← hN] at c1 hlc hfew hjX
  rw [← hU] at hful
  have HU := hide hU
  have HUU := hide hu
  rw [← hU] at hu
  have HN := hide hN
  have hfew2 : (decide (256 ≤ (N : Int))) = false := decide_eq_false (by omega)
  have hfew3 : ¬ (256 ≤ (N : Int)) := by omega
  have hgo : ¬ ((room : Int) < (u : Int) + (m : Int)) := by omega
  have hb : u + m ≤ 9223372036854775807 := by omega
  clear h hN hj hg hr hn hPB hPM hP8 hU hPG
  go_enter Try.func30, Try.ntmps30
  go_wp2_with fail
  refine HIN.out.mono ?_
  rintro e w0 ⟨rfl, rfl⟩
  go_wp2_with fail
  refine HS.out.mono ?_
  rintro e w1 ⟨rfl, dd, hd⟩
  have k1 : Below w.heap.size w w1 := by rw [hd]; exact below_drewN (Below.refl _ _) dd
  have c0' : w1.cell? ⟨p, 0, none⟩ = some (.int .i64 (room : Int)) := by rw [hd]; exact c0
  have c1' : w1.cell? ⟨p, 1, none⟩ = some (.slice A0 N cap0) := by rw [hd]; exact c1
  have HK1 := hide k1
  have HX1 := hide (HX.out.below k1)
  clear hd c0 c1 k1
  go_wp2_with fail
  go_quiet ((go_at_call 52; refine Calls.quiet_of (v := .int .i64 (u : Int)) ?_; refine (rused_any G p room _ X _ (HX1.out.below (below_drewN (Below.refl _ _) _)) HUU.out).mono ?_; rintro e w' ⟨rfl, rfl⟩; exact ⟨by rw [HU.out], 0, rfl⟩))
  obtain ⟨w2, h2⟩ : ∃ w2, w2 = w1.drewN nq := ⟨_, rfl⟩
  rw [← h2]
  have k2 : Below w.heap.size w w2 := below_step HK1.out (by rw [h2]; exact below_drewN (Below.refl _ _) _)
  have HX2 := hide (HX.out.below k2)
  have HK2 := hide k2
  clear h2 c0' c1' k2 HX1 HK1
  go_wp2_with fail
  refine (insert_any G p room _ X j s none 0 0 [] 0 _ HX2.out (by rw [← HN.out]; omega) HJ.out (World.ownsRow_nil _ _ _ _) (fun b hb => by simp [Value.ownBlock] at hb) (fun x hx => by cases hx)).mono ?_
  rintro e w5 ⟨rfl, G1, v1, s5, n5⟩
  obtain ⟨hj1, hgj⟩ := get_mid X j HJ.out ((s.data.toList, (.slice none 0 0, [], 0)) : Str × Fil)
  have hset := fun u : Value => set_mid X j HJ.out ((s.data.toList, (.slice none 0 0, [], 0)) : Str × Fil) (s.data.toList, (u, ps, 0))
  obtain ⟨Y, hY⟩ : ∃ Y, Y = X.take j ++ ((s.data.toList, (.slice none 0 0, [], 0)) : Str × Fil) :: X.drop j := ⟨_, rfl⟩
  have HQ5 : Hid (∀ u : Value, putK s.data.toList (u, ps, 0) X = Y.set j (s.data.toList, (u, ps, 0))) := by
    intro u
    rw [HQ.out, hY, hset]
  have HYJ : Hid (∃ hj : j < Y.length, Y[j] = (s.data.toList, (.slice none 0 0, [], 0))) := by
    subst hY
    exact ⟨hj1, hgj⟩
  rw [← hY] at s5
  clear hset hY hj1 hgj
  obtain ⟨hj1, hgj⟩ := HYJ.out
  obtain ⟨A1, c, rfl, hMc, hc63', -, hcl⟩ := s5.form
  obtain ⟨g, rfl, hGg, -, -, -, -, -⟩ := hcl j hj1
  clear hcl
  obtain ⟨-, q5a, -, f5a⟩ := s5.at_ j hj1
  rw [hgj] at q5a
  have q5' : w5.cell? ⟨g, j * 3 + 1, none⟩ = some (.slice none 0 0) := q5a
  have f5' := f5a (j * 3 + 1)
  have c5' : w5.cell? ⟨p, 1, none⟩ = some (.slice (some ⟨g, 0, none⟩) Y.length c) := s5.cells.cell 1
  have hpl5 : p < w5.heap.size := cell_lt c5'
  have hgl5 : g < w5.heap.size := cell_lt q5'
  have HPB5 := hide ((HPB.out.keep HK2.out).turnE n5.turn HPG.out)
  have HB5 : Hid (IsB w5 (.slice none 0 0) []) := Own.isB (show Own w5 0 (.slice none 0 0) [] from World.ownsRow_nil w5 0 _ _)
  have HX5 := hide s5
  have HGG := hide hGg
  have N5 := hide ((Next.of_below G HK2.out).trans n5)
  obtain ⟨M, hM⟩ : ∃ M, M = Y.length := ⟨_, rfl⟩
  have hjM : j < M := by rw [hM]; exact hj1
  rw [← hM] at c5' hMc
  clear s5 n5 q5a f5a hGg hgj hj1 hM
  have KA := below_alloc w5 (.cells #[] 5)
  go_wp2_with fail
  go_region_law (first
      | (refine step_append_bytes rfl (.tmp 52) (.tmp 60) rfl w5.heap.size _ [] rfl (own_emptyB (W := w5) (Nat.le_refl _) _ rfl) _ [] rfl (HB5.out.keep ⟨KA.os, KA.tape, KA.output, KA.size, KA.block⟩) (by rw [List.length_nil]; omega) KA.size ?_; intro v3 w3 o3 k3; rw [List.nil_append] at o3; have K3 : Below w5.heap.size w5 w3 := (by refine Below.trans ?_ k3; exact ⟨KA.os, KA.tape, KA.output, KA.size, KA.block⟩); have q3c : w3.cell? ⟨p, 1, none⟩ = some (.slice (some ⟨g, 0, none⟩) M c) := (by rw [← c5']; exact K3.cell hpl5); have q3 : w3.cell? ⟨g, j * 3 + 1, none⟩ = some (.slice none 0 0) := (by rw [← q5']; exact K3.cell hgl5); clear k3)
      | (refine step_append_bytes rfl (.tmp 61) (.tmp 62) rfl w5.heap.size _ [] rfl o3 _ ps rfl (HPB5.out.keep ⟨K3.os, K3.tape, K3.output, K3.size, K3.block⟩) (by rw [HPM.out, List.length_nil]; omega) K3.size ?_; intro v4 w4 o4 k4; have K4 : Below w5.heap.size w5 w4 := (by refine Below.trans ?_ k4; exact ⟨K3.os, K3.tape, K3.output, K3.size, K3.block⟩); obtain ⟨A4, n4, c4, rfl⟩ := o4.shape; have q4c : w4.cell? ⟨p, 1, none⟩ = some (.slice (some ⟨g, 0, none⟩) M c) := (by rw [← c5']; exact K4.cell hpl5); have q4 : w4.cell? ⟨g, j * 3 + 1, none⟩ = some (.slice none 0 0) := (by rw [← q5']; exact K4.cell hgl5); have f4 : w4.frozen? ⟨g, j * 3 + 1, none⟩ = false := (by rw [← f5']; exact K4.frozen hgl5); have O4 := hide o4; have KK4 := hide K4; clear o4 k4 K4))
  all_goals
    obtain ⟨hj1, hgj⟩ := HYJ.out
    obtain ⟨G', s4, n4', g4⟩ := lay_bytes HX5.out KK4.out HGG.out j hj1 O4.out (Nat.le_refl _) H8.out
    rw [hgj] at s4
    have S4 : Hid (∃ G' v' u, RShell (w4.setCell ⟨g, j * 3 + 1, none⟩ (.slice A4 n4 c4)) G' p room v' (putK s.data.toList (u, ps, 0) X) ∧ Next G w G' (w4.setCell ⟨g, j * 3 + 1, none⟩ (.slice A4 n4 c4))) := by
      refine ⟨G', .slice (some ⟨g, 0, none⟩) Y.length c, .slice A4 n4 c4, ?_, N5.out.trans n4'⟩
      rw [HQ5.out]
      exact s4
    clear s4 n4' hgj g4
    go_wp2_with fail
    go_ret
    exact ⟨rfl, S4.out⟩
end Go.Proofs.Ytmledochidefeaa
namespace Go.Proofs.Ytmledochidefeaa
open Go.RowKit Go.Maps
set_option maxRecDepth 100000 in
set_option maxHeartbeats 1600000 in
theorem rremove_some (G : Nat → Prop) (p room : Nat) (v : Value) (X : List (Str × Fil)) (s : ByteArray) (a : Fil) (w : World) (h : RShell w G p room v X) (hlen : X.length ≤ 256) (hr : Rise X) (hg : getK s.data.toList X = some a) :
    Calls Try.prog 42 #[.pointer (some ⟨p, 0, none⟩), .string s] w fun e w' => e = .returned (.int .i64 0) ∧ ∃ G' v', RShell w' G' p room v' (delK s.data.toList X) ∧ Next G w G' w' ∧ U8 w w' := by
  obtain ⟨A0, c0, rfl, hlc, hc63, hn0, hcell⟩ := h.form
  obtain ⟨hjl, _⟩ := posK_get hr hg
  obtain ⟨g, rfl, _⟩ := hcell _ hjl
  have c1 : w.cell? ⟨p, 1, none⟩ = some (.slice (some ⟨g, 0, none⟩) X.length c0) := h.cells.cell 1
  have hpl := h.low p h.own
  have f1 := h.cells.frozen 1
  have HS := hide (spot_any G p room _ X s w h hr)
  have HD := hide (del_at hr hg)
  obtain ⟨N, hN⟩ : ∃ N, N = X.length := ⟨_, rfl⟩
  obtain ⟨j, hj⟩ : ∃ j, j = posK s.data.toList X := ⟨_, rfl⟩
  have HX := hide h
  have HE := hide (fun q hq => (h.each q hq).1 : ∀ q ∈ X, Own w 0 q.2.1 q.2.2.1)
  have HR := hide h.row
  rw [← hj, hg] at HS
  rw [← hj] at HD hjl
  rw [← hN] at c1 hlc hlen hjl
  have HN := hide hN
  clear h hcell hN hn0 hj hg hr
  go_enter Try.func42, Try.ntmps42
  go_wp2_with fail
  refine HS.out.mono ?_
  rintro e w1 ⟨rfl, dd, hd⟩
  have k1 : Below w.heap.size w w1 := by rw [hd]; exact below_drewN (Below.refl _ _) dd
  have hz1 : w1.heap.size = w.heap.size := by rw [hd]; rfl
  have c1' : w1.cell? ⟨p, 1, none⟩ = some (.slice (some ⟨g, 0, none⟩) N c0) := by rw [hd]; exact c1
  have f1' : w1.frozen? ⟨p, 1, none⟩ = false := by rw [hd]; exact f1
  have hpl1 : p < w1.heap.size := by omega
  have HZ1 := hide hz1
  clear hd c1 f1 hz1
  have r1 := HR.out.turn (S := fun _ => False) (Turn.of_below _ k1) (fun _ _ => id)
  have e1 : ∀ q ∈ X, Own w1 0 q.2.1 q.2.2.1 := fun q hq => (HE.out q hq).turn (S := fun _ => False) (Turn.of_below _ k1) (fun _ _ => id)
  have T1 := hide (r1.take e1 j (by rw [← HN.out]; omega))
  have D1 := hide (r1.drop e1 (j + 1) (by rw [← HN.out]; omega) _ (.inr ⟨g, rfl, rfl⟩))
  rw [← HN.out] at D1
  have K1 := hide k1
  clear k1 r1 e1
  have lt1 : (X.take j).length ≤ 256 := by rw [List.length_take]; omega
  have lt2 : (X.take j).length + (X.drop (j + 1)).length ≤ 1073741824 := by rw [List.length_take, List.length_drop, ← HN.out]; omega
  have fin : ∀ v5 w5, OwnF w5 w1.heap.size v5 (X.take j ++ X.drop (j + 1)) → Below w1.heap.size w1 w5 → ∃ G' v', RShell (w5.setCell ⟨p, 1, none⟩ v5) G' p room v' (delK s.data.toList X) ∧ Next G w G' (w5.setCell ⟨p, 1, none⟩ v5) ∧ U8 w (w5.setCell ⟨p, 1, none⟩ v5) := by
    intro v5 w5 o5 k5
    rw [← HD.out] at o5
    have n5 := below_step K1.out k5
    refine ⟨fun k => G k ∨ (w.heap.size ≤ k ∧ k < w5.heap.size), v5, ?_, ?_, (U8.of_below n5).trans (u8_set (HX.out.below n5).cells (by decide))⟩
    · refine ((HX.out.below n5).more (fun k hk => .inl hk) (fun k hk => ?_)).newrow (o5.down (Nat.zero_le _)) (fun g hg => .inr ?_) (fun q hq => ?_)
      · rcases hk with hk | hk
        · exact (HX.out.below n5).low k hk
        · exact hk.2
      · have := o5.lt g hg
        have hz := HZ1.out
        exact ⟨by omega, this.2⟩
      · have := (HX.out.below n5).each q (mem_delK.1 hq).1
        exact ⟨this.1, fun g hg => .inl (this.2.1 g hg), this.2.2⟩
    · refine ⟨(Turn.of_below _ n5).then (S' := fun k => some k = some p) (Turn.of_grown (grown_set w5 p 1 v5)) (fun k hk => .inl ?_), fun k hk => ?_⟩
      · have hk : k = p := by simpa using hk
        rw [hk]
        exact HX.out.own
      · rcases hk with hk | hk
        · exact .inl hk
        · exact .inr hk.1
  have FIN := hide fin
  clear fin
  have hd : c0 = j + 1 ∨ ¬ c0 = j + 1 := by omega
  rcases hd with rfl | hd
  · rw [if_pos rfl, Nat.sub_self, show N - (j + 1) = 0 by omega] at D1
    have hq : IntKind.i64.wrap ((j : Int) + 1) = ((j + 1 : Nat) : Int) := by rw [IntKind.wrap_i64]; omega
    have hjc : j ≤ j + 1 := by omega
    have hj2 : (j : Int) ≤ (j : Int) + 1 := by omega
    have hj0 : 0 ≤ (j : Int) + 1 := by omega
    have hjN : (j : Int) + 1 ≤ (N : Int) := by omega
    have KA := below_alloc w1 (.cells #[] 70)
    go_wp2_with fail
    go_region_law (first
      | (refine step_append_files rfl (.tmp 16) (.tmp 22) rfl w1.heap.size _ [] rfl (own_emptyF (W := w1) (Nat.le_refl _) _ rfl) _ (X.take j) rfl (T1.out.below ⟨KA.os, KA.tape, KA.output, KA.size, KA.block⟩) (by rw [List.length_nil]; omega) KA.size ?_; intro v3 w3 o3 k3; rw [List.nil_append] at o3; have K3 : Below w1.heap.size w1 w3 := (by refine Below.trans ?_ k3; exact ⟨KA.os, KA.tape, KA.output, KA.size, KA.block⟩); have c3 : w3.cell? ⟨p, 1, none⟩ = some (.slice (some ⟨g, 0, none⟩) N (j + 1)) := (by rw [← c1']; exact K3.cell hpl1); have f3 : w3.frozen? ⟨p, 1, none⟩ = false := (by rw [← f1']; exact K3.frozen hpl1))
      | (refine step_append_files rfl (.tmp 23) (.tmp 30) rfl w1.heap.size _ (X.take j) rfl o3 _ (X.drop (j + 1)) rfl (D1.out.below ⟨K3.os, K3.tape, K3.output, K3.size, K3.block⟩) lt2 K3.size ?_; intro v4 w4 o4 k4; have K4 : Below w1.heap.size w1 w4 := (by refine Below.trans ?_ k4; exact ⟨K3.os, K3.tape, K3.output, K3.size, K3.block⟩); have HF4 := hide (FIN.out v4 w4 o4 K4); obtain ⟨A4, n4, c4, rfl⟩ := o4.shape; have c4' : w4.cell? ⟨p, 1, none⟩ = some (.slice (some ⟨g, 0, none⟩) N (j + 1)) := (by rw [← c1']; exact K4.cell hpl1); have f4 : w4.frozen? ⟨p, 1, none⟩ = false := (by rw [← f1']; exact K4.frozen hpl1); clear K4 o4 k4))
    all_goals
      go_wp2_with fail
      go_ret
      exact ⟨rfl, HF4.out⟩
  · rw [if_neg hd] at D1
    have hq : IntKind.i64.wrap ((j : Int) + 1) = ((j + 1 : Nat) : Int) := by rw [IntKind.wrap_i64]; omega
    have hjc : j ≤ c0 := by omega
    have hj0 : 0 ≤ (j : Int) + 1 := by omega
    have hjN : (j : Int) + 1 ≤ (N : Int) := by omega
    have hjc1 : j + 1 ≤ c0 := by omega
    have KA := below_alloc w1 (.cells #[] 70)
    go_wp2_with fail
    go_region_law (first
      | (refine step_append_files rfl (.tmp 16) (.tmp 22) rfl w1.heap.size _ [] rfl (own_emptyF (W := w1) (Nat.le_refl _) _ rfl) _ (X.take j) rfl (T1.out.below ⟨KA.os, KA.tape, KA.output, KA.size, KA.block⟩) (by rw [List.length_nil]; omega) KA.size ?_; intro v3 w3 o3 k3; rw [List.nil_append] at o3; have K3 : Below w1.heap.size w1 w3 := (by refine Below.trans ?_ k3; exact ⟨KA.os, KA.tape, KA.output, KA.size, KA.block⟩); have c3 : w3.cell? ⟨p, 1, none⟩ = some (.slice (some ⟨g, 0, none⟩) N c0) := (by rw [← c1']; exact K3.cell hpl1); have f3 : w3.frozen? ⟨p, 1, none⟩ = false := (by rw [← f1']; exact K3.frozen hpl1))
      | (refine step_append_files rfl (.tmp 23) (.tmp 30) rfl w1.heap.size _ (X.take j) rfl o3 _ (X.drop (j + 1)) rfl (D1.out.below ⟨K3.os, K3.tape, K3.output, K3.size, K3.block⟩) lt2 K3.size ?_; intro v4 w4 o4 k4; have K4 : Below w1.heap.size w1 w4 := (by refine Below.trans ?_ k4; exact ⟨K3.os, K3.tape, K3.output, K3.size, K3.block⟩); have HF4 := hide (FIN.out v4 w4 o4 K4); obtain ⟨A4, n4, c4, rfl⟩ := o4.shape; have c4' : w4.cell? ⟨p, 1, none⟩ = some (.slice (some ⟨g, 0, none⟩) N c0) := (by rw [← c1']; exact K4.cell hpl1); have f4 : w4.frozen? ⟨p, 1, none⟩ = false := (by rw [← f1']; exact K4.frozen hpl1); clear K4 o4 k4))
    all_goals
      go_wp2_with fail
      go_ret
      exact ⟨rfl, HF4.out⟩
end Go.Proofs.Ytmledochidefeaa
namespace Go.Proofs.Ytmledochidefeaa
open Go.RowKit Go.Maps
theorem rrename_same (G : Nat → Prop) (p room : Nat) (v : Value) (X : List (Str × Fil)) (s : ByteArray) (a : Fil) (w : World) (h : RShell w G p room v X) (hr : Rise X) (hg : getK s.data.toList X = some a) (hs : 1 ≤ s.size ∧ s.size ≤ 64) :
    Calls Try.prog 44 #[.pointer (some ⟨p, 0, none⟩), .string s, .string s] w fun e w' => e = .returned (.int .i64 0) ∧ ∃ d, w' = w.drewN d := by
  have HS := hide (spot_any G p room v X s w h hr)
  have HT := hide (rIsName_any s w (by omega))
  rw [decide_eq_true hs] at HT
  rw [hg] at HS
  clear h hr hg hs
  obtain ⟨j, hj⟩ : ∃ j, j = posK s.data.toList X := ⟨_, rfl⟩
  rw [← hj] at HS
  clear hj
  go_enter Try.func44, Try.ntmps44
  go_wp2_with fail
  refine HT.out.mono ?_
  rintro e w0 ⟨rfl, rfl⟩
  go_wp2_with fail
  refine HS.out.mono ?_
  rintro e w1 ⟨rfl, dd, rfl⟩
  go_wp2_with fail
  go_ret
  exact ⟨rfl, dd, rfl⟩
/-- A footprint with the blocks of one more row of bytes. -/
theorem RShell.with {w0 w : World} {G G' : Nat → Prop} {p room : Nat} {v u : Value} {X : List (Str × Fil)} {xs : List Nat} (h : RShell w G' p room v X) (n : Next G w0 G' w) (ho : Own w 0 u xs) (hG : ∀ b, u.ownBlock = some b → G b) :
    ∃ G'', RShell w G'' p room v X ∧ Next G w0 G'' w ∧ ∀ b, u.ownBlock = some b → G'' b := by
  refine ⟨fun k => G' k ∨ u.ownBlock = some k, h.more (fun k hk => .inl hk) (fun k hk => ?_), ⟨n.turn, fun k hk => ?_⟩, fun b hb => .inr hb⟩
  · rcases hk with hk | hk
    · exact h.low k hk
    · exact (ho.lt k hk).2
  · rcases hk with hk | hk
    · exact n.foot k hk
    · exact .inl (hG k hk)
theorem rremove_any (G : Nat → Prop) (p room : Nat) (v : Value) (X : List (Str × Fil)) (s : ByteArray) (w : World) (h : RShell w G p room v X) (hlen : X.length ≤ 256) (hr : Rise X) :
    Calls Try.prog 42 #[.pointer (some ⟨p, 0, none⟩), .string s] w fun e w' => ∃ r : Int, e = .returned (.int .i64 r) ∧ ∃ G' v', RShell w' G' p room v' (delK s.data.toList X) ∧ Next G w G' w' ∧ U8 w w' := by
  rcases hg : getK s.data.toList X with _ | a
  · refine (rremove_none G p room v X s w h hr hg).mono ?_
    rintro e w' ⟨rfl, d, rfl⟩
    have k : Below w.heap.size w (w.drewN d) := below_drewN (Below.refl _ _) d
    exact ⟨7, rfl, G, v, by rw [delK_of_none hg]; exact h.below k, Next.of_below G k, U8.of_below k⟩
  · refine (rremove_some G p room v X s a w h hlen hr hg).mono ?_
    rintro e w' ⟨rfl, h1⟩
    exact ⟨0, rfl, h1⟩
theorem str_ne {s t : ByteArray} (h : ¬ s = t) : (s.toList == t.toList) = false := by
  rw [beq_eq_false_iff_ne]
  intro e
  rw [Lib.toList_data, Lib.toList_data] at e
  refine h ?_
  obtain ⟨ds⟩ := s
  obtain ⟨dt⟩ := t
  have e : ds.toList = dt.toList := e
  rw [Array.toList_inj.1 e]
theorem put_del (k : Str) (a : Fil) (Z : List (Str × Fil)) : putK k a (delK k Z) = putK k a Z := by
  unfold putK
  rw [delK_of_none (getK_del_same)]
theorem delK_len (k : Str) (X : List (Str × Fil)) : (delK k X).length ≤ X.length := List.length_filter_le _ _
set_option maxRecDepth 100000 in
set_option maxHeartbeats 3200000 in
theorem rrename_ok (G : Nat → Prop) (p room : Nat) (v : Value) (X : List (Str × Fil)) (s t : ByteArray) (a : Fil) (w : World) (h : RShell w G p room v X) (hlen : X.length ≤ 256) (hr : Rise X) (hg : getK s.data.toList X = some a) (ht : 1 ≤ t.size ∧ t.size ≤ 64) (hst : ¬ s = t) :
    Calls Try.prog 44 #[.pointer (some ⟨p, 0, none⟩), .string s, .string t] w fun e w' => e = .returned (.int .i64 0) ∧ ∃ G' v', RShell w' G' p room v' (putK t.data.toList a (delK s.data.toList X)) ∧ Next G w G' w' := by
  obtain ⟨g, c, A, n, cc, rfl, ha, hxn, hncc, hcc, hXc, hc63, hGg, hgl, q0, q1, q2, fz⟩ := rfound h hr hg
  obtain ⟨hjl, hXj⟩ := posK_get hr hg
  have c1 : w.cell? ⟨p, 1, none⟩ = some (.slice (some ⟨g, 0, none⟩) X.length c) := h.cells.cell 1
  have HIN := hide (rIsName_any t w (by omega))
  rw [decide_eq_true ht] at HIN
  have HS := hide (spot_any G p room _ X s w h hr)
  have HX := hide h
  have HE := hide (h.each _ (getK_mem hg))
  have HR := hide hr
  have HG := hide hg
  have HL := hide hlen
  obtain ⟨N, hN⟩ : ∃ N, N = X.length := ⟨_, rfl⟩
  obtain ⟨j, hj⟩ : ∃ j, j = posK s.data.toList X := ⟨_, rfl⟩
  rw [← hj, hg] at HS
  rw [← hj] at hjl q0 q1 q2
  rw [← hN] at c1 hjl hXc
  obtain ⟨u0, xs, l⟩ := a
  simp only at ha hxn q2 HE HG
  subst ha
  clear h hN hj hg hr hxn hGg hXj fz hlen ht
  have q0 : w.cell? ⟨g, j * 3, none⟩ = some (.string s) := q0
  have hq := str_ne hst
  go_enter Try.func44, Try.ntmps44
  go_wp2_with fail
  refine HIN.out.mono ?_
  rintro e w0 ⟨rfl, rfl⟩
  go_wp2_with fail
  refine HS.out.mono ?_
  rintro e w1 ⟨rfl, dd, hd⟩
  have k1 : Below w.heap.size w w1 := by rw [hd]; exact below_drewN (Below.refl _ _) dd
  have hz : w1.heap.size = w.heap.size := by rw [hd]; rfl
  have c1' : w1.cell? ⟨p, 1, none⟩ = some (.slice (some ⟨g, 0, none⟩) N c) := by rw [hd]; exact c1
  have q0' : w1.cell? ⟨g, j * 3, none⟩ = some (.string s) := by rw [hd]; exact q0
  have q1' : w1.cell? ⟨g, j * 3 + 1, none⟩ = some (.slice A n cc) := by rw [hd]; exact q1
  have q2' : w1.cell? ⟨g, j * 3 + 2, none⟩ = some (.int .i64 (l : Int)) := by rw [hd]; exact q2
  have K1 := hide k1
  have HZ := hide hz
  clear hd c1 q0 q1 q2 k1 hz
  go_wp2_with fail
  obtain ⟨w2, h2⟩ : ∃ w2, w2 = w1.alloc (.cells #[.string t, .slice A n cc, .int .i64 (l : Int)] 70) := ⟨_, rfl⟩
  have k2 : Below w.heap.size w w2 := by rw [h2]; exact below_step K1.out (below_alloc _ _)
  have b2 : Blk w2 0 70 w1.heap.size [.string t, .slice A n cc, .int .i64 (l : Int)] := by rw [h2]; exact Blk.new (B := 0) w1 _ _ (Nat.zero_le _)
  have hbG : ¬ G w1.heap.size := fun hh => by
    have := HX.out.low _ hh
    have := HZ.out
    omega
  rw [← h2]
  clear h2
  have hb2 := b2.lt
  refine (rremove_any G p room _ X s w2 (HX.out.below k2) HL.out HR.out).mono ?_
  rintro e w3 ⟨r3, rfl, G3, v3, s3, n3, u3⟩
  have o2 : Own w2 0 (.slice A n cc) xs := HE.out.1.turn (S := fun _ => False) (Turn.of_below _ k2) (fun _ _ => id)
  have o3 := u3.own o2
  obtain ⟨G3', s3', n3', hm3⟩ := s3.with n3 o3 HE.out.2.1
  have hb3 : ¬ G3' w1.heap.size := fun hh => by
    rcases n3'.foot _ hh with h1 | h1
    · exact hbG h1
    · omega
  have b3 := b2.turn n3.turn hbG
  have N3 := hide ((Next.of_below G k2).trans n3')
  have S3 := hide s3'
  have B3 := hide b3
  have O3 := hide o3
  have M3 := hide hm3
  clear k2 b2 s3 n3 u3 o2 o3 s3' n3' hm3 b3
  go_wp2_with fail
  have hb3l := B3.out.lt
  refine (rremove_any G3' p room _ (delK s.data.toList X) t w3 S3.out (Nat.le_trans (delK_len _ _) HL.out) (delK_rise HR.out)).mono ?_
  rintro e w4 ⟨r4, rfl, G4, v4, s4, n4, u4⟩
  have o4 := u4.own O3.out
  obtain ⟨G4', s4', n4', hm4⟩ := s4.with n4 o4 M3.out
  have B4 := hide (B3.out.turn n4.turn hb3)
  have N4 := hide (N3.out.trans n4')
  have S4 := hide s4'
  have O4 := hide o4
  have M4 := hide hm4
  have hb4 : ¬ G4' w1.heap.size := fun hh => by
    rcases n4'.foot _ hh with h1 | h1
    · exact hb3 h1
    · omega
  clear s4 n4 u4 o4 s4' n4' hm4
  go_wp2_with fail
  refine (spot_any G4' p room _ _ t w4 S4.out (delK_rise (delK_rise HR.out))).mono ?_
  rintro e w5 ⟨rfl, d5, hd5⟩
  have k5 : Below w4.heap.size w4 w5 := by rw [hd5]; exact below_drewN (Below.refl _ _) d5
  have b5 := B4.out.keep k5
  have t0 : w5.cell? ⟨w1.heap.size, 0, none⟩ = some (.string t) := b5.cell 0
  have t1 : w5.cell? ⟨w1.heap.size, 1, none⟩ = some (.slice A n cc) := b5.cell 1
  have t2 : w5.cell? ⟨w1.heap.size, 2, none⟩ = some (.int .i64 (l : Int)) := b5.cell 2
  obtain ⟨i, hi⟩ : ∃ i, i = posK t.data.toList (delK t.data.toList (delK s.data.toList X)) := ⟨_, rfl⟩
  have hil : i ≤ (delK t.data.toList (delK s.data.toList X)).length := by rw [hi]; exact pos_le _ _
  have HI := hide hil
  have HP := hide (put_mid ((.slice A n cc, xs, l) : Fil) (getK_del_same (k := t.data.toList) (l := delK s.data.toList X)))
  rw [← hi] at HP ⊢
  have S5 := hide (S4.out.below k5)
  have N5 := hide (N4.out.trans (Next.of_below G4' k5))
  have O5 := hide (O4.out.turn (S := fun _ => False) (Turn.of_below _ k5) (fun _ _ => id))
  clear hi hil k5 b5 hd5
  go_wp2_with fail
  refine (insert_any G4' p room _ _ i t A n cc xs l w5 S5.out (Nat.le_trans (delK_len _ _) (Nat.le_trans (delK_len _ _) HL.out)) HI.out O5.out M4.out HE.out.2.2).mono ?_
  rintro e w6 ⟨rfl, G6, v6, s6, n6⟩
  rw [← HP.out, put_del] at s6
  have S6 := hide s6
  have N6 := hide (N5.out.trans n6)
  clear s6 n6
  go_wp2_with fail
  go_ret
  exact ⟨rfl, G6, v6, S6.out, N6.out⟩
end Go.Proofs.Ytmledochidefeaa
namespace Go.Proofs.Ytmledochidefeaa
open Go.RowKit
theorem rdraw_any (z : Int) (draw : Nat) (hz : max z 0 = (draw : Int)) (w : World) :
    Calls Try.prog 48 #[.int .i64 z] w fun e w' => e = .returned (.int .i64 (draw : Int)) ∧ w = w' := by
  have h2 : max 0 z = (draw : Int) := by omega
  go_enter Try.func48, Try.ntmps48
  go_wp2_with fail
  go_ret
  exact ⟨rfl, rfl⟩
theorem rround_any (a b c : Nat) (hc : 0 < c) (hc1 : c ≤ 1099511627776) (w : World) :
    Calls Try.prog 47 #[.int .i64 (a : Int), .int .i64 (b : Int), .int .i64 (c : Int)] w fun e w' => e = .returned (.int .i64 (((a % c + b) % c : Nat) : Int)) ∧ ∃ d, w' = w.drewN d := by
  obtain ⟨q1, hq1⟩ : ∃ q, q = a % c := ⟨_, rfl⟩
  obtain ⟨q2, hq2⟩ : ∃ q, q = b % c := ⟨_, rfl⟩
  obtain ⟨q3, hq3⟩ : ∃ q, q = (q1 + q2) % c := ⟨_, rfl⟩
  have he : (a % c + b) % c = q3 := by
    rw [hq3, hq1, hq2, ← Nat.add_mod, Nat.mod_add_mod]
  rw [he]
  have r1 : (a : Int).tmod (c : Int) = (q1 : Int) := by
    rw [hq1, Int.tmod_eq_emod_of_nonneg (by omega)]
    exact (Int.natCast_emod _ _).symm
  have r2 : (b : Int).tmod (c : Int) = (q2 : Int) := by
    rw [hq2, Int.tmod_eq_emod_of_nonneg (by omega)]
    exact (Int.natCast_emod _ _).symm
  have r3 : ((q1 : Int) + (q2 : Int)).tmod (c : Int) = (q3 : Int) := by
    rw [hq3, Int.tmod_eq_emod_of_nonneg (by omega), show (q1 : Int) + (q2 : Int) = ((q1 + q2 : Nat) : Int) by omega]
    exact (Int.natCast_emod _ _).symm
  have hu1 : q1 < c := by rw [hq1]; exact Nat.mod_lt _ hc
  have hu2 : q2 < c := by rw [hq2]; exact Nat.mod_lt _ hc
  have hnz : ¬ ((c : Int) = 0) := by omega
  have hw1 : IntKind.i64.wrap ((q1 : Int) + (q2 : Int)) = (q1 : Int) + (q2 : Int) := by rw [IntKind.wrap_i64]; omega
  have hb : q1 + q2 ≤ 9223372036854775807 := by omega
  clear hq1 hq2 hq3 he
  go_enter Try.func47, Try.ntmps47
  go_wp2_with fail
  go_region
  all_goals
    go_wp2_with fail
    go_ret
    exact ⟨rfl, 1, rfl⟩
end Go.Proofs.Ytmledochidefeaa
