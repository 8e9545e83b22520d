/- The document's Append to a new file. No condition but the widths. -/
import Derived.Test.YtndffjgneapmdaaRApp2
namespace Go.Proofs.Ytndffjgneapmdaa
open Go.RowKit Go.Maps
theorem IsB.turnE {S : Nat → Prop} {w w' : World} {v : Value} {xs : List Nat} (h : IsB w v xs) (t : Turn S w w') (ho : xs ≠ [] → Off S v) : IsB w' v xs := by
  rcases xs with _ | ⟨x, xs⟩
  · obtain ⟨A, c, e, _, hn⟩ := h
    exact ⟨A, c, e, fun hne => absurd rfl hne, hn⟩
  · exact h.turn t (ho (by simp))
theorem set_mid {α : Type} (X : List α) (j : Nat) (hj : j ≤ X.length) (y z : α) : (X.take j ++ y :: X.drop j).set j z = X.take j ++ z :: X.drop j := by
  have hl : (X.take j).length = j := by rw [List.length_take]; omega
  rw [List.set_append_right (h := by omega), hl, Nat.sub_self, List.set_cons_zero]
theorem length_mid {α : Type} (X : List α) (j : Nat) (hj : j ≤ X.length) (y : α) : (X.take j ++ y :: X.drop j).length = X.length + 1 := by
  rw [List.length_append, List.length_cons, List.length_take, List.length_drop]
  omega
theorem get_mid {α : Type} (X : List α) (j : Nat) (hj : j ≤ X.length) (y : α) : ∃ h : j < (X.take j ++ y :: X.drop j).length, (X.take j ++ y :: X.drop j)[j] = y := by
  have hl : (X.take j).length = j := by rw [List.length_take]; omega
  refine ⟨by rw [length_mid X j hj]; omega, ?_⟩
  rw [List.getElem_append_right (by omega)]
  simp [hl]
theorem put_mid {k : Str} (b : Fil) {X : List (Str × Fil)} (hg : getK k X = none) : putK k b X = X.take (posK k X) ++ (k, b) :: X.drop (posK k X) := by
  unfold putK
  rw [delK_of_none hg]
  exact ins_at k b (fun q hq => getK_none hg q hq)
set_option maxRecDepth 100000 in
set_option maxHeartbeats 6400000 in
theorem rappend_new (G : Nat → Prop) (p room : Nat) (v : Value) (X : List (Str × Fil)) (s : ByteArray) (P : Option Addr) (m cp : Nat) (ps : List Nat) (w : World) (h : RShell w G p room v X) (hr : Rise X) (hg : getK s.data.toList X = none) (hfew : X.length < 256) (hn : 1 ≤ s.size ∧ s.size ≤ 64) (hroom : room ≤ 1099511627776) (hu : sumK filL X ≤ 1099511627776) (hmr : m ≤ 1099511627776)
    (hful : sumK filL X + m ≤ room) (hPB : IsB w (.slice P m cp) ps) (hPM : ps.length = m) (hP8 : ∀ x ∈ ps, x < 256) (hPG : ps ≠ [] → Off G (.slice P m cp)) :
    Calls Try.prog 25 #[.pointer (some ⟨p, 0, none⟩), .string s, .slice P m cp] w fun e w' => e = .returned (.int .i64 0) ∧ ∃ G' v' u, RShell w' G' p room v' (putK s.data.toList (u, ps, 0) X) ∧ Next G w G' w' := by
  obtain ⟨A0, cap0, rfl, hlc, hc63, -, -⟩ := h.form
  have c0 : w.cell? ⟨p, 0, none⟩ = some (.int .i64 (room : Int)) := h.cells.cell 0
  have c1 : w.cell? ⟨p, 1, none⟩ = some (.slice A0 X.length cap0) := h.cells.cell 1
  have HIN := hide (rIsName_any s w (by omega))
  rw [decide_eq_true hn] at HIN
  have HS := hide (spot_any G p room _ X s w h hr)
  have HQ := hide (fun u : Value => put_mid (u, ps, 0) hg)
  have HX := hide h
  have H8 := hide hP8
  have HPB := hide hPB
  have HPM := hide hPM
  have HPG := hide hPG
  obtain ⟨N, hN⟩ : ∃ N, N = X.length := ⟨_, rfl⟩
  obtain ⟨j, hj⟩ : ∃ j, j = posK s.data.toList X := ⟨_, rfl⟩
  obtain ⟨u, hU⟩ : ∃ u, u = sumK filL X := ⟨_, rfl⟩
  have hjX : j ≤ X.length := by rw [hj]; exact pos_le _ _
  have HJ := hide hjX
  rw [← hj, hg] at HS
  rw [← hj] at HQ
  rw [← hN] at c1 hlc hfew hjX
  rw [← hU] at hful
  have HU := hide hU
  have HUU := hide hu
  rw [← hU] at hu
  have HN := hide hN
  have hfew2 : (decide (256 ≤ (N : Int))) = false := decide_eq_false (by omega)
  have hfew3 : ¬ (256 ≤ (N : Int)) := by omega
  have hgo : ¬ ((room : Int) < (u : Int) + (m : Int)) := by omega
  have hb : u + m ≤ 9223372036854775807 := by omega
  clear h hN hj hg hr hn hPB hPM hP8 hU hPG
  go_enter Try.func25, Try.ntmps25
  go_wp2_with fail
  refine HIN.out.mono ?_
  rintro e w0 ⟨rfl, rfl⟩
  go_wp2_with fail
  refine HS.out.mono ?_
  rintro e w1 ⟨rfl, dd, hd⟩
  have k1 : Below w.heap.size w w1 := by rw [hd]; exact below_drewN (Below.refl _ _) dd
  have c0' : w1.cell? ⟨p, 0, none⟩ = some (.int .i64 (room : Int)) := by rw [hd]; exact c0
  have c1' : w1.cell? ⟨p, 1, none⟩ = some (.slice A0 N cap0) := by rw [hd]; exact c1
  have HK1 := hide k1
  have HX1 := hide (HX.out.below k1)
  clear hd c0 c1 k1
  go_wp2_with fail
  go_quiet ((go_at_call 41; refine Calls.quiet_of (v := .int .i64 (u : Int)) ?_; refine (rused_any G p room _ X _ (HX1.out.below (below_drewN (Below.refl _ _) _)) HUU.out).mono ?_; rintro e w' ⟨rfl, rfl⟩; exact ⟨by rw [HU.out], 0, rfl⟩))
  obtain ⟨w2, h2⟩ : ∃ w2, w2 = w1.drewN nq := ⟨_, rfl⟩
  rw [← h2]
  have k2 : Below w.heap.size w w2 := below_step HK1.out (by rw [h2]; exact below_drewN (Below.refl _ _) _)
  have HX2 := hide (HX.out.below k2)
  have HK2 := hide k2
  clear h2 c0' c1' k2 HX1 HK1
  go_wp2_with fail
  refine (insert_any G p room _ X j s none 0 0 [] 0 _ HX2.out (by rw [← HN.out]; omega) HJ.out (World.ownsRow_nil _ _ _ _) (fun b hb => by simp [Value.ownBlock] at hb) (fun x hx => by cases hx)).mono ?_
  rintro e w5 ⟨rfl, G1, v1, s5, n5⟩
  obtain ⟨hj1, hgj⟩ := get_mid X j HJ.out ((s.data.toList, (.slice none 0 0, [], 0)) : Str × Fil)
  have hset := fun u : Value => set_mid X j HJ.out ((s.data.toList, (.slice none 0 0, [], 0)) : Str × Fil) (s.data.toList, (u, ps, 0))
  obtain ⟨Y, hY⟩ : ∃ Y, Y = X.take j ++ ((s.data.toList, (.slice none 0 0, [], 0)) : Str × Fil) :: X.drop j := ⟨_, rfl⟩
  have HQ5 : Hid (∀ u : Value, putK s.data.toList (u, ps, 0) X = Y.set j (s.data.toList, (u, ps, 0))) := by
    intro u
    rw [HQ.out, hY, hset]
  have HYJ : Hid (∃ hj : j < Y.length, Y[j] = (s.data.toList, (.slice none 0 0, [], 0))) := by
    subst hY
    exact ⟨hj1, hgj⟩
  rw [← hY] at s5
  clear hset hY hj1 hgj
  obtain ⟨hj1, hgj⟩ := HYJ.out
  obtain ⟨A1, c, rfl, hMc, hc63', -, hcl⟩ := s5.form
  obtain ⟨g, rfl, hGg, -, -, -, -, -⟩ := hcl j hj1
  clear hcl
  obtain ⟨-, q5a, -, f5a⟩ := s5.at_ j hj1
  rw [hgj] at q5a
  have q5' : w5.cell? ⟨g, j * 3 + 1, none⟩ = some (.slice none 0 0) := q5a
  have f5' := f5a (j * 3 + 1)
  have c5' : w5.cell? ⟨p, 1, none⟩ = some (.slice (some ⟨g, 0, none⟩) Y.length c) := s5.cells.cell 1
  have hpl5 : p < w5.heap.size := cell_lt c5'
  have hgl5 : g < w5.heap.size := cell_lt q5'
  have HPB5 := hide ((HPB.out.keep HK2.out).turnE n5.turn HPG.out)
  have HB5 : Hid (IsB w5 (.slice none 0 0) []) := Own.isB (show Own w5 0 (.slice none 0 0) [] from World.ownsRow_nil w5 0 _ _)
  have HX5 := hide s5
  have HGG := hide hGg
  have N5 := hide ((Next.of_below G HK2.out).trans n5)
  obtain ⟨M, hM⟩ : ∃ M, M = Y.length := ⟨_, rfl⟩
  have hjM : j < M := by rw [hM]; exact hj1
  rw [← hM] at c5' hMc
  clear s5 n5 q5a f5a hGg hgj hj1 hM
  have KA := below_alloc w5 (.cells #[] 5)
  go_wp2_with fail
  go_region_law (first
      | (refine step_append_bytes rfl (.tmp 52) (.tmp 60) rfl w5.heap.size _ [] rfl (own_emptyB (W := w5) (Nat.le_refl _) _ rfl) _ [] rfl (HB5.out.keep ⟨KA.os, KA.tape, KA.output, KA.size, KA.block⟩) (by rw [List.length_nil]; omega) KA.size ?_; intro v3 w3 o3 k3; rw [List.nil_append] at o3; have K3 : Below w5.heap.size w5 w3 := (by refine Below.trans ?_ k3; exact ⟨KA.os, KA.tape, KA.output, KA.size, KA.block⟩); have q3c : w3.cell? ⟨p, 1, none⟩ = some (.slice (some ⟨g, 0, none⟩) M c) := (by rw [← c5']; exact K3.cell hpl5); have q3 : w3.cell? ⟨g, j * 3 + 1, none⟩ = some (.slice none 0 0) := (by rw [← q5']; exact K3.cell hgl5); clear k3)
      | (refine step_append_bytes rfl (.tmp 61) (.tmp 62) rfl w5.heap.size _ [] rfl o3 _ ps rfl (HPB5.out.keep ⟨K3.os, K3.tape, K3.output, K3.size, K3.block⟩) (by rw [HPM.out, List.length_nil]; omega) K3.size ?_; intro v4 w4 o4 k4; have K4 : Below w5.heap.size w5 w4 := (by refine Below.trans ?_ k4; exact ⟨K3.os, K3.tape, K3.output, K3.size, K3.block⟩); obtain ⟨A4, n4, c4, rfl⟩ := o4.shape; have q4c : w4.cell? ⟨p, 1, none⟩ = some (.slice (some ⟨g, 0, none⟩) M c) := (by rw [← c5']; exact K4.cell hpl5); have q4 : w4.cell? ⟨g, j * 3 + 1, none⟩ = some (.slice none 0 0) := (by rw [← q5']; exact K4.cell hgl5); have f4 : w4.frozen? ⟨g, j * 3 + 1, none⟩ = false := (by rw [← f5']; exact K4.frozen hgl5); have O4 := hide o4; have KK4 := hide K4; clear o4 k4 K4))
  all_goals
    obtain ⟨hj1, hgj⟩ := HYJ.out
    obtain ⟨G', s4, n4', g4⟩ := lay_bytes HX5.out KK4.out HGG.out j hj1 O4.out (Nat.le_refl _) H8.out
    rw [hgj] at s4
    have S4 : Hid (∃ G' v' u, RShell (w4.setCell ⟨g, j * 3 + 1, none⟩ (.slice A4 n4 c4)) G' p room v' (putK s.data.toList (u, ps, 0) X) ∧ Next G w G' (w4.setCell ⟨g, j * 3 + 1, none⟩ (.slice A4 n4 c4))) := by
      refine ⟨G', .slice (some ⟨g, 0, none⟩) Y.length c, .slice A4 n4 c4, ?_, N5.out.trans n4'⟩
      rw [HQ5.out]
      exact s4
    clear s4 n4' hgj g4
    go_wp2_with fail
    go_ret
    exact ⟨rfl, S4.out⟩
end Go.Proofs.Ytndffjgneapmdaa
