/- The document's Append to a new file. No condition but the widths. The document's Remove. No condition but the widths. The contracts of the document's own Draw a -/
import Derived.Test.YtbmhfnhfhdgdgaaGreatW24
namespace Go.Proofs.YtbmhfnhfhdgdgaaGreat
open Go.RowKit Go.Maps
variable {w w' : World}
theorem IsB.turnE {S : Nat -> Prop} {v : Value} {xs : List Nat} (h : IsB w v xs) (t : Turn S w w') (ho : xs ≠ [] -> Off S v) : IsB w' v xs := by
 rcases xs with _ | ⟨x, xs⟩
 ·obtain ⟨A, c, e, _, hn⟩ := h;exact ⟨A, c, e, fun hne => absurd rfl hne, hn⟩
 ·exact h.turn t (ho (by simp))
theorem set_mid {α : Type} (X : List α) (j : Nat) (hj : j <= X.length) (y z : α) : (X.take j ++ y :: X.drop j).set j z = X.take j ++ z :: X.drop j := by
 have hl : (X.take j).length = j := by rw [List.length_take]; omega
 rw [List.set_append_right (h := by omega), hl, Nat.sub_self, List.set_cons_zero]
theorem length_mid {α : Type} (X : List α) (j : Nat) (hj : j <= X.length) (y : α) : (X.take j ++ y :: X.drop j).length = X.length + 1 := by
 rw [List.length_append, List.length_cons, List.length_take, List.length_drop];omega
theorem get_mid {α : Type} (X : List α) (j : Nat) (hj : j <= X.length) (y : α) : ∃ h : j < (X.take j ++ y :: X.drop j).length, (X.take j ++ y :: X.drop j)[j] = y := by
 have hl : (X.take j).length = j := by rw [List.length_take]; omega
 refine ⟨by rw [length_mid X j hj]; omega, ?_⟩;rw [List.getElem_append_right (by omega)];simp [hl]
theorem put_mid {k : Str} (b : Fil) {X : List (Str × Fil)} (hg : getK k X = none) : putK k b X = X.take (posK k X) ++ (k, b) :: X.drop (posK k X) := by
 unfold putK;rw [delK_of_none hg];exact ins_at k b (fun q hq => getK_none hg q hq)
set_option maxRecDepth 100000 in
set_option maxHeartbeats 6400000 in
theorem rappend_new (G : Nat -> Prop) (p room : Nat) (v : Value) (X : List (Str × Fil)) (s : ByteArray) (P : Option Addr) (m cp : Nat) (ps : List Nat) (w : World) (h : RShell w G p room v X) (hr : Rise X) (hg : getK s.data.toList X = none) (hfew : X.length < 256) (hn : 1 <= s.size /\ s.size <= 64) (hroom : room <= 1099511627776) (hu : sumK filL X <= 1099511627776) (hmr : m <= 1099511627776)
  (hful : sumK filL X + m <= room) (hPB : IsB w (.slice P m cp) ps) (hPM : ps.length = m) (hP8 : ∀ x ∈ ps, x < 256) (hPG : ps ≠ [] -> Off G (.slice P m cp)) :
  Calls Tryz.prog 10 #[.pointer (some ⟨p, 0, none⟩), .string s, .slice P m cp] w fun e w' => e = .returned (.int .i64 0) /\ ∃ G' v' u, RShell w' G' p room v' (putK s.data.toList (u, ps, 0) X) /\ Next G w G' w' := by
 obtain ⟨A0, cap0, rfl, hlc, hc63, -, -⟩ := h.form;have c0 : w.cell? ⟨p, 0, none⟩ = some (.int .i64 (room : Int)) := h.cells.cell 0;have c1 : w.cell? ⟨p, 1, none⟩ = some (.slice A0 X.length cap0) := h.cells.cell 1;have HIN := hide (rIsName_any s w (by omega));rw [decide_eq_true hn] at HIN;have HS := hide (spot_any G p room _ X s w h hr);have HQ := hide (fun u : Value => put_mid (u, ps, 0) hg);have HX := hide h;have H8 := hide hP8;have HPB := hide hPB;have HPM := hide hPM;have HPG := hide hPG;obtain ⟨N, hN⟩ : ∃ N, N = X.length := ⟨_, rfl⟩;obtain ⟨j, hj⟩ : ∃ j, j = posK s.data.toList X := ⟨_, rfl⟩;obtain ⟨u, hU⟩ : ∃ u, u = sumK filL X := ⟨_, rfl⟩;have hjX : j <= X.length := by rw [hj]; exact pos_le _ _
 have HJ := hide hjX;rw [<- hj, hg] at HS;rw [<- hj] at HQ;rw [<- hN] at c1 hlc hfew hjX;rw [<- hU] at hful;have HU := hide hU;have HUU := hide hu;rw [<- hU] at hu;have HN := hide hN;have hfew2 : (decide (256 <= (N : Int))) = false := decide_eq_false (by omega);have hfew3 : ¬ (256 <= (N : Int)) := by omega
 have hgo : ¬ ((room : Int) < (u : Int) + (m : Int)) := by omega
 have hb : u + m <= 9223372036854775807 := by omega
 clear h hN hj hg hr hn hPB hPM hP8 hU hPG;go_enter Tryz.func10, Tryz.ntmps10;go_wp2_with fail
 refine HIN.out.mono ?_;rintro e w0 ⟨rfl, rfl⟩;go_wp2_with fail
 refine HS.out.mono ?_;rintro e w1 ⟨rfl, dd, hd⟩;have k1 : Below w.heap.size w w1 := by rw [hd]; exact below_drewN (Below.refl _ _) dd
 have c0' : w1.cell? ⟨p, 0, none⟩ = some (.int .i64 (room : Int)) := by rw [hd]; exact c0
 have c1' : w1.cell? ⟨p, 1, none⟩ = some (.slice A0 N cap0) := by rw [hd]; exact c1
 have HK1 := hide k1;have HX1 := hide (HX.out.below k1);clear hd c0 c1 k1;go_wp2_with fail
 go_quiet ((go_at_call 33; refine Calls.quiet_of (v := .int .i64 (u : Int)) ?_; refine (rused_any G p room _ X _ (HX1.out.below (below_drewN (Below.refl _ _) _)) HUU.out).mono ?_; rintro e w' ⟨rfl, rfl⟩; exact ⟨by rw [HU.out], 0, rfl⟩))
 obtain ⟨w2, h2⟩ : ∃ w2, w2 = w1.drewN nq := ⟨_, rfl⟩;rw [<- h2];have k2 : Below w.heap.size w w2 := below_step HK1.out (by rw [h2]; exact below_drewN (Below.refl _ _) _);have HX2 := hide (HX.out.below k2);have HK2 := hide k2;clear h2 c0' c1' k2 HX1 HK1;go_wp2_with fail
 refine (insert_any G p room _ X j s none 0 0 [] 0 _ HX2.out (by rw [<- HN.out]; omega) HJ.out (World.ownsRow_nil _ _ _ _) (fun b hb => by simp [Value.ownBlock] at hb) (fun x hx => by cases hx)).mono ?_;rintro e w5 ⟨rfl, G1, v1, s5, n5⟩;obtain ⟨hj1, hgj⟩ := get_mid X j HJ.out ((s.data.toList, (.slice none 0 0, [], 0)) : Str × Fil);have hset := fun u : Value => set_mid X j HJ.out ((s.data.toList, (.slice none 0 0, [], 0)) : Str × Fil) (s.data.toList, (u, ps, 0))
 obtain ⟨Y, hY⟩ : ∃ Y, Y = X.take j ++ ((s.data.toList, (.slice none 0 0, [], 0)) : Str × Fil) :: X.drop j := ⟨_, rfl⟩;have HQ5 : Hid (∀ u : Value, putK s.data.toList (u, ps, 0) X = Y.set j (s.data.toList, (u, ps, 0))) := by
  intro u;rw [HQ.out, hY, hset]
 have HYJ : Hid (∃ hj : j < Y.length, Y[j] = (s.data.toList, (.slice none 0 0, [], 0))) := by
  subst hY;exact ⟨hj1, hgj⟩
 rw [<- hY] at s5;clear hset hY hj1 hgj;obtain ⟨hj1, hgj⟩ := HYJ.out;obtain ⟨A1, c, rfl, hMc, hc63', -, hcl⟩ := s5.form;obtain ⟨g, rfl, hGg, -, -, -, -, -⟩ := hcl j hj1;clear hcl;obtain ⟨-, q5a, -, f5a⟩ := s5.at_ j hj1;rw [hgj] at q5a;have q5' : w5.cell? ⟨g, j * 3 + 1, none⟩ = some (.slice none 0 0) := q5a;have f5' := f5a (j * 3 + 1);have c5' : w5.cell? ⟨p, 1, none⟩ = some (.slice (some ⟨g, 0, none⟩) Y.length c) := s5.cells.cell 1;have hpl5 : p < w5.heap.size := cell_lt c5';have hgl5 : g < w5.heap.size := cell_lt q5';have HPB5 := hide ((HPB.out.keep HK2.out).turnE n5.turn HPG.out);have HB5 : Hid (IsB w5 (.slice none 0 0) []) := Own.isB (show Own w5 0 (.slice none 0 0) [] from World.ownsRow_nil w5 0 _ _);have HX5 := hide s5;have HGG := hide hGg;have N5 := hide ((Next.of_below G HK2.out).trans n5);obtain ⟨M, hM⟩ : ∃ M, M = Y.length := ⟨_, rfl⟩;have hjM : j < M := by rw [hM]; exact hj1
 rw [<- hM] at c5' hMc;clear s5 n5 q5a f5a hGg hgj hj1 hM;have KA := below_alloc w5 (.cells #[] 5);go_wp2_with fail
 go_region_law (first
   | (refine step_append_bytes rfl (.tmp 52) (.tmp 60) rfl w5.heap.size _ [] rfl (own_emptyB (W := w5) (Nat.le_refl _) _ rfl) _ [] rfl (HB5.out.keep ⟨KA.os, KA.tape, KA.output, KA.size, KA.block⟩) (by rw [List.length_nil]; omega) KA.size ?_; intro v3 w3 o3 k3; rw [List.nil_append] at o3; have K3 : Below w5.heap.size w5 w3 := (by refine Below.trans ?_ k3; exact ⟨KA.os, KA.tape, KA.output, KA.size, KA.block⟩); have q3c : w3.cell? ⟨p, 1, none⟩ = some (.slice (some ⟨g, 0, none⟩) M c) := (by rw [<- c5']; exact K3.cell hpl5); have q3 : w3.cell? ⟨g, j * 3 + 1, none⟩ = some (.slice none 0 0) := (by rw [<- q5']; exact K3.cell hgl5); clear k3)
   | (refine step_append_bytes rfl (.tmp 61) (.tmp 62) rfl w5.heap.size _ [] rfl o3 _ ps rfl (HPB5.out.keep ⟨K3.os, K3.tape, K3.output, K3.size, K3.block⟩) (by rw [HPM.out, List.length_nil]; omega) K3.size ?_; intro v4 w4 o4 k4; have K4 : Below w5.heap.size w5 w4 := (by refine Below.trans ?_ k4; exact ⟨K3.os, K3.tape, K3.output, K3.size, K3.block⟩); obtain ⟨A4, n4, c4, rfl⟩ := o4.shape; have q4c : w4.cell? ⟨p, 1, none⟩ = some (.slice (some ⟨g, 0, none⟩) M c) := (by rw [<- c5']; exact K4.cell hpl5); have q4 : w4.cell? ⟨g, j * 3 + 1, none⟩ = some (.slice none 0 0) := (by rw [<- q5']; exact K4.cell hgl5); have f4 : w4.frozen? ⟨g, j * 3 + 1, none⟩ = false := (by rw [<- f5']; exact K4.frozen hgl5); have O4 := hide o4; have KK4 := hide K4; clear o4 k4 K4))
 all_goals
  obtain ⟨hj1, hgj⟩ := HYJ.out;obtain ⟨G', s4, n4', g4⟩ := lay_bytes HX5.out KK4.out HGG.out j hj1 O4.out (Nat.le_refl _) H8.out;rw [hgj] at s4;have S4 : Hid (∃ G' v' u, RShell (w4.setCell ⟨g, j * 3 + 1, none⟩ (.slice A4 n4 c4)) G' p room v' (putK s.data.toList (u, ps, 0) X) /\ Next G w G' (w4.setCell ⟨g, j * 3 + 1, none⟩ (.slice A4 n4 c4))) := by
   refine ⟨G', .slice (some ⟨g, 0, none⟩) Y.length c, .slice A4 n4 c4, ?_, N5.out.trans n4'⟩;rw [HQ5.out];exact s4
  clear s4 n4' hgj g4;go_wp2_with fail
  go_ret;exact ⟨rfl, S4.out⟩
set_option maxRecDepth 100000 in
set_option maxHeartbeats 1600000 in
theorem rremove_some (G : Nat -> Prop) (p room : Nat) (v : Value) (X : List (Str × Fil)) (s : ByteArray) (a : Fil) (w : World) (h : RShell w G p room v X) (hlen : X.length <= 256) (hr : Rise X) (hg : getK s.data.toList X = some a) :
  Calls Tryz.prog 68 #[.pointer (some ⟨p, 0, none⟩), .string s] w fun e w' => e = .returned (.int .i64 0) /\ ∃ G' v', RShell w' G' p room v' (delK s.data.toList X) /\ Next G w G' w' /\ U8 w w' := by
 obtain ⟨A0, c0, rfl, hlc, hc63, hn0, hcell⟩ := h.form;obtain ⟨hjl, _⟩ := posK_get hr hg;obtain ⟨g, rfl, _⟩ := hcell _ hjl;have c1 : w.cell? ⟨p, 1, none⟩ = some (.slice (some ⟨g, 0, none⟩) X.length c0) := h.cells.cell 1;have hpl := h.low p h.own;have f1 := h.cells.frozen 1;have HS := hide (spot_any G p room _ X s w h hr);have HD := hide (del_at hr hg);obtain ⟨N, hN⟩ : ∃ N, N = X.length := ⟨_, rfl⟩;obtain ⟨j, hj⟩ : ∃ j, j = posK s.data.toList X := ⟨_, rfl⟩;have HX := hide h;have HE := hide (fun q hq => (h.each q hq).1 : ∀ q ∈ X, Own w 0 q.2.1 q.2.2.1);have HR := hide h.row;rw [<- hj, hg] at HS;rw [<- hj] at HD hjl;rw [<- hN] at c1 hlc hlen hjl;have HN := hide hN;clear h hcell hN hn0 hj hg hr;go_enter Tryz.func68, Tryz.ntmps68;go_wp2_with fail
 refine HS.out.mono ?_;rintro e w1 ⟨rfl, dd, hd⟩;have k1 : Below w.heap.size w w1 := by rw [hd]; exact below_drewN (Below.refl _ _) dd
 have hz1 : w1.heap.size = w.heap.size := by rw [hd]; rfl
 have c1' : w1.cell? ⟨p, 1, none⟩ = some (.slice (some ⟨g, 0, none⟩) N c0) := by rw [hd]; exact c1
 have f1' : w1.frozen? ⟨p, 1, none⟩ = false := by rw [hd]; exact f1
 have hpl1 : p < w1.heap.size := by omega
 have HZ1 := hide hz1;clear hd c1 f1 hz1;have r1 := HR.out.turn (S := fun _ => False) (Turn.of_below _ k1) (fun _ _ => id);have e1 : ∀ q ∈ X, Own w1 0 q.2.1 q.2.2.1 := fun q hq => (HE.out q hq).turn (S := fun _ => False) (Turn.of_below _ k1) (fun _ _ => id)
 have T1 := hide (r1.take e1 j (by rw [<- HN.out]; omega));have D1 := hide (r1.drop e1 (j + 1) (by rw [<- HN.out]; omega) _ (.inr ⟨g, rfl, rfl⟩));rw [<- HN.out] at D1;have K1 := hide k1;clear k1 r1 e1;have lt1 : (X.take j).length <= 256 := by rw [List.length_take]; omega
 have lt2 : (X.take j).length + (X.drop (j + 1)).length <= 1073741824 := by rw [List.length_take, List.length_drop, <- HN.out]; omega
 have fin : ∀ v5 w5, OwnF w5 w1.heap.size v5 (X.take j ++ X.drop (j + 1)) -> Below w1.heap.size w1 w5 -> ∃ G' v', RShell (w5.setCell ⟨p, 1, none⟩ v5) G' p room v' (delK s.data.toList X) /\ Next G w G' (w5.setCell ⟨p, 1, none⟩ v5) /\ U8 w (w5.setCell ⟨p, 1, none⟩ v5) := by
  intro v5 w5 o5 k5;rw [<- HD.out] at o5;have n5 := below_step K1.out k5;refine ⟨fun k => G k \/ (w.heap.size <= k /\ k < w5.heap.size), v5, ?_, ?_, (U8.of_below n5).trans (u8_set (HX.out.below n5).cells (by decide))⟩
  ·refine ((HX.out.below n5).more (fun k hk => .inl hk) (fun k hk => ?_)).newrow (o5.down (Nat.zero_le _)) (fun g hg => .inr ?_) (fun q hq => ?_)
   ·rcases hk with hk | hk
    ·exact (HX.out.below n5).low k hk
    ·exact hk.2
   ·have := o5.lt g hg;have hz := HZ1.out;exact ⟨by omega, this.2⟩
   ·have := (HX.out.below n5).each q (mem_delK.1 hq).1;exact ⟨this.1, fun g hg => .inl (this.2.1 g hg), this.2.2⟩
  ·refine ⟨(Turn.of_below _ n5).then (S' := fun k => some k = some p) (Turn.of_grown (grown_set w5 p 1 v5)) (fun k hk => .inl ?_), fun k hk => ?_⟩
   ·have hk : k = p := by simpa using hk
    rw [hk];exact HX.out.own
   ·rcases hk with hk | hk
    ·exact .inl hk
    ·exact .inr hk.1
 have FIN := hide fin;clear fin;have hd : c0 = j + 1 \/ ¬ c0 = j + 1 := by omega
 rcases hd with rfl | hd
 ·rw [if_pos rfl, Nat.sub_self, show N - (j + 1) = 0 by omega] at D1;have hq : IntKind.i64.wrap ((j : Int) + 1) = ((j + 1 : Nat) : Int) := by rw [IntKind.wrap_i64]; omega
  have hjc : j <= j + 1 := by omega
  have hj2 : (j : Int) <= (j : Int) + 1 := by omega
  have hj0 : 0 <= (j : Int) + 1 := by omega
  have hjN : (j : Int) + 1 <= (N : Int) := by omega
  have KA := below_alloc w1 (.cells #[] 91);go_wp2_with fail
  go_region_law (first
   | (refine step_append_files rfl (.tmp 16) (.tmp 22) rfl w1.heap.size _ [] rfl (own_emptyF (W := w1) (Nat.le_refl _) _ rfl) _ (X.take j) rfl (T1.out.below ⟨KA.os, KA.tape, KA.output, KA.size, KA.block⟩) (by rw [List.length_nil]; omega) KA.size ?_; intro v3 w3 o3 k3; rw [List.nil_append] at o3; have K3 : Below w1.heap.size w1 w3 := (by refine Below.trans ?_ k3; exact ⟨KA.os, KA.tape, KA.output, KA.size, KA.block⟩); have c3 : w3.cell? ⟨p, 1, none⟩ = some (.slice (some ⟨g, 0, none⟩) N (j + 1)) := (by rw [<- c1']; exact K3.cell hpl1); have f3 : w3.frozen? ⟨p, 1, none⟩ = false := (by rw [<- f1']; exact K3.frozen hpl1))
   | (refine step_append_files rfl (.tmp 23) (.tmp 30) rfl w1.heap.size _ (X.take j) rfl o3 _ (X.drop (j + 1)) rfl (D1.out.below ⟨K3.os, K3.tape, K3.output, K3.size, K3.block⟩) lt2 K3.size ?_; intro v4 w4 o4 k4; have K4 : Below w1.heap.size w1 w4 := (by refine Below.trans ?_ k4; exact ⟨K3.os, K3.tape, K3.output, K3.size, K3.block⟩); have HF4 := hide (FIN.out v4 w4 o4 K4); obtain ⟨A4, n4, c4, rfl⟩ := o4.shape; have c4' : w4.cell? ⟨p, 1, none⟩ = some (.slice (some ⟨g, 0, none⟩) N (j + 1)) := (by rw [<- c1']; exact K4.cell hpl1); have f4 : w4.frozen? ⟨p, 1, none⟩ = false := (by rw [<- f1']; exact K4.frozen hpl1); clear K4 o4 k4))
  all_goals
   go_wp2_with fail
   go_ret;exact ⟨rfl, HF4.out⟩
 ·rw [if_neg hd] at D1;have hq : IntKind.i64.wrap ((j : Int) + 1) = ((j + 1 : Nat) : Int) := by rw [IntKind.wrap_i64]; omega
  have hjc : j <= c0 := by omega
  have hj0 : 0 <= (j : Int) + 1 := by omega
  have hjN : (j : Int) + 1 <= (N : Int) := by omega
  have hjc1 : j + 1 <= c0 := by omega
  have KA := below_alloc w1 (.cells #[] 91);go_wp2_with fail
  go_region_law (first
   | (refine step_append_files rfl (.tmp 16) (.tmp 22) rfl w1.heap.size _ [] rfl (own_emptyF (W := w1) (Nat.le_refl _) _ rfl) _ (X.take j) rfl (T1.out.below ⟨KA.os, KA.tape, KA.output, KA.size, KA.block⟩) (by rw [List.length_nil]; omega) KA.size ?_; intro v3 w3 o3 k3; rw [List.nil_append] at o3; have K3 : Below w1.heap.size w1 w3 := (by refine Below.trans ?_ k3; exact ⟨KA.os, KA.tape, KA.output, KA.size, KA.block⟩); have c3 : w3.cell? ⟨p, 1, none⟩ = some (.slice (some ⟨g, 0, none⟩) N c0) := (by rw [<- c1']; exact K3.cell hpl1); have f3 : w3.frozen? ⟨p, 1, none⟩ = false := (by rw [<- f1']; exact K3.frozen hpl1))
   | (refine step_append_files rfl (.tmp 23) (.tmp 30) rfl w1.heap.size _ (X.take j) rfl o3 _ (X.drop (j + 1)) rfl (D1.out.below ⟨K3.os, K3.tape, K3.output, K3.size, K3.block⟩) lt2 K3.size ?_; intro v4 w4 o4 k4; have K4 : Below w1.heap.size w1 w4 := (by refine Below.trans ?_ k4; exact ⟨K3.os, K3.tape, K3.output, K3.size, K3.block⟩); have HF4 := hide (FIN.out v4 w4 o4 K4); obtain ⟨A4, n4, c4, rfl⟩ := o4.shape; have c4' : w4.cell? ⟨p, 1, none⟩ = some (.slice (some ⟨g, 0, none⟩) N c0) := (by rw [<- c1']; exact K4.cell hpl1); have f4 : w4.frozen? ⟨p, 1, none⟩ = false := (by rw [<- f1']; exact K4.frozen hpl1); clear K4 o4 k4))
  all_goals
   go_wp2_with fail
   go_ret;exact ⟨rfl, HF4.out⟩
end Go.Proofs.YtbmhfnhfhdgdgaaGreat
namespace Go.Proofs.YtbmhfnhfhdgdgaaGreat
open Go.RowKit
theorem rdraw_any (z : Int) (draw : Nat) (hz : max z 0 = (draw : Int)) (w : World) :
  Calls Tryz.prog 111 #[.int .i64 z] w fun e w' => e = .returned (.int .i64 (draw : Int)) /\ w = w' := by
 have h2 : max 0 z = (draw : Int) := by omega
 go_enter Tryz.func111, Tryz.ntmps111;go_wp2_with fail
 go_ret;exact ⟨rfl, rfl⟩
theorem rround_any (a b c : Nat) (hc : 0 < c) (hc1 : c <= 1099511627776) (w : World) :
  Calls Tryz.prog 110 #[.int .i64 (a : Int), .int .i64 (b : Int), .int .i64 (c : Int)] w fun e w' => e = .returned (.int .i64 (((a % c + b) % c : Nat) : Int)) /\ ∃ d, w' = w.drewN d := by
 obtain ⟨q1, hq1⟩ : ∃ q, q = a % c := ⟨_, rfl⟩;obtain ⟨q2, hq2⟩ : ∃ q, q = b % c := ⟨_, rfl⟩;obtain ⟨q3, hq3⟩ : ∃ q, q = (q1 + q2) % c := ⟨_, rfl⟩;have he : (a % c + b) % c = q3 := by
  rw [hq3, hq1, hq2, <- Nat.add_mod, Nat.mod_add_mod]
 rw [he];have r1 : (a : Int).tmod (c : Int) = (q1 : Int) := by
  rw [hq1, Int.tmod_eq_emod_of_nonneg (by omega)];exact (Int.natCast_emod _ _).symm
 have r2 : (b : Int).tmod (c : Int) = (q2 : Int) := by
  rw [hq2, Int.tmod_eq_emod_of_nonneg (by omega)];exact (Int.natCast_emod _ _).symm
 have r3 : ((q1 : Int) + (q2 : Int)).tmod (c : Int) = (q3 : Int) := by
  rw [hq3, Int.tmod_eq_emod_of_nonneg (by omega), show (q1 : Int) + (q2 : Int) = ((q1 + q2 : Nat) : Int) by omega];exact (Int.natCast_emod _ _).symm
 have hu1 : q1 < c := by rw [hq1]; exact Nat.mod_lt _ hc
 have hu2 : q2 < c := by rw [hq2]; exact Nat.mod_lt _ hc
 have hnz : ¬ ((c : Int) = 0) := by omega
 have hw1 : IntKind.i64.wrap ((q1 : Int) + (q2 : Int)) = (q1 : Int) + (q2 : Int) := by rw [IntKind.wrap_i64]; omega
 have hb : q1 + q2 <= 9223372036854775807 := by omega
 clear hq1 hq2 hq3 he;go_enter Tryz.func110, Tryz.ntmps110;go_wp2_with fail
 go_region
 all_goals
  go_wp2_with fail
  go_ret;exact ⟨rfl, 1, rfl⟩
end Go.Proofs.YtbmhfnhfhdgdgaaGreat
namespace Go.Proofs.YtbmhfnhfhdgdgaaGreat
open Go.RowKit Go.Maps
variable {w w1 w2 : World} {F G F' G' : Nat -> Prop} {L L' : DiskL} {B room d p : Nat}
theorem crashTo_succ (draw j : Nat) (L : DiskL) (hj : j < L.length) : crashTo draw (j + 1) L = (crashTo draw j L).set j (L[j].1, crash1 draw j L[j].2) := by
 unfold crashTo;refine List.ext_getElem (by simp) fun i h1 h2 => ?_
 simp only [List.getElem_mapIdx, List.getElem_set];by_cases e : j = i
 ·subst e;simp
 ·rw [if_neg e];by_cases hl : i < j
  ·rw [if_pos (by omega), if_pos hl]
  ·rw [if_neg (by omega), if_neg hl]
theorem crashTo_at (draw j : Nat) (L : DiskL) (hj : j < L.length) : (crashTo draw j L)[j]'(by rw [crashTo_length]; exact hj) = L[j] := by
 unfold crashTo;simp
theorem absX_set (X : List (Str × Fil)) (i : Nat) (q : Str × Fil) : absX (X.set i q) = (absX X).set i (q.1, q.2.2) := by
 unfold absX mapK;rw [List.map_set]
theorem rround_z (a b c : Nat) (z : Int) (hz : z = (c : Int)) (hc : 0 < c) (hc1 : c <= 1099511627776) (w : World) :
  Calls Tryz.prog 110 #[.int .i64 (a : Int), .int .i64 (b : Int), .int .i64 z] w fun e w' => e = .returned (.int .i64 (((a % c + b) % c : Nat) : Int)) /\ ∃ d, w' = w.drewN d := by
 rw [hz];exact rround_any a b c hc hc1 w
set_option maxRecDepth 100000 in
set_option maxHeartbeats 6400000 in
theorem rcrash_any (G : Nat -> Prop) (p room : Nat) (v : Value) (X : List (Str × Fil)) (z : Int) (draw : Nat) (w : World) (h : RShell w G p room v X) (hlen : X.length <= 256) (hz : max z 0 = (draw : Int)) (hb : ∀ q ∈ X, q.2.2.2 <= q.2.2.1.length) (hbl : ∀ q ∈ X, q.2.2.1.length <= 1073741824) :
  Calls Tryz.prog 48 #[.pointer (some ⟨p, 0, none⟩), .int .i64 z] w fun e w' => e = .returned (.tuple #[]) /\ ∃ G' v' X', RShell w' G' p room v' X' /\ absX X' = crashD draw (absX X) /\ Next G w G' w' := by
 obtain ⟨A, c, rfl, hlc, hc63, hnil, hcell0⟩ := h.form;obtain ⟨N, hN⟩ : ∃ N, N = X.length := ⟨_, rfl⟩;have hHX := hide h;have HN := hide hN;have HZ := hide hz;have HB := hide hb;have HBL := hide hbl;have HA : Hid (0 < N -> ∃ g, A = some ⟨g, 0, none⟩) := fun h0 => by
  obtain ⟨g, e, _⟩ := hcell0 0 (by omega);exact ⟨g, e⟩
 rw [<- hN] at hlc hlen;clear h hN hz hb hbl hcell0 hnil;go_enter Tryz.func48, Tryz.ntmps48;go_wp2_with fail
 go_loopw [4] (fun i wr => ∃ (j : Nat) (G' : Nat -> Prop) (Y : List (Str × Fil)), j <= N /\ i = .int .i64 (j : Int) /\ Hid (Y.length = N) /\ Hid (RShell wr G' p room (.slice A N c) Y) /\ Hid (absX Y = crashTo draw j (absX X)) /\ Hid (Next G w G' wr)) (fun i _ => N - (intOf i).toNat)
 case atStart => exact ⟨0, G, X, Nat.zero_le _, rfl, HN.out.symm, by unfold Hid; rw [HN.out]; exact hHX.out, by unfold Hid; rw [crashTo_zero], Next.refl G w⟩
 case round =>
  obtain ⟨j, G', Y, hj, rfl, hY, hS, hab, hNx⟩ := hrel;have c1 : wr.cell? ⟨p, 1, none⟩ = some (.slice A N c) := hS.out.cells.cell 1;by_cases hlt : j < N
  ·obtain ⟨g, rfl⟩ := HA.out (by omega);have hjY : j < Y.length := by rw [hY.out]; exact hlt
   have hjX : j < X.length := by rw [<- HN.out]; exact hlt
   have sY : RShell wr G' p room (.slice (some ⟨g, 0, none⟩) Y.length c) Y := by rw [hY.out]; exact hS.out
   have hGg : G' g := sY.mine g rfl;obtain ⟨q0, q1, q2, fz⟩ := sY.at_ j hjY;have hLj : j < (absX X).length := by rw [absX_length]; exact hjX
   have hYX : (Y[j].1, Y[j].2.2) = (X[j].1, X[j].2.2) := by
    have h1 := crashTo_at draw j (absX X) hLj;have h2 : (absX Y)[j]'(by rw [absX_length]; exact hjY) = (absX X)[j] := by
     rw [<- h1];congr 1
    simpa [absX, mapK] using h2
   have hm1 := HB.out X[j] (List.getElem_mem hjX);have hm2 := HBL.out X[j] (List.getElem_mem hjX);have e2 : Y[j].2.2 = X[j].2.2 := (Prod.mk.inj hYX).2;have e1 : Y[j].1 = X[j].1 := (Prod.mk.inj hYX).1;rw [<- e2] at hm1 hm2;have hoj := sY.each Y[j] (List.getElem_mem hjY);obtain ⟨A', cc, e, hIB, h7, h8⟩ := hoj.1.isB.form rfl;obtain ⟨k, hk⟩ : ∃ k, k = Y[j].1 := ⟨_, rfl⟩;obtain ⟨xs, hxs⟩ : ∃ xs, xs = Y[j].2.2.1 := ⟨_, rfl⟩;obtain ⟨l, hl⟩ : ∃ l, l = Y[j].2.2.2 := ⟨_, rfl⟩;have HYJ : Hid (Y[j] = (k, (Y[j].2.1, xs, l))) := by unfold Hid; rw [hk, hxs, hl]
   have HXJ : Hid ((absX X)[j] = (k, (xs, l))) := by
    unfold Hid;rw [hk, hxs, hl, e1, e2];simp [absX, mapK]
   rw [e] at q1;rw [<- hk] at q0;rw [<- hxs] at q1 hm1 hm2 hIB h7;rw [<- hl] at q2 hm1;have hx8 : ∀ x ∈ xs, x < 256 := by rw [hxs]; exact hoj.2.2
   obtain ⟨n, hn⟩ : ∃ n, n = xs.length := ⟨_, rfl⟩;rw [<- hn] at q1 hm1 hm2 hIB h7;obtain ⟨s, hs⟩ : ∃ s : ByteArray, s.data.toList = k := ⟨⟨k.toArray⟩, by simp⟩;rw [<- hs] at q0;have q0 : wr.cell? ⟨g, j * 3, none⟩ = some (.string s) := q0;obtain ⟨r, hr⟩ : ∃ r, r = (draw % (n - l + 1) + j) % (n - l + 1) := ⟨_, rfl⟩;have hrl : r < n - l + 1 := by rw [hr]; exact Nat.mod_lt _ (by omega)
   obtain ⟨m, hm⟩ : ∃ m, m = l + r := ⟨_, rfl⟩;have hmn : m <= n := by omega
   have C1 : Hid (crash1 draw j (xs, l) = (xs.take m, m)) := by
    unfold Hid crash1;simp only;rw [<- hn, <- hr, <- hm]
   have HM : Hid ((l : Int) + (r : Int) = (m : Int)) := by unfold Hid; omega
   have HRR := hide hr;have hw2 : IntKind.i64.wrap ((l : Int) + (r : Int)) = (l : Int) + (r : Int) := by rw [IntKind.wrap_i64]; omega
   have hmc : (m : Int) <= (cc : Int) := by omega
   have HNN := hide hn;have HIB := hide (hIB.take m hmn);have H8 : Hid (∀ x ∈ xs.take m, x < 256) := fun x hx => hx8 x (List.mem_of_mem_take hx)
   have HSY := hide sY;have HGG := hide hGg;have f1 := hide fz;have hgl : g < wr.heap.size := cell_lt q1;have hpl : p < wr.heap.size := cell_lt c1;have hdz : max 0 z = (draw : Int) := by have := HZ.out; omega
   have HDZ := hide hdz;have hlm : l <= n := hm1;clear hs hk hxs hl hn hr hm hx8 hoj e1 e2 hYX e hIB sY fz hm1 hdz hS hGg;go_wp2_with fail
   obtain ⟨w2, h2⟩ : ∃ w2, w2 = wr.alloc (.cells #[.string s, .slice A' n cc, .int .i64 (l : Int)] 91) := ⟨_, rfl⟩;have k2 : Below wr.heap.size wr w2 := by rw [h2]; exact below_alloc _ _
   have b2 : Blk w2 0 91 wr.heap.size [.string s, .slice A' n cc, .int .i64 (l : Int)] := by rw [h2]; exact Blk.new (B := 0) wr _ _ (Nat.zero_le _)
   have h2' : w2 = wr.alloc (.cells #[.string { data := s.data }, .slice A' n cc, .int .i64 (l : Int)] 91) := h2;rw [<- h2'];clear h2 h2';have u1 : w2.cell? ⟨wr.heap.size, 1, none⟩ = some (.slice A' n cc) := b2.cell 1;have u2 : w2.cell? ⟨wr.heap.size, 2, none⟩ = some (.int .i64 (l : Int)) := b2.cell 2;go_quiet (first
    | (go_at_call 111; refine Calls.quiet_of (v := .int .i64 (draw : Int)) ?_; refine (rdraw_any z draw HZ.out _).mono ?_; rintro e w' ⟨rfl, rfl⟩; exact ⟨rfl, 0, rfl⟩)
    | (go_at_call 110; refine Calls.quiet_of (v := .int .i64 (r : Int)) ?_; refine (rround_z draw j (n - l + 1) _ (by omega) (by omega) (by omega) _).mono ?_; rintro e w' ⟨rfl, d9, rfl⟩; exact ⟨by rw [HRR.out], d9, rfl⟩))
   rw [HM.out];obtain ⟨w3, h3⟩ : ∃ w3, w3 = w2.drewN nq := ⟨_, rfl⟩;rw [<- h3];have k3 : Below wr.heap.size wr w3 := below_step k2 (by rw [h3]; exact below_drewN (Below.refl _ _) _);have t1 : w3.cell? ⟨wr.heap.size, 1, none⟩ = some (.slice A' n cc) := by rw [h3]; exact u1
   have c3' : w3.cell? ⟨p, 1, none⟩ = some (.slice (some ⟨g, 0, none⟩) N c) := (k3.cell (p := ⟨p, 1, none⟩) hpl).trans c1;have q3' : w3.cell? ⟨g, j * 3 + 1, none⟩ = some (.slice A' n cc) := (k3.cell (p := ⟨g, j * 3 + 1, none⟩) hgl).trans q1;have f3' : w3.frozen? ⟨g, j * 3 + 1, none⟩ = false := (k3.frozen (p := ⟨g, j * 3 + 1, none⟩) hgl).trans (f1.out (j * 3 + 1));have hb3l : wr.heap.size < w3.heap.size := cell_lt t1;have hpl3 : p < w3.heap.size := cell_lt c3';have hgl3 : g < w3.heap.size := cell_lt q3';have HIB3 := hide (HIB.out.keep k3);have HS3 := hide (HSY.out.below k3);have N3 := hide (hNx.out.trans (Next.of_below G' k3));have HMT : Hid ((xs.take m).length <= 1073741824) := by
    unfold Hid;rw [List.length_take, <- HNN.out];omega
   clear h3 k2 b2 u1 u2 k3 q0 q1 q2 c1;have KA := below_alloc w3 (.cells #[] 5);go_wp2_with fail
   go_region_law (first
    | (refine step_append_bytes rfl (.tmp 44) (.tmp 48) rfl w3.heap.size _ [] rfl (own_emptyB (W := w3) (Nat.le_refl _) _ rfl) _ (xs.take m) rfl (HIB3.out.keep ⟨KA.os, KA.tape, KA.output, KA.size, KA.block⟩) (by rw [List.length_nil]; have := HMT.out; omega) KA.size ?_; intro v4 w4 o4 k4; rw [List.nil_append] at o4; have K4 : Below w3.heap.size w3 w4 := (by refine Below.trans ?_ k4; exact ⟨KA.os, KA.tape, KA.output, KA.size, KA.block⟩); obtain ⟨A4, n4, c4, rfl⟩ := o4.shape; have q4 : w4.cell? ⟨g, j * 3 + 1, none⟩ = some (.slice A' n cc) := (by rw [<- q3']; exact K4.cell hgl3); have q4c : w4.cell? ⟨p, 1, none⟩ = some (.slice (some ⟨g, 0, none⟩) N c) := (by rw [<- c3']; exact K4.cell hpl3); have f4 : w4.frozen? ⟨g, j * 3 + 1, none⟩ = false := (by rw [<- f3']; exact K4.frozen hgl3); have O4 := hide o4; have KK4 := hide K4; clear o4 k4 K4))
   all_goals
    obtain ⟨G5, s5, n5, g5⟩ := lay_bytes HS3.out KK4.out HGG.out j hjY O4.out (Nat.le_refl _) H8.out;rw [HYJ.out] at s5;obtain ⟨w5, h5⟩ : ∃ w5, w5 = w4.setCell ⟨g, j * 3 + 1, none⟩ (.slice A4 n4 c4) := ⟨_, rfl⟩;rw [<- h5] at s5 n5 ⊢;clear h5 f4 q4 q4c;have hl5 : (Y.set j (k, (.slice A4 n4 c4, xs.take m, l))).length = Y.length := List.length_set;have s6 : RShell w5 G5 p room (.slice (some ⟨g, 0, none⟩) (Y.set j (k, ((.slice A4 n4 c4, xs.take m, l) : Fil))).length c) (Y.set j (k, (.slice A4 n4 c4, xs.take m, l))) := by rw [hl5]; exact s5
    have hj5 : j < (Y.set j (k, ((.slice A4 n4 c4, xs.take m, l) : Fil))).length := by rw [hl5]; exact hjY
    obtain ⟨-, -, t2a, t3a⟩ := s6.at_ j hj5;rw [List.getElem_set_self] at t2a;have t2 : w5.cell? ⟨g, j * 3 + 2, none⟩ = some (.int .i64 (l : Int)) := t2a;have t3 := t3a (j * 3 + 2);clear t2a t3a;have t4 : w5.cell? ⟨p, 1, none⟩ = some (.slice (some ⟨g, 0, none⟩) N c) := by rw [<- hY.out]; exact s5.cells.cell 1
    have s7 := s6.set2 j hj5 m;rw [List.getElem_set_self, List.set_set, hl5, hY.out] at s7;have S7 : Hid (RShell (w5.setCell ⟨g, j * 3 + 2, none⟩ (.int .i64 (m : Int))) G5 p room (.slice (some ⟨g, 0, none⟩) N c) (Y.set j (k, (.slice A4 n4 c4, xs.take m, m)))) := s7;have HY7 : Hid ((Y.set j (k, ((.slice A4 n4 c4, xs.take m, m) : Fil))).length = N) := by unfold Hid; rw [List.length_set]; exact hY.out
    have HAB7 : Hid (absX (Y.set j (k, ((.slice A4 n4 c4, xs.take m, m) : Fil))) = crashTo draw (j + 1) (absX X)) := by
     unfold Hid;rw [crashTo_succ draw j (absX X) hLj, HXJ.out, C1.out, absX_set, hab.out]
    have N7 := hide ((N3.out.trans n5).trans (next_store (i := j * 3 + 2) (u := .int .i64 (m : Int)) g5 (Turn.refl G5 w5)));clear s5 n5 hl5 s6 hj5 s7 g5;go_wp2_with fail
    go_roundw
    case rel => exact ⟨j + 1, G5, _, by omega, by go_num, HY7, S7, HAB7, N7⟩
    case measure => simp [intOf]; omega
  ·obtain rfl : j = N := by omega
   have hx := hab.out;rw [show j = (absX X).length by rw [absX_length]; exact HN.out, crashTo_all] at hx;have HE := hide (And.intro hS.out (And.intro hx hNx.out));clear hx;go_wp2_with fail
   go_end0;exact ⟨rfl, G', _, Y, HE.out⟩
theorem RAt.drawn (h : RAt w G p room L) (n : Nat) : RAt (w.drewN n) G p room L := h.turn (S := fun _ => False) ((Turn.refl _ w).drewN n) (fun _ _ => id)
section
variable (G : Nat -> Prop) (p room : Nat) (L : DiskL) (s : ByteArray) (w : World) (hR : RAt w G p room L) (hS : Sane room L)
include hR hS
theorem rsync_any : Calls Tryz.prog 69 #[.pointer (some ⟨p, 0, none⟩), .string s] w fun e w' => e = .returned (.int .i64 ((syncL s.data.toList L).2 : Nat)) /\ ∃ G', RAt w' G' p room (syncL s.data.toList L).1 /\ Next G w G' w' := by
 obtain ⟨v, X, rfl, hx⟩ := hR;have hr := rise_abs hS.rise;unfold syncL;rw [absX_get];rcases hg : getK s.data.toList X with _ | a
 ·refine (rsync_none G p room v X s w hx hr hg).mono ?_;rintro e w' ⟨rfl, d, rfl⟩;exact ⟨rfl, G, RAt.drawn ⟨v, X, rfl, hx⟩ d, (Next.refl G w).drewN d⟩
 ·refine (rsync_some G p room v X s a w hx hr hg).mono ?_;rintro e w' ⟨rfl, G', v', h', n⟩;exact ⟨rfl, G', ⟨v', _, by rw [absX_put]; rfl, h'⟩, n⟩
theorem rremove_at : Calls Tryz.prog 68 #[.pointer (some ⟨p, 0, none⟩), .string s] w fun e w' => e = .returned (.int .i64 ((remL s.data.toList L).2 : Nat)) /\ ∃ G', RAt w' G' p room (remL s.data.toList L).1 /\ Next G w G' w' := by
 obtain ⟨v, X, rfl, hx⟩ := hR;have hr := rise_abs hS.rise;have hlen := hS.few;rw [absX_length] at hlen;unfold remL;rw [absX_get];rcases hg : getK s.data.toList X with _ | a
 ·refine (rremove_none G p room v X s w hx hr hg).mono ?_;rintro e w' ⟨rfl, d, rfl⟩;exact ⟨rfl, G, RAt.drawn ⟨v, X, rfl, hx⟩ d, (Next.refl G w).drewN d⟩
 ·refine (rremove_some G p room v X s a w hx hlen hr hg).mono ?_;rintro e w' ⟨rfl, G', v', h', n, _⟩;exact ⟨rfl, G', ⟨v', _, by rw [absX_del]; rfl, h'⟩, n⟩
theorem rcut_any (z : Int) : Calls Tryz.prog 53 #[.pointer (some ⟨p, 0, none⟩), .string s, .int .i64 z] w fun e w' => e = .returned (.int .i64 ((cutL s.data.toList z L).2 : Nat)) /\ ∃ G', RAt w' G' p room (cutL s.data.toList z L).1 /\ Next G w G' w' := by
 obtain ⟨v, X, rfl, hx⟩ := hR;have hr := rise_abs hS.rise;unfold cutL;rcases hg : getK s.data.toList X with _ | a
 ·rw [absX_get, hg];refine (rcut_none G p room v X s w hx hr hg z).mono ?_;rintro e w' ⟨rfl, d, rfl⟩;exact ⟨rfl, G, RAt.drawn ⟨v, X, rfl, hx⟩ d, (Next.refl G w).drewN d⟩
 ·have hg2 : getK s.data.toList (absX X) = some a.2 := by rw [absX_get, hg]; rfl
  have hl := hS.len hg2;rw [hg2];dsimp only;by_cases hz : z < 0 \/ (a.2.1.length : Int) < z
  ·rw [if_pos hz];refine (rcut_arg G p room v X s a z w hx hr hg hz).mono ?_;rintro e w' ⟨rfl, d, rfl⟩;exact ⟨rfl, G, RAt.drawn ⟨v, X, rfl, hx⟩ d, (Next.refl G w).drewN d⟩
  ·rw [if_neg hz];obtain ⟨k, rfl⟩ : ∃ k : Nat, z = (k : Int) := ⟨z.toNat, by omega⟩;refine (rcut_ok G p room v X s a k w hx hr hg (by omega) (by omega)).mono ?_;rintro e w' ⟨rfl, G', v', u, h', n⟩;exact ⟨rfl, G', ⟨v', _, by rw [absX_put]; rfl, h'⟩, n⟩
theorem rrot_any (z : Int) (y : Nat) (hy : y < 256) : Calls Tryz.prog 51 #[.pointer (some ⟨p, 0, none⟩), .string s, .int .i64 z, .int .u8 (y : Int)] w fun e w' => e = .returned (.int .i64 ((rotL s.data.toList z y L).2 : Nat)) /\ ∃ G', RAt w' G' p room (rotL s.data.toList z y L).1 /\ Next G w G' w' := by
 obtain ⟨v, X, rfl, hx⟩ := hR;have hr := rise_abs hS.rise;unfold rotL;rcases hg : getK s.data.toList X with _ | a
 ·rw [absX_get, hg];refine (rrot_none G p room v X s w hx hr hg z y).mono ?_;rintro e w' ⟨rfl, d, rfl⟩;exact ⟨rfl, G, RAt.drawn ⟨v, X, rfl, hx⟩ d, (Next.refl G w).drewN d⟩
 ·have hg2 : getK s.data.toList (absX X) = some a.2 := by rw [absX_get, hg]; rfl
  have hl := hS.len hg2;rw [hg2];dsimp only;by_cases hz : z < 0 \/ (a.2.1.length : Int) <= z
  ·rw [if_pos hz];refine (rrot_out G p room v X s a z y w hx hr hg hz).mono ?_;rintro e w' ⟨rfl, d, rfl⟩;exact ⟨rfl, G, RAt.drawn ⟨v, X, rfl, hx⟩ d, (Next.refl G w).drewN d⟩
  ·rw [if_neg hz];obtain ⟨k, rfl⟩ : ∃ k : Nat, z = (k : Int) := ⟨z.toNat, by omega⟩;refine (rrot_ok G p room v X s a k y w hx hr hg (by omega) hy (by omega)).mono ?_;rintro e w' ⟨rfl, G', v', u, h', n⟩;exact ⟨rfl, G', ⟨v', _, by rw [absX_put]; rfl, h'⟩, n⟩
theorem rread_any : Calls Tryz.prog 86 #[.pointer (some ⟨p, 0, none⟩), .string s] w fun e w' => ∃ v, e = .returned (.tuple #[v, .int .i64 ((readL s.data.toList L).2 : Nat)]) /\ Own w' w.heap.size v (readL s.data.toList L).1 /\ Below w.heap.size w w' := by
 obtain ⟨v, X, rfl, hx⟩ := hR;have hr := rise_abs hS.rise;unfold readL;rcases hg : getK s.data.toList X with _ | a
 ·rw [absX_get, hg];refine (rread_none G p room v X s w hx hr hg).mono ?_;rintro e w' ⟨rfl, d, rfl⟩;exact ⟨_, rfl, World.ownsRow_nil _ _ _ _, below_drewN (Below.refl _ _) d⟩
 ·have hg2 : getK s.data.toList (absX X) = some a.2 := by rw [absX_get, hg]; rfl
  have hl := hS.len hg2;rw [hg2];exact rread_some G p room v X s a w hx hr hg (by omega)
theorem rappend_at (P : Option Addr) (m cp : Nat) (ps : List Nat) (hPB : IsB w (.slice P m cp) ps) (hPM : ps.length = m) (hP8 : ∀ x ∈ ps, x < 256) (hPG : ps ≠ [] -> Off G (.slice P m cp)) (hs : s.size <= 1099511627776) (hmr : m <= 1099511627776) :
  Calls Tryz.prog 10 #[.pointer (some ⟨p, 0, none⟩), .string s, .slice P m cp] w fun e w' => e = .returned (.int .i64 ((appL room s.data.toList ps L).2 : Nat)) /\ ∃ G', RAt w' G' p room (appL room s.data.toList ps L).1 /\ Next G w G' w' := by
 obtain ⟨v, X, rfl, hx⟩ := hR;have hr := rise_abs hS.rise;have hmost := hS.most;have hused := hS.used;have hl : s.data.toList.length = s.size := rfl;have hu : sumK filL X = usedL (absX X) := (absX_used X).symm;have hln : X.length = (absX X).length := (absX_length X).symm;by_cases hn : 1 <= s.size /\ s.size <= 64
 ·by_cases hf : (getK s.data.toList (absX X) = none /\ 256 <= (absX X).length) \/ room < usedL (absX X) + ps.length
  ·have e : appL room s.data.toList ps (absX X) = (absX X, 6) := by unfold appL; rw [if_neg (fun h => h (by rw [hl]; exact hn)), if_pos hf]
   rw [e];refine (rappend_full G p room v X s P m cp w hx hr hn (by omega) (by omega) hmr ?_).mono ?_
   ·rcases hg : getK s.data.toList X with _ | a
    ·by_cases h6 : 256 <= X.length
     ·exact .inr ⟨rfl, h6⟩
     ·refine .inl ⟨.inr ⟨rfl, by omega⟩, ?_⟩;rcases hf with ⟨_, h⟩ | h
      ·omega
      ·omega
    ·refine .inl ⟨.inl rfl, ?_⟩;rcases hf with ⟨h, _⟩ | h
     ·rw [absX_get, hg] at h; cases h
     ·omega
   ·rintro e w' ⟨rfl, d, rfl⟩;exact ⟨rfl, G, RAt.drawn ⟨v, X, rfl, hx⟩ d, (Next.refl G w).drewN d⟩
  ·have e : appL room s.data.toList ps (absX X) = (putK s.data.toList (oldB s.data.toList (absX X) ++ ps, oldN s.data.toList (absX X)) (absX X), 0) := by unfold appL; rw [if_neg (fun h => h (by rw [hl]; exact hn)), if_neg hf]
   rw [e];have hroom : sumK filL X + m <= room := by
    have : ¬ room < usedL (absX X) + ps.length := fun h => hf (.inr h)
    omega
   rcases hg : getK s.data.toList X with _ | a
   ·have hg2 : getK s.data.toList (absX X) = none := by rw [absX_get, hg]; rfl
    have hfew : X.length < 256 := by
     have : ¬ 256 <= (absX X).length := fun h => hf (.inl ⟨hg2, h⟩)
     omega
    have e1 : oldB s.data.toList (absX X) = [] := by unfold oldB; rw [hg2]; rfl
    have e2 : oldN s.data.toList (absX X) = 0 := by unfold oldN; rw [hg2]; rfl
    rw [e1, e2];refine (rappend_new G p room v X s P m cp ps w hx hr hg hfew hn (by omega) (by omega) hmr hroom hPB hPM hP8 hPG).mono ?_;rintro e w' ⟨rfl, G', v', u, h', n⟩;exact ⟨rfl, G', ⟨v', _, by rw [absX_put, List.nil_append], h'⟩, n⟩
   ·have hg2 : getK s.data.toList (absX X) = some a.2 := by rw [absX_get, hg]; rfl
    have hl2 := hS.len hg2;have e1 : oldB s.data.toList (absX X) = a.2.1 := by unfold oldB; rw [hg2]; rfl
    have e2 : oldN s.data.toList (absX X) = a.2.2 := by unfold oldN; rw [hg2]; rfl
    rw [e1, e2];refine (rappend_old G p room v X s a P m cp ps w hx hr hg hn (by omega) (by omega) hmr hroom hPB hPM hP8 (by omega)).mono ?_;rintro e w' ⟨rfl, G', v', u, h', n⟩;exact ⟨rfl, G', ⟨v', _, by rw [absX_put], h'⟩, n⟩
 ·have e : appL room s.data.toList ps (absX X) = (absX X, 1) := by unfold appL; rw [if_pos (by rw [hl]; exact hn)]
  rw [e];refine (rappend_arg p s _ w hn (by omega)).mono ?_;rintro e w' ⟨rfl, rfl⟩;exact ⟨rfl, G, ⟨v, X, rfl, hx⟩, Next.refl G w⟩
omit s in
theorem rcrash_at (z : Int) : Calls Tryz.prog 48 #[.pointer (some ⟨p, 0, none⟩), .int .i64 z] w fun e w' => e = .returned (.tuple #[]) /\ ∃ G', RAt w' G' p room (crashD z.toNat L) /\ Next G w G' w' := by
 obtain ⟨v, X, rfl, hx⟩ := hR;have hlen := hS.few;rw [absX_length] at hlen;have hr := rise_abs hS.rise;refine (rcrash_any G p room v X z z.toNat w hx hlen (by omega) (fun q hq => ?_) (fun q hq => ?_)).mono ?_
 ·exact hS.last (q.1, q.2.2) (List.mem_map.2 ⟨q, hq, rfl⟩)
 ·have hg : getK q.1 (absX X) = some q.2.2 := by rw [absX_get, mem_getK hr hq]; rfl
  exact hS.len hg
 ·rintro e w' ⟨rfl, G', v', X', h', e', n⟩;exact ⟨rfl, G', ⟨v', X', e'.symm, h'⟩, n⟩
end
structure Both (B : Nat) (w : World) (F G : Nat -> Prop) (d p room : Nat) (L : DiskL) : Prop where
 disk : DiskAt w F d room L
 ref : RAt w G p room L
 apart : ∀ k, F k -> ¬ G k
 upF : ∀ k, F k -> B <= k
 upG : ∀ k, G k -> B <= k
 base : B <= w.heap.size
theorem Both.first (h : Both B w F G d p room L) (n : Next F w F' w1) :
  RAt w1 G p room L /\ (∀ k, F' k -> ¬ G k) /\ (∀ k, F' k -> B <= k) /\ Below B w w1 := by
 refine ⟨h.ref.turn n.turn (fun g hg hf => h.apart g hf hg), fun k hk hg => ?_, n.up h.base h.upF, n.below h.base h.upF⟩;rcases n.foot k hk with h1 | h1
 ·exact h.apart k h1 hg
 ·have := h.ref.low k hg;omega
theorem both_second (hD : DiskAt w1 F' d room L') (ha : ∀ k, F' k -> ¬ G k) (hF : ∀ k, F' k -> B <= k) (hG : ∀ k, G k -> B <= k) (hB : B <= w1.heap.size)
  (hR : RAt w2 G' p room L') (n : Next G w1 G' w2) : Both B w2 F' G' d p room L' := by
 refine ⟨hD.turn n.turn (fun g hf hg => ha g hf hg), hR, fun k hk hg => ?_, hF, n.up hB hG, Nat.le_trans hB n.turn.size⟩;rcases n.foot k hg with h1 | h1
 ·exact ha k hk h1
 ·have := hD.low k hk;omega
theorem Both.below (h : Both B w F G d p room L) (k : Below w.heap.size w w1) : Both B w1 F G d p room L :=
 ⟨h.disk.below k, h.ref.below k, h.apart, h.upF, h.upG, Nat.le_trans h.base k.size⟩
theorem Both.drawn (h : Both B w F G d p room L) (n : Nat) : Both B (w.drewN n) F G d p room L :=
 h.below (below_drewN (Below.refl _ _) n)
theorem abs_at {X : List (Str × Fil)} (hr : Rise (absX X)) {j : Nat} (hj : j < X.length) : getK X[j].1 (absX X) = some X[j].2.2 := by
 have h : getK X[j].1 X = some X[j].2 := mem_getK (rise_abs hr) (List.getElem_mem hj);rw [absX_get, h]
 rfl
theorem Tryz.info_str : (Tryz.prog.info? 9).map (fun i => (i.zero, i.size, i.bytes)) = some (some (.string ⟨#[]⟩), 1, 16) := by kernel_rfl
theorem wpList_append_name {ops : Array Oper} {rest : List Oper} {o : Oper} {a : Act} {Q : Exit -> Act -> World -> Prop} (hgd : o.guard = none) (s x : Operand)
  (ho : o.op = .call { callee := .builtin .append, args := #[s, x], argTypes := #[104, 104] })
  (B : Nat) (v : Value) (ks : List Str) (hs : a.eval s = v) (hown : OwnS w B v ks)
  (b : Nat) (k : Str) (hx : a.eval x = .slice (some ⟨b, 0, none⟩) 1 1) (hr : w.cell? ⟨b, 0, none⟩ = some (encStr k))
  (hlen : ks.length <= 1099511627776) (hbase : B <= w.heap.size)
  (h : ∀ v' w', OwnS w' B v' (ks ++ [k]) -> Below B w w' -> wpList Tryz.prog ops Q rest (a.put o.dst v') w') : wpList Tryz.prog ops Q (o :: rest) a w := by
 obtain ⟨i0, hi, hz0, hz1, hz2⟩ := info_parts Tryz.info_str;refine wpList_append_own_at w hgd s x _ ho B 9 i0 _ 1 16 Tryz.underlying104 hi hz0 hz1 hz2 rfl (by decide) v _ _ hs hown ⟨b, 0, none⟩ 1 1 [encStr k] hx rfl ?_ ?_ (by unfold maxLen; omega) (by omega) hbase (fun v' w' h1 h2 _ _ => ?_)
 ·intro j u hu;rcases j with _ | j
  ·simp at hu;subst hu;exact hr
  ·simp at hu
 ·intro u hu;simp at hu;subst hu
  rfl
 ·refine h v' w' ?_ ((Below.refl _ _).grown h2 hbase fun k hk => (hown.lt k hk).1);unfold OwnS;rw [List.length_append, List.map_append];exact h1
set_option maxRecDepth 100000 in
set_option maxHeartbeats 1600000 in
theorem rlist_any (G : Nat -> Prop) (p room : Nat) (v : Value) (X : List (Str × Fil)) (w : World) (h : RShell w G p room v X) (hlen : X.length <= 256) :
  Calls Tryz.prog 49 #[.pointer (some ⟨p, 0, none⟩)] w fun e w' => ∃ v, e = .returned v /\ OwnS w' w.heap.size v (X.map (·.1)) /\ Below w.heap.size w w' := by
 obtain ⟨A, c, rfl, hlc, hc63, _, hcell⟩ := h.form;have c1 : w.cell? ⟨p, 1, none⟩ = some (.slice A X.length c) := h.cells.cell 1;have hpl := h.low p h.own;obtain ⟨N, hN⟩ : ∃ N, N = X.length := ⟨_, rfl⟩;rw [<- hN] at c1 hlc hlen;have HN := hide hN;have HC := hide hcell;clear h hcell hN;go_enter Tryz.func49, Tryz.ntmps49;go_wp2_with fail
 go_loopw [3, 4] (fun u i wr => ∃ j : Nat, j <= N /\ i = .int .i64 (j : Int) /\ Hid (OwnS wr w.heap.size u ((X.take j).map (·.1))) /\ Hid (Below w.heap.size w wr)) (fun _ i _ => N - (intOf i).toNat)
 case atStart => exact ⟨0, Nat.zero_le _, rfl, World.ownsRow_nil _ _ _ _, Below.refl _ _⟩
 case round =>
  obtain ⟨j, hj, rfl, ho, hb⟩ := hrel;have c1' := (hb.out.cell (p := ⟨p, 1, none⟩) hpl).trans c1;by_cases hlt : j < N
  ·have hjX : j < X.length := by rw [<- HN.out]; exact hlt
   obtain ⟨g, rfl, _, hgl, q0, _, _, _⟩ := HC.out j hjX;have q0' := (hb.out.cell (p := ⟨g, j * 3, none⟩) hgl).trans q0;obtain ⟨k, hk⟩ : ∃ k, k = X[j].1 := ⟨_, rfl⟩;rw [<- hk] at q0';have HK : Hid ((X.take (j + 1)).map (·.1) = (X.take j).map (·.1) ++ [k]) := by
    unfold Hid;rw [List.take_succ_eq_append_getElem hjX, List.map_append, hk]
    rfl
   clear q0 hk;go_wp2_with (at_builtin; refine halt ?_)
   refine ⟨?_⟩;have nb := below_alloc wr (.cells #[encStr k] 9);have ks := hb.out.size;refine wpList_append_name rfl (.tmp 14) (.tmp 23) rfl w.heap.size _ _ rfl (ho.out.turn (S := fun _ => False) (Turn.of_below _ nb) (fun _ _ => id)) wr.heap.size k rfl (by rw [cell_of_row _ _ _ _ _ (0, 0) (heap_alloc_new wr _)]; rfl) (by rw [List.length_map, List.length_take]; omega) (by have := nb.size; omega) ?_;intro v2 w2 o2 k2;have O2 : Hid (OwnS w2 w.heap.size v2 ((X.take (j + 1)).map (·.1))) := by rw [HK.out]; exact o2
   have K2 : Hid (Below w.heap.size w w2) := (below_step hb.out nb).trans k2;clear nb o2 k2;go_wp2_with fail
   go_roundw
   case rel => exact ⟨j + 1, by omega, by go_num, O2, K2⟩
   case measure => simp [intOf]; omega
  ·obtain rfl : j = N := by omega
   go_wp2_with fail
   go_ret;refine ⟨_, rfl, ?_, hb.out⟩;have := ho.out;rw [HN.out, List.take_length] at this;exact this
end Go.Proofs.YtbmhfnhfhdgdgaaGreat
