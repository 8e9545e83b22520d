/- The document's Remove. No condition but the widths. -/
import Derived.Test.YtndffjgneapmdaaRIns
namespace Go.Proofs.Ytndffjgneapmdaa
open Go.RowKit Go.Maps
set_option maxRecDepth 100000 in
set_option maxHeartbeats 1600000 in
theorem rremove_some (G : Nat → Prop) (p room : Nat) (v : Value) (X : List (Str × Fil)) (s : ByteArray) (a : Fil) (w : World) (h : RShell w G p room v X) (hlen : X.length ≤ 256) (hr : Rise X) (hg : getK s.data.toList X = some a) :
    Calls Try.prog 33 #[.pointer (some ⟨p, 0, none⟩), .string s] w fun e w' => e = .returned (.int .i64 0) ∧ ∃ G' v', RShell w' G' p room v' (delK s.data.toList X) ∧ Next G w G' w' ∧ U8 w w' := by
  obtain ⟨A0, c0, rfl, hlc, hc63, hn0, hcell⟩ := h.form
  obtain ⟨hjl, _⟩ := posK_get hr hg
  obtain ⟨g, rfl, _⟩ := hcell _ hjl
  have c1 : w.cell? ⟨p, 1, none⟩ = some (.slice (some ⟨g, 0, none⟩) X.length c0) := h.cells.cell 1
  have hpl := h.low p h.own
  have f1 := h.cells.frozen 1
  have HS := hide (spot_any G p room _ X s w h hr)
  have HD := hide (del_at hr hg)
  obtain ⟨N, hN⟩ : ∃ N, N = X.length := ⟨_, rfl⟩
  obtain ⟨j, hj⟩ : ∃ j, j = posK s.data.toList X := ⟨_, rfl⟩
  have HX := hide h
  have HE := hide (fun q hq => (h.each q hq).1 : ∀ q ∈ X, Own w 0 q.2.1 q.2.2.1)
  have HR := hide h.row
  rw [← hj, hg] at HS
  rw [← hj] at HD hjl
  rw [← hN] at c1 hlc hlen hjl
  have HN := hide hN
  clear h hcell hN hn0 hj hg hr
  go_enter Try.func33, Try.ntmps33
  go_wp2_with fail
  refine HS.out.mono ?_
  rintro e w1 ⟨rfl, dd, hd⟩
  have k1 : Below w.heap.size w w1 := by rw [hd]; exact below_drewN (Below.refl _ _) dd
  have hz1 : w1.heap.size = w.heap.size := by rw [hd]; rfl
  have c1' : w1.cell? ⟨p, 1, none⟩ = some (.slice (some ⟨g, 0, none⟩) N c0) := by rw [hd]; exact c1
  have f1' : w1.frozen? ⟨p, 1, none⟩ = false := by rw [hd]; exact f1
  have hpl1 : p < w1.heap.size := by omega
  have HZ1 := hide hz1
  clear hd c1 f1 hz1
  have r1 := HR.out.turn (S := fun _ => False) (Turn.of_below _ k1) (fun _ _ => id)
  have e1 : ∀ q ∈ X, Own w1 0 q.2.1 q.2.2.1 := fun q hq => (HE.out q hq).turn (S := fun _ => False) (Turn.of_below _ k1) (fun _ _ => id)
  have T1 := hide (r1.take e1 j (by rw [← HN.out]; omega))
  have D1 := hide (r1.drop e1 (j + 1) (by rw [← HN.out]; omega) _ (.inr ⟨g, rfl, rfl⟩))
  rw [← HN.out] at D1
  have K1 := hide k1
  clear k1 r1 e1
  have lt1 : (X.take j).length ≤ 256 := by rw [List.length_take]; omega
  have lt2 : (X.take j).length + (X.drop (j + 1)).length ≤ 1073741824 := by rw [List.length_take, List.length_drop, ← HN.out]; omega
  have fin : ∀ v5 w5, OwnF w5 w1.heap.size v5 (X.take j ++ X.drop (j + 1)) → Below w1.heap.size w1 w5 → ∃ G' v', RShell (w5.setCell ⟨p, 1, none⟩ v5) G' p room v' (delK s.data.toList X) ∧ Next G w G' (w5.setCell ⟨p, 1, none⟩ v5) ∧ U8 w (w5.setCell ⟨p, 1, none⟩ v5) := by
    intro v5 w5 o5 k5
    rw [← HD.out] at o5
    have n5 := below_step K1.out k5
    refine ⟨fun k => G k ∨ (w.heap.size ≤ k ∧ k < w5.heap.size), v5, ?_, ?_, (U8.of_below n5).trans (u8_set (HX.out.below n5).cells (by decide))⟩
    · refine ((HX.out.below n5).more (fun k hk => .inl hk) (fun k hk => ?_)).newrow (o5.down (Nat.zero_le _)) (fun g hg => .inr ?_) (fun q hq => ?_)
      · rcases hk with hk | hk
        · exact (HX.out.below n5).low k hk
        · exact hk.2
      · have := o5.lt g hg
        have hz := HZ1.out
        exact ⟨by omega, this.2⟩
      · have := (HX.out.below n5).each q (mem_delK.1 hq).1
        exact ⟨this.1, fun g hg => .inl (this.2.1 g hg), this.2.2⟩
    · refine ⟨(Turn.of_below _ n5).then (S' := fun k => some k = some p) (Turn.of_grown (grown_set w5 p 1 v5)) (fun k hk => .inl ?_), fun k hk => ?_⟩
      · have hk : k = p := by simpa using hk
        rw [hk]
        exact HX.out.own
      · rcases hk with hk | hk
        · exact .inl hk
        · exact .inr hk.1
  have FIN := hide fin
  clear fin
  have hd : c0 = j + 1 ∨ ¬ c0 = j + 1 := by omega
  rcases hd with rfl | hd
  · rw [if_pos rfl, Nat.sub_self, show N - (j + 1) = 0 by omega] at D1
    have hq : IntKind.i64.wrap ((j : Int) + 1) = ((j + 1 : Nat) : Int) := by rw [IntKind.wrap_i64]; omega
    have hjc : j ≤ j + 1 := by omega
    have hj2 : (j : Int) ≤ (j : Int) + 1 := by omega
    have hj0 : 0 ≤ (j : Int) + 1 := by omega
    have hjN : (j : Int) + 1 ≤ (N : Int) := by omega
    have KA := below_alloc w1 (.cells #[] 57)
    go_wp2_with fail
    go_region_law (first
      | (refine step_append_files rfl (.tmp 16) (.tmp 22) rfl w1.heap.size _ [] rfl (own_emptyF (W := w1) (Nat.le_refl _) _ rfl) _ (X.take j) rfl (T1.out.below ⟨KA.os, KA.tape, KA.output, KA.size, KA.block⟩) (by rw [List.length_nil]; omega) KA.size ?_; intro v3 w3 o3 k3; rw [List.nil_append] at o3; have K3 : Below w1.heap.size w1 w3 := (by refine Below.trans ?_ k3; exact ⟨KA.os, KA.tape, KA.output, KA.size, KA.block⟩); have c3 : w3.cell? ⟨p, 1, none⟩ = some (.slice (some ⟨g, 0, none⟩) N (j + 1)) := (by rw [← c1']; exact K3.cell hpl1); have f3 : w3.frozen? ⟨p, 1, none⟩ = false := (by rw [← f1']; exact K3.frozen hpl1))
      | (refine step_append_files rfl (.tmp 23) (.tmp 30) rfl w1.heap.size _ (X.take j) rfl o3 _ (X.drop (j + 1)) rfl (D1.out.below ⟨K3.os, K3.tape, K3.output, K3.size, K3.block⟩) lt2 K3.size ?_; intro v4 w4 o4 k4; have K4 : Below w1.heap.size w1 w4 := (by refine Below.trans ?_ k4; exact ⟨K3.os, K3.tape, K3.output, K3.size, K3.block⟩); have HF4 := hide (FIN.out v4 w4 o4 K4); obtain ⟨A4, n4, c4, rfl⟩ := o4.shape; have c4' : w4.cell? ⟨p, 1, none⟩ = some (.slice (some ⟨g, 0, none⟩) N (j + 1)) := (by rw [← c1']; exact K4.cell hpl1); have f4 : w4.frozen? ⟨p, 1, none⟩ = false := (by rw [← f1']; exact K4.frozen hpl1); clear K4 o4 k4))
    all_goals
      go_wp2_with fail
      go_ret
      exact ⟨rfl, HF4.out⟩
  · rw [if_neg hd] at D1
    have hq : IntKind.i64.wrap ((j : Int) + 1) = ((j + 1 : Nat) : Int) := by rw [IntKind.wrap_i64]; omega
    have hjc : j ≤ c0 := by omega
    have hj0 : 0 ≤ (j : Int) + 1 := by omega
    have hjN : (j : Int) + 1 ≤ (N : Int) := by omega
    have hjc1 : j + 1 ≤ c0 := by omega
    have KA := below_alloc w1 (.cells #[] 57)
    go_wp2_with fail
    go_region_law (first
      | (refine step_append_files rfl (.tmp 16) (.tmp 22) rfl w1.heap.size _ [] rfl (own_emptyF (W := w1) (Nat.le_refl _) _ rfl) _ (X.take j) rfl (T1.out.below ⟨KA.os, KA.tape, KA.output, KA.size, KA.block⟩) (by rw [List.length_nil]; omega) KA.size ?_; intro v3 w3 o3 k3; rw [List.nil_append] at o3; have K3 : Below w1.heap.size w1 w3 := (by refine Below.trans ?_ k3; exact ⟨KA.os, KA.tape, KA.output, KA.size, KA.block⟩); have c3 : w3.cell? ⟨p, 1, none⟩ = some (.slice (some ⟨g, 0, none⟩) N c0) := (by rw [← c1']; exact K3.cell hpl1); have f3 : w3.frozen? ⟨p, 1, none⟩ = false := (by rw [← f1']; exact K3.frozen hpl1))
      | (refine step_append_files rfl (.tmp 23) (.tmp 30) rfl w1.heap.size _ (X.take j) rfl o3 _ (X.drop (j + 1)) rfl (D1.out.below ⟨K3.os, K3.tape, K3.output, K3.size, K3.block⟩) lt2 K3.size ?_; intro v4 w4 o4 k4; have K4 : Below w1.heap.size w1 w4 := (by refine Below.trans ?_ k4; exact ⟨K3.os, K3.tape, K3.output, K3.size, K3.block⟩); have HF4 := hide (FIN.out v4 w4 o4 K4); obtain ⟨A4, n4, c4, rfl⟩ := o4.shape; have c4' : w4.cell? ⟨p, 1, none⟩ = some (.slice (some ⟨g, 0, none⟩) N c0) := (by rw [← c1']; exact K4.cell hpl1); have f4 : w4.frozen? ⟨p, 1, none⟩ = false := (by rw [← f1']; exact K4.frozen hpl1); clear K4 o4 k4))
    all_goals
      go_wp2_with fail
      go_ret
      exact ⟨rfl, HF4.out⟩
end Go.Proofs.Ytndffjgneapmdaa
