/- The contracts of the net's clone and of the document's Clone. Condition: lists of fewer than 2 to the 40. -/
import Derived.Test.YtdhamhaadclhkaaMsgRow
import Derived.Test.YtdhamhaadclhkaaMsgAt
namespace Go.Proofs.Ytdhamhaadclhkaa
open Go.RowKit
/-- A message of the call's own, as a value. -/
def Fresh (w : World) (B : Nat) (r : Value) (f t k : Int) (zs : List Int) (d : List Nat) : Prop :=
  ∃ A c D cp, r = .agg #[.int .i64 f, .int .i64 t, .int .i64 k, .slice A zs.length c, .slice D d.length cp] ∧ OwnN w B (.slice A zs.length c) zs ∧ Own w B (.slice D d.length cp) d
theorem two_blks (w : World) (B : Nat) (C C' : Array Value) (hB : B ≤ w.heap.size) : Blk ((w.alloc (.cells C 45)).alloc (.cells C' 45)) B 45 w.heap.size C.toList ∧ Blk ((w.alloc (.cells C 45)).alloc (.cells C' 45)) B 45 (w.heap.size + 1) C'.toList ∧ Below w.heap.size w ((w.alloc (.cells C 45)).alloc (.cells C' 45)) := by
  have k1 : Below w.heap.size w (w.alloc (.cells C 45)) := (Below.refl _ _).alloc (Nat.le_refl _) _
  have k2 : Below (w.alloc (.cells C 45)).heap.size (w.alloc (.cells C 45)) ((w.alloc (.cells C 45)).alloc (.cells C' 45)) := (Below.refl _ _).alloc (Nat.le_refl _) _
  have es : (w.alloc (.cells C 45)).heap.size = w.heap.size + 1 := by simp
  have b3 := Blk.new (B := B) (w.alloc (.cells C 45)) 45 C' (Nat.le_trans hB k1.size)
  rw [es] at b3
  exact ⟨(Blk.new w _ C hB).keep k2, b3, below_step k1 k2⟩
set_option maxHeartbeats 1600000 in
theorem clone5_any (f t k : Int) (A D : Option Addr) (n c m cp : Nat) (zs : List Int) (d : List Nat) (w : World) (hN : IsI w (.slice A n c) zs) (hA : A = none → c = 0) (hD : IsB w (.slice D m cp) d) (hd : d.length = m) (hn : n ≤ 1099511627776) (hm : m ≤ 1099511627776) :
    Calls Try.prog 64 #[.agg #[.int .i64 f, .int .i64 t, .int .i64 k, .slice A n c, .slice D m cp]] w fun e w' => ∃ r, e = .returned r ∧ Fresh w' w.heap.size r f t k zs d ∧ Below w.heap.size w w' := by
  obtain ⟨b1, b2, k2⟩ := two_blks w w.heap.size #[.int .i64 f, .int .i64 t, .int .i64 k, .slice A n c, .slice D m cp] #[.int .i64 0, .int .i64 0, .int .i64 0, .slice none 0 0, .slice none 0 0] (Nat.le_refl _)
  obtain ⟨w2, hw2⟩ : ∃ w2, w2 = ((w.alloc (.cells #[.int .i64 f, .int .i64 t, .int .i64 k, .slice A n c, .slice D m cp] 45)).alloc (.cells #[.int .i64 0, .int .i64 0, .int .i64 0, .slice none 0 0, .slice none 0 0] 45)) := ⟨_, rfl⟩
  rw [← hw2] at b1 b2 k2
  obtain ⟨g1, hg1⟩ : ∃ g1, g1 = w.heap.size := ⟨_, rfl⟩
  obtain ⟨g2, hg2⟩ : ∃ g2, g2 = w.heap.size + 1 := ⟨_, rfl⟩
  have hne : ¬ g1 = g2 := by omega
  have hne2 : ¬ g2 = g1 := by omega
  rw [← hg2] at b2
  rw [← hg1] at b1
  have HN := hide (hN.keep k2)
  have HD := hide hD
  have HL := hide hN.len
  have HM := hide hd
  have HA := hide hA
  have c13 : w2.cell? ⟨g1, 3, none⟩ = some (.slice A n c) := b1.cell 3
  have B1 := hide b1
  have B2 := hide b2
  have K2 := hide k2
  have HG1 := hide hg1
  have HG2 := hide hg2
  have HW := hide hw2
  clear hN hD hd hA b1 b2 k2 hw2 hg1 hg2
  go_enter Try.func64, Try.ntmps64
  go_wp2_with fail
  rw [← HW.out, ← HG2.out, ← HG1.out]
  refine (cloneI_any A n c zs w2 HN.out HA.out hn).mono ?_
  rintro e w3 ⟨s3, rfl, o3, k3⟩
  have hg3 : w.heap.size ≤ w2.heap.size := K2.out.size
  obtain ⟨A3, c3, rfl, _⟩ := o3.isI
  have L3 := HL.out
  rw [L3] at o3
  have O3 := hide o3
  have HG3 := hide hg3
  have b1 := B1.out.keep k3
  have b2 := B2.out.keep k3
  have q3 : w3.cell? ⟨g1, 3, none⟩ = some (.slice A n c) := b1.cell 3
  have f3 := b1.frozen 3
  have b4 := b1.stored 3 (.slice A3 n c3)
  have b5 := b2.kept (grown_set w3 g1 3 (.slice A3 n c3)) (by simpa using hne)
  have q4 : w3.cell? ⟨g1, 4, none⟩ = some (.slice D m cp) := b1.cell 4
  have hl1 : g1 < w3.heap.size := b1.lt
  have HK3 := hide k3
  have HKS := hide ((K2.out.trans (k3.mono K2.out.size)).setCell (show w.heap.size ≤ (⟨g1, 3, none⟩ : Addr).block from Nat.le_of_eq HG1.out.symm) (.slice A3 n c3))
  rw [L3]
  have B4 := hide b4
  have B5 := hide b5
  clear o3 k3 b1 b2 b4 b5 c13
  go_wp2_with fail
  refine (clone_any D m cp d _ (HD.out.keep HKS.out) HM.out hm).mono ?_
  rintro e w6 ⟨s6, rfl, o6, k6⟩
  have b7 := B4.out.keep k6
  have b8 := B5.out.keep k6
  obtain ⟨D6, c6, rfl, _⟩ := o6.isB.form HM.out
  have q7 : w6.cell? ⟨g1, 4, none⟩ = some (.slice D m cp) := b7.cell 4
  have f7 := b7.frozen 4
  have r0 : w6.cell? ⟨g1, 0, none⟩ = some (.int .i64 f) := b7.cell 0
  have r1 : w6.cell? ⟨g1, 1, none⟩ = some (.int .i64 t) := b7.cell 1
  have r2 : w6.cell? ⟨g1, 2, none⟩ = some (.int .i64 k) := b7.cell 2
  have r3 : w6.cell? ⟨g1, 3, none⟩ = some (.slice A3 n c3) := b7.cell 3
  have z0 : w6.cell? ⟨g2, 0, none⟩ = some (.int .i64 0) := b8.cell 0
  have z1 : w6.cell? ⟨g2, 1, none⟩ = some (.int .i64 0) := b8.cell 1
  have z2 : w6.cell? ⟨g2, 2, none⟩ = some (.int .i64 0) := b8.cell 2
  have z3 : w6.cell? ⟨g2, 3, none⟩ = some (.slice none 0 0) := b8.cell 3
  have z4 : w6.cell? ⟨g2, 4, none⟩ = some (.slice none 0 0) := b8.cell 4
  have y0 := b8.frozen 0
  have y1 := b8.frozen 1
  have y2 := b8.frozen 2
  have y3 := b8.frozen 3
  have y4 := b8.frozen 4
  have B7 := hide b7
  have B8 := hide b8
  have O6 := hide o6
  have K6 := hide k6
  clear o6 k6 b7 b8 q3 f3 q4
  go_wp2_with fail
  obtain ⟨W8, hW8⟩ : ∃ W8, W8 = setMsg (w6.setCell ⟨g1, 4, none⟩ (.slice D6 m c6)) g2 f t k (.slice A3 n c3) (.slice D6 m c6) := ⟨_, rfl⟩
  have m7 := B7.out.stored 4 (.slice D6 m c6)
  have gr7 := grown_set w6 g1 4 (.slice D6 m c6)
  have m8 := B8.out.kept gr7 (by simpa using hne)
  have b9 := setMsg_blk m8 rfl f t k (.slice A3 n c3) (.slice D6 m c6)
  have gr9 := setMsg_grown (w6.setCell ⟨g1, 4, none⟩ (.slice D6 m c6)) g2 f t k (.slice A3 n c3) (.slice D6 m c6)
  rw [← hW8] at b9 gr9
  have t7 : Turn (fun k => k = g1 ∨ k = g2) w6 W8 := ((Turn.of_grown gr7).mono (fun k e => .inl (by simpa using e))).trans ((Turn.of_grown gr9).mono (fun k e => .inr (by simpa using e)))
  have t3 : Turn (fun k => k = g1 ∨ k = g2) w3 W8 := (((Turn.of_grown (grown_set w3 g1 3 (.slice A3 n c3))).mono (fun k e => .inl (by simpa using e))).trans (Turn.of_below _ K6.out)).trans t7
  have hs1 := HG1.out
  have hs2 := HG2.out
  have hs3 : w.heap.size + 1 < w2.heap.size := by rw [← hs2]; exact B2.out.lt
  have hs6 : w.heap.size + 1 < (w3.setCell ⟨g1, 3, none⟩ (.slice A3 n c3)).heap.size := by rw [← hs2]; exact B5.out.lt
  have o9 := ownsRow_turn O3.out t3 (fun b hb e => by have := (O3.out.lt b hb).1; omega)
  have p9 := ownsRow_turn O6.out t7 (fun b hb e => by have := (O6.out.lt b hb).1; omega)
  have k9 : Below w.heap.size w W8 := (HKS.out.trans (K6.out.mono HKS.out.size)).trans (t7.below (below_step HKS.out K6.out).size (fun k e => by omega))
  unfold setMsg at hW8
  rw [← hW8]
  obtain ⟨q0, q1, q2, q3, q4⟩ := b9.msgAt
  have LN := HL.out
  have LM := HM.out
  refine bodyPost_ret (v := .agg #[.int .i64 f, .int .i64 t, .int .i64 k, .slice A3 n c3, .slice D6 m c6]) (by simp [results, Try.results64, go_sem, q0, q1, q2, q3, q4]) rfl ⟨_, rfl, ⟨A3, c3, D6, c6, by rw [LN, LM], ?_, ?_⟩, k9⟩
  · rw [LN]; exact ownsRow_more o9 HG3.out
  · rw [LM]; exact ownsRow_more p9 HKS.out.size
end Go.Proofs.Ytdhamhaadclhkaa
