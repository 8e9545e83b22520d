/- The program's shorten. Condition: numbers and lengths below 2 to the 40. The program's Sync beside the document's, as lists: both leave the same disk. It names nothing of the program but the disk's lists. -/
import Derived.Test.YtejhoefmcldpnaaGreatRk30
import Derived.Test.YtejhoefmcldpnaaGreatRk4
import Derived.Test.YtejhoefmcldpnaaGreatRk28
namespace Go.Proofs.YtejhoefmcldpnaaGreat
open Go.RowKit Go.Maps
set_option maxRecDepth 100000 in
theorem pshort_none (w : World) (l g k f n c i : Nat) (A : Option Addr) (h0 : w.cell? ⟨g, k * 3, none⟩ = some (.int .i64 (f : Int))) (h1 : w.cell? ⟨g, k * 3 + 1, none⟩ = some (.slice A n c)) (hf : f ≤ 1099511627776) (hn : n ≤ 1099511627776) (hi : f + n ≤ i) :
    Calls Tryz.prog 107 #[.pointer (some ⟨l, 0, none⟩), .pointer (some ⟨g, k * 3, none⟩), .int .i64 (i : Int)] w fun e w' => e = .returned (.int .i64 0) ∧ Below w.heap.size w w' := by
  obtain ⟨t, ht⟩ : ∃ t, t = f + n := ⟨_, rfl⟩
  have HN := hide (pnext_any w g (k * 3) f n c A h0 h1 hf hn)
  rw [← ht] at HN
  have hz : (t : Int) ≤ (i : Int) := by omega
  clear ht hi
  go_enter Tryz.func107, Tryz.ntmps107
  go_wp2_with fail
  refine HN.out.mono ?_
  rintro e w1 ⟨rfl, d, rfl⟩
  go_wp2_with fail
  go_ret
  exact ⟨rfl, below_drewN (Below.refl _ _) d⟩
set_option maxRecDepth 100000 in
set_option maxHeartbeats 6400000 in
theorem pshort_any (w : World) (F G : Nat → Prop) (dp l room : Nat) (s : ByteArray) (g N c nx k f i : Nat) (Y Z : List Sgp) (vE : Value) (b : Bool) (es : List (List Nat)) (L : DiskL)
    (hB : Blk w 0 122 l [.pointer (some ⟨dp, 0, none⟩), .string s, .slice (some ⟨g, 0, none⟩) N c, .int .i64 (nx : Int)]) (hR : PRow w G (.slice (some ⟨g, 0, none⟩) N c) (Y ++ (f, vE, b, es) :: Z)) (hk : Y.length = k)
    (hD : DiskAt w F dp room L) (hap : ∀ q, F q → ¬ G q) (hGl : G l) (hlow : ∀ q, G q → q < w.heap.size) (hs : s.size ≤ 64) (hf : f ≤ 1099511627776) (hf1 : f < i) (hi : i < f + es.length) (hle : es.length ≤ 1073741824) (hrl : (recsL f es).length ≤ 1099511627776)
    (hcut : (cutL (nameL s.data.toList f) ((recsL f (es.take (i - f))).length : Int) L).2 = 0) :
    Calls Tryz.prog 107 #[.pointer (some ⟨l, 0, none⟩), .pointer (some ⟨g, k * 3, none⟩), .int .i64 (i : Int)] w fun e w' => e = .returned (.int .i64 0) ∧ ∃ F' v', DiskAt w' F' dp room (cutL (nameL s.data.toList f) ((recsL f (es.take (i - f))).length : Int) L).1 ∧
      PRow w' G (.slice (some ⟨g, 0, none⟩) N c) (Y ++ (f, v', b, es.take (i - f)) :: Z) ∧ Blk w' 0 122 l [.pointer (some ⟨dp, 0, none⟩), .string s, .slice (some ⟨g, 0, none⟩) N c, .int .i64 (nx : Int)] ∧
      Turn (fun q => F q ∨ G q) w w' ∧ (∀ q, F' q → F q ∨ w.heap.size ≤ q) ∧ ∀ q, F' q → ¬ G q := by
  obtain ⟨m, hm⟩ : ∃ m, m = i - f := ⟨_, rfl⟩
  rw [← hm] at hcut ⊢
  have hm1 : 1 ≤ m := by omega
  have hme : m < es.length := by omega
  have hE := hR.each (f, vE, b, es) (by simp)
  dsimp only at hE
  obtain ⟨AE, cE, eE, hEl, hEm, -, hEc⟩ := hE.form
  obtain ⟨gE, u, eE2, hgE, -, y1, -⟩ := hEc (m - 1) (by omega)
  subst eE2
  subst eE
  rw [show m - 1 + 1 = m by omega] at y1
  obtain ⟨zz, hzz⟩ : ∃ z, z = (recsL f (es.take m)).length := ⟨_, rfl⟩
  rw [← hzz] at y1 hcut ⊢
  have hzl : zz ≤ 1099511627776 := by
    have h1 := recs_mono f es (show m ≤ es.length by omega)
    rw [List.take_length] at h1
    omega
  obtain ⟨m1, hm9⟩ : ∃ q, q = m - 1 := ⟨_, rfl⟩
  rw [← hm9] at y1
  have hms : (m : Int) - 1 = (m1 : Int) := by omega
  obtain ⟨ne, hne⟩ : ∃ n, n = es.length := ⟨_, rfl⟩
  have hr0 : w.cell? ⟨g, k * 3, none⟩ = some (.int .i64 (f : Int)) ∧ w.cell? ⟨g, k * 3 + 1, none⟩ = some (.slice (some ⟨gE, 0, none⟩) ne cE) ∧ g < w.heap.size ∧ (∀ j, w.frozen? ⟨g, j, none⟩ = false) := by
    obtain ⟨A9, c9, e9, _, _, _, h9⟩ := rowP_form hR.row
    obtain ⟨g9, e10, _, hg9, q0, q1, _, q3⟩ := h9 k (by rw [← hk]; simp)
    subst e10
    cases e9
    have hx : (Y ++ (f, Value.slice (some ⟨gE, 0, none⟩) es.length cE, b, es) :: Z)[k]'(by rw [← hk]; simp) = (f, .slice (some ⟨gE, 0, none⟩) es.length cE, b, es) := by
      subst hk
      rw [List.getElem_append_right (Nat.le_refl _)]
      simp
    rw [hx] at q0 q1
    rw [hne]
    exact ⟨q0, q1, hg9, q3⟩
  obtain ⟨q0, q1, hgl, qf⟩ := hr0
  have hmn : (m1 : Int) < (ne : Int) := by omega
  have hmn2 : m1 < ne := by omega
  obtain ⟨t, ht⟩ : ∃ t, t = f + ne := ⟨_, rfl⟩
  have HN := hide (pnext_any w g (k * 3) f ne cE (some ⟨gE, 0, none⟩) q0 q1 hf (by omega))
  rw [← ht] at HN
  have hz : (i : Int) < (t : Int) := by omega
  have hif : (i : Int) - (f : Int) = (m : Int) := by omega
  have hm0 : (m : Int) ≤ 1099511627776 := by omega
  have hmw1 : IntKind.i64.wrap (m1 : Int) = (m1 : Int) := by rw [IntKind.wrap_i64]; omega
  have hmw2 : IntKind.i64.wrap (m : Int) = (m : Int) := by rw [IntKind.wrap_i64]; omega
  have hm10 : (0 : Int) ≤ (m1 : Int) := by omega
  have c0 : w.cell? ⟨l, 0, none⟩ = some (.pointer (some ⟨dp, 0, none⟩)) := hB.cell 0
  have c1 : w.cell? ⟨l, 1, none⟩ = some (.string s) := hB.cell 1
  have hll := cell_lt c0
  have hs64 : s.size ≤ 1099511627776 := by omega
  have hnl : Hid (¬ F l) := hide (fun h => hap l h hGl)
  have hng : Hid (¬ F g) := hide (fun h => hap g h (hR.mine g rfl))
  have hngE : Hid (¬ F gE) := hide (fun h => hap gE h (hE.own gE rfl))
  have HRR := hide hR
  have HB := hide hB
  have HD := hide hD
  have HAP := hide hap
  have HLOW := hide hlow
  have HC := hide hcut
  have HZZ := hide hzz
  have HNE := hide hne
  have HME := hide hme
  have HK := hide hk
  have QF := hide qf
  have HM := hide hm
  clear hE hEc hR hB hD hap hlow hcut hzz hne hk qf ht hm hi hrl hme hm9 hle
  go_enter Tryz.func107, Tryz.ntmps107
  go_wp2_with fail
  refine HN.out.mono ?_
  rintro e w1 ⟨rfl, d1, rfl⟩
  obtain ⟨w1, hw1⟩ : ∃ z, z = w.drewN d1 := ⟨_, rfl⟩
  have kd : Below w.heap.size w w1 := by rw [hw1]; exact below_drewN (Below.refl _ _) d1
  rw [← hw1]
  have r0 := (kd.cell (p := ⟨l, 0, none⟩) hll).trans c0
  have r1 := (kd.cell (p := ⟨l, 1, none⟩) hll).trans c1
  have p0 := (kd.cell (p := ⟨g, k * 3, none⟩) hgl).trans q0
  have p1 := (kd.cell (p := ⟨g, k * 3 + 1, none⟩) hgl).trans q1
  have pE := (kd.cell (p := ⟨gE, m1 * 2 + 1, none⟩) hgE).trans y1
  have KD := hide kd
  clear hw1 kd c0 c1 q0 q1 y1 HN
  go_wp2_with fail
  have r1d : w1.drew.cell? ⟨l, 1, none⟩ = some (.string s) := r1
  have R0 := hide r0
  have P0 := hide p0
  have P1 := hide p1
  have PE := hide pE
  have D1 := hide (HD.out.below KD.out)
  have hg1 : g < w1.heap.size := cell_lt p0
  have hgE1 : gE < w1.heap.size := cell_lt pE
  have hl1 : l < w1.heap.size := cell_lt r0
  go_region_held3 (fun W' => W'.cell? ⟨l, 0, none⟩ = some (.pointer (some ⟨dp, 0, none⟩)) ∧ W'.cell? ⟨g, k * 3, none⟩ = some (.int .i64 (f : Int)) ∧ W'.cell? ⟨g, k * 3 + 1, none⟩ = some (.slice (some ⟨gE, 0, none⟩) ne cE) ∧ W'.cell? ⟨gE, m1 * 2 + 1, none⟩ = some (.int .i64 (zz : Int))) (go_keep)
    (first
      | (go_at_call 77; refine (pname_any l s f _ r1d hs64 hf).mono ?_; rintro e w2 ⟨t, rfl, htl, kn⟩; have kn2 : Below w1.heap.size w1 w2 := (by exact ⟨kn.os, kn.tape, kn.output, kn.size, kn.block⟩); have D2 := hide (D1.out.below kn2); have K2 := hide kn2; have x0 := (kn2.cell (p := ⟨l, 0, none⟩) hl1).trans R0.out; have x1 := (kn2.cell (p := ⟨g, k * 3, none⟩) hg1).trans P0.out; have x2 := (kn2.cell (p := ⟨g, k * 3 + 1, none⟩) hg1).trans P1.out; have x3 := (kn2.cell (p := ⟨gE, m1 * 2 + 1, none⟩) hgE1).trans PE.out; have X0 := hide x0; have X1 := hide x1; have X2 := hide x2; have X3 := hide x3; have TL := hide htl; have TS : t.size ≤ 1099511627776 := (by have h1 : t.data.toList.length = t.size := rfl; have h2 := name_len s.data.toList f; have h3 : s.data.toList.length = s.size := rfl; rw [htl, h2, h3] at h1; omega); clear htl kn kn2)
      | (go_at_call 99; refine (cutD_any F dp room _ t w2 D2.out TS (zz : Int)).mono ?_; rintro e w3 ⟨rfl, F3, d3, n3⟩; rw [TL.out] at d3 ⊢; rw [HC.out]; have N3 := hide n3; have D3 := hide d3; have z0 := (n3.far (i := 0) (cell_lt X0.out) hnl.out).trans X0.out; have z1 := (n3.far (i := k * 3) (cell_lt X1.out) hng.out).trans X1.out; have z2 := (n3.far (i := k * 3 + 1) (cell_lt X2.out) hng.out).trans X2.out; have z3 := (n3.far (i := m1 * 2 + 1) (cell_lt X3.out) hngE.out).trans X3.out; clear n3 d3))
  have hTF : Hid (Turn (fun q => F q) w w3) := hide (((Turn.of_below _ KD.out).trans (Turn.of_below _ K2.out)).trans N3.out.turn)
  have hF3 : Hid (∀ q, F3 q → F q ∨ w.heap.size ≤ q) := hide (fun q hq => (N3.out.foot q hq).imp id (fun h => by have := K2.out.size; have := KD.out.size; omega))
  have R3 := hide (HRR.out.turn hTF.out (fun q hg hf => HAP.out q hf hg))
  have B3 := hide (HB.out.turn hTF.out hnl.out)
  have HAP3 : Hid (∀ q, F3 q → ¬ G q) := hide (fun q hq hg => (hF3.out q hq).elim (fun h => HAP.out q h hg) (fun h => by have := HLOW.out q hg; omega))
  have Z2 := hide z2
  have hs3 := hTF.out.size
  clear z0 z1 z3
  go_wp2_with fail
  refine Ways.start (fun W => W.cell? ⟨g, k * 3 + 1, none⟩ = some (.slice (some ⟨gE, 0, none⟩) ne cE)) 14 15 #[false, false, false, false, false, false, false, false, false, false, false, false, false, false, false] (by kernel_rfl) (by kernel_rfl) (by kernel_rfl) ?_
  have hHeld : w3.drew.cell? ⟨g, k * 3 + 1, none⟩ = some (.slice (some ⟨gE, 0, none⟩) ne cE) := z2
  refine' Ways.take (i := 0) (oi := ⟨_, _, _, _, _, _⟩) (v := _) rfl (by kernel_rfl) (by kernel_rfl) (by kernel_rfl) (by kernel_rfl) (fun _ _ _ h => h) hHeld (Or.inl ⟨rfl, ?_⟩) ?_
  rotate_left
  · (intro W hW; (try dsimp only at hW); go_simp; (try with_reducible rfl))
  try simp only [Act.put, List.setIfInBounds_toArray, List.set_cons_zero, List.set_cons_succ]
  refine' Ways.take (i := 1) (oi := ⟨_, _, _, _, _, _⟩) (v := _) rfl (by kernel_rfl) (by kernel_rfl) (by kernel_rfl) (by kernel_rfl) (fun _ _ _ h => h) hHeld (Or.inl ⟨rfl, ?_⟩) ?_
  rotate_left
  · (intro W hW; (try dsimp only at hW); go_simp; (try with_reducible rfl))
  try simp only [Act.put, List.setIfInBounds_toArray, List.set_cons_zero, List.set_cons_succ]
  refine' Ways.take (i := 2) (oi := ⟨_, _, _, _, _, _⟩) (v := _) rfl (by kernel_rfl) (by kernel_rfl) (by kernel_rfl) (by kernel_rfl) (fun _ _ _ h => h) hHeld (Or.inl ⟨rfl, ?_⟩) ?_
  rotate_left
  · (intro W hW; (try dsimp only at hW); go_simp; (try with_reducible rfl))
  try simp only [Act.put, List.setIfInBounds_toArray, List.set_cons_zero, List.set_cons_succ]
  refine' Ways.take (i := 3) (oi := ⟨_, _, _, _, _, _⟩) (v := _) rfl (by kernel_rfl) (by kernel_rfl) (by kernel_rfl) (by kernel_rfl) (fun _ _ _ h => h) hHeld (Or.inl ⟨rfl, ?_⟩) ?_
  rotate_left
  · (intro W hW; (try dsimp only at hW); go_simp; (try with_reducible rfl))
  try simp only [Act.put, List.setIfInBounds_toArray, List.set_cons_zero, List.set_cons_succ]
  refine' Ways.take (i := 4) (oi := ⟨_, _, _, _, _, _⟩) (v := _) rfl (by kernel_rfl) (by kernel_rfl) (by kernel_rfl) (by kernel_rfl) (fun _ _ _ h => h) hHeld (Or.inl ⟨rfl, ?_⟩) ?_
  rotate_left
  · (intro W hW; (try dsimp only at hW); go_simp; (try with_reducible rfl))
  try simp only [Act.put, List.setIfInBounds_toArray, List.set_cons_zero, List.set_cons_succ]
  refine' Ways.take (i := 5) (oi := ⟨_, _, _, _, _, _⟩) (v := _) rfl (by kernel_rfl) (by kernel_rfl) (by kernel_rfl) (by kernel_rfl) (fun _ _ _ h => h) hHeld (Or.inl ⟨rfl, ?_⟩) ?_
  rotate_left
  · (intro W hW; (try dsimp only at hW); go_simp; (try with_reducible rfl))
  try simp only [Act.put, List.setIfInBounds_toArray, List.set_cons_zero, List.set_cons_succ]
  refine' Ways.take (i := 6) (oi := ⟨_, _, _, _, _, _⟩) (v := _) rfl (by kernel_rfl) (by kernel_rfl) (by kernel_rfl) (by kernel_rfl) (fun _ _ _ h => h) hHeld (Or.inl ⟨rfl, ?_⟩) ?_
  rotate_left
  · (intro W hW; (try dsimp only at hW); go_simp; (try with_reducible rfl))
  try simp only [Act.put, List.setIfInBounds_toArray, List.set_cons_zero, List.set_cons_succ]
  refine' Ways.take (i := 7) (oi := ⟨_, _, _, _, _, _⟩) (v := _) rfl (by kernel_rfl) (by kernel_rfl) (by kernel_rfl) (by kernel_rfl) (fun _ _ _ h => h) hHeld (Or.inl ⟨rfl, ?_⟩) ?_
  rotate_left
  · (intro W hW; (try dsimp only at hW); go_simp; (try with_reducible rfl))
  try simp only [Act.put, List.setIfInBounds_toArray, List.set_cons_zero, List.set_cons_succ]
  refine' Ways.take (i := 8) (oi := ⟨_, _, _, _, _, _⟩) (v := _) rfl (by kernel_rfl) (by kernel_rfl) (by kernel_rfl) (by kernel_rfl) (fun _ _ _ h => h) hHeld (Or.inl ⟨rfl, ?_⟩) ?_
  rotate_left
  · (intro W hW; (try dsimp only at hW); go_simp; (try with_reducible rfl))
  try simp only [Act.put, List.setIfInBounds_toArray, List.set_cons_zero, List.set_cons_succ]
  refine' Ways.take (i := 9) (oi := ⟨_, _, _, _, _, _⟩) (v := _) rfl (by kernel_rfl) (by kernel_rfl) (by kernel_rfl) (by kernel_rfl) (fun _ _ _ h => h) hHeld (Or.inl ⟨rfl, ?_⟩) ?_
  rotate_left
  · (intro W hW; (try dsimp only at hW); go_simp; (try with_reducible rfl))
  try simp only [Act.put, List.setIfInBounds_toArray, List.set_cons_zero, List.set_cons_succ]
  refine' Ways.take (i := 10) (oi := ⟨_, _, _, _, _, _⟩) (v := _) rfl (by kernel_rfl) (by kernel_rfl) (by kernel_rfl) (by kernel_rfl) (fun _ _ _ h => h) hHeld (Or.inl ⟨rfl, ?_⟩) ?_
  rotate_left
  · (intro W hW; (try dsimp only at hW); go_simp; (try with_reducible rfl))
  try simp only [Act.put, List.setIfInBounds_toArray, List.set_cons_zero, List.set_cons_succ]
  refine Ways.one (i := 11) (by kernel_rfl) rfl (fun K hK => ?_)
  go_simp
  have E3 := R3.out.each (f, .slice (some ⟨gE, 0, none⟩) ne cE, b, es) (by rw [HNE.out]; simp)
  dsimp only at E3
  have HD9 := hide (show ∃ us, us.length = es.length ∧ w3.ownsRow 0 129 2 (.slice (some ⟨gE, 0, none⟩) ne cE) ne (cellsN us (endsL 0 f es)) ∧ (∀ v ∈ cellsN us (endsL 0 f es), v.oneCell' = true) from by
    obtain ⟨us, h1, h2, h3, h4⟩ := E3
    exact ⟨us, h1, by rw [HNE.out] at h2 ⊢; exact h2, cellsN_ones _ _ (fun i hi => (h4 i hi).one)⟩)
  obtain ⟨us, hu1, hu2, hu3⟩ := HD9.out
  go_at_call 126
  refine (del_ents gE ne cE m ne m _ w3.drew hu2 hu3 (by have := HME.out; have := HNE.out; omega) (Nat.le_refl _) (by omega) (by have := HNE.out; omega) hEm).mono ?_
  rintro e w4 ⟨rfl, o4, g4⟩
  have o4 : w4.ownsRow 0 129 2 (.slice (some ⟨gE, 0, none⟩) m cE) m ((cellsN us (endsL 0 f es)).take (m * 2)) := by
    rw [List.drop_of_length_le (by have := hu2.1; omega), List.append_nil] at o4
    exact o4
  have g4 : w3.grownBy w4 (some gE) := ⟨g4.os, g4.tape, g4.output, g4.size, g4.block⟩
  have t4 := Turn.of_grown g4
  have hgEg : ¬ some g = some gE := fun e => by
    obtain ⟨cur, h1⟩ := row_typed R3.out.row (g := g) rfl
    obtain ⟨cur2, h2⟩ := row_typed hu2 (g := gE) rfl
    rw [Option.some.inj e, h2] at h1
    simp only [Option.some.injEq, Obj.cells.injEq] at h1
    exact absurd h1.2.1 (by decide)
  have k2 := turn_cell t4 Z2.out hgEg
  have hseg : SegE G w4 (.slice (some ⟨gE, 0, none⟩) m cE) f (es.take m) := by
    obtain ⟨us2, j1, j2, j3, j4⟩ := E3
    have hl : (es.take m).length = m := by rw [List.length_take]; have := HME.out; omega
    have huu : cellsN us2 (endsL 0 f es) = cellsN us (endsL 0 f es) := by
      rcases j2.2 with ⟨e, _⟩ | ⟨ga, ca, cur, e, _, hh, _, _, _, h6⟩
      · cases e
      · rcases hu2.2 with ⟨e2, _⟩ | ⟨gb, cb, cur2, e2, _, hh2, _, _, _, h62⟩
        · cases e2
        · cases e
          cases e2
          rw [hh] at hh2
          cases hh2
          rw [← h6, ← h62, HNE.out]
    exact SegE.front (n := ne) (es := es) m ⟨us2, j1, j2, j3, j4⟩ (by have := HME.out; omega) (fun us3 j5 j6 => by
      have h9 : cellsN us3 (endsL 0 f es) = cellsN us (endsL 0 f es) := by
        rcases j6.2 with ⟨e, _⟩ | ⟨ga, ca, cur, e, _, hh, _, _, _, h6⟩
        · cases e
        · rcases hu2.2 with ⟨e2, _⟩ | ⟨gb, cb, cur2, e2, _, hh2, _, _, _, h62⟩
          · cases e2
          · cases e
            cases e2
            rw [hh] at hh2
            cases hh2
            rw [← h6, ← h62, HNE.out]
      rw [h9]
      exact o4) g4
  refine hK.out _ _ k2 ?_
  try simp only [List.setIfInBounds_toArray, List.set_cons_zero, List.set_cons_succ]
  refine Ways.one (i := 12) (by kernel_rfl) rfl (fun K3 hK3 => ?_)
  go_simp
  refine hK3.out _ _ k2 ?_
  try simp only [List.setIfInBounds_toArray, List.set_cons_zero, List.set_cons_succ]
  refine' Ways.take (i := 13) (oi := ⟨_, _, _, _, _, _⟩) (v := _) rfl (by kernel_rfl) (by kernel_rfl) (by kernel_rfl) (by kernel_rfl) (fun _ _ _ h => h) k2 (Or.inl ⟨rfl, ?_⟩) ?_
  rotate_left
  · (intro W hW; (try dsimp only at hW); go_simp; (try with_reducible rfl))
  try simp only [Act.put, List.setIfInBounds_toArray, List.set_cons_zero, List.set_cons_succ]
  refine Ways.last (by kernel_rfl) rfl (by kernel_rfl) (fun K2 hK2 => ?_)
  have kf : w4.frozen? ⟨g, k * 3 + 1, none⟩ = false := by
    obtain ⟨A9, c9, e9, _, _, _, h9⟩ := rowP_form (ownsRow_turn R3.out.row t4 (fun q hq e => hgEg ((show some g = some q from hq).trans e)))
    obtain ⟨g9, e10, _, _, _, _, _, q3⟩ := h9 k (by rw [← HK.out]; simp)
    cases e9
    cases e10
    exact q3 _
  go_simp
  refine hK2.out _ _ ?_
  have R5 := R3.out.setE (vE := .slice (some ⟨gE, 0, none⟩) es.length cE) (G' := G) (v' := .slice (some ⟨gE, 0, none⟩) m cE) (es' := es.take m) t4 hseg (fun _ _ h => h) (fun q hq => .inl hq)
  rw [HK.out] at R5
  have hGE : G gE := E3.own gE rfl
  have hGg : G g := R3.out.mine g rfl
  have hlE : ¬ some l = some gE := fun e => ownsRow_notIn hu2 B3.out (by decide) (by rw [e]; rfl)
  have hlg : ¬ l = g := fun e => ownsRow_notIn R3.out.row B3.out (by decide) (by rw [e]; rfl)
  obtain ⟨w5, hw5⟩ : ∃ z, z = w4.setCell ⟨g, k * 3 + 1, none⟩ (.slice (some ⟨gE, 0, none⟩) m cE) := ⟨_, rfl⟩
  have t5 : Turn (fun q => q = g) w4 w5 := by
    rw [hw5]
    exact (Turn.of_grown (grown_set w4 g _ _)).mono (fun q e => Option.some.inj e)
  rw [← hw5] at R5 ⊢
  have B5 := (B3.out.turn t4 hlE).turn t5 hlg
  have tG : Turn G w3 w5 := (t4.mono (fun q e => by rw [Option.some.inj e]; exact hGE)).trans (t5.mono (fun q e => by rw [e]; exact hGg))
  have D5 := D3.out.turn tG (fun q hf hg => HAP3.out q hf hg)
  have T5 := (hTF.out.mono (S' := fun q => F q ∨ G q) (fun _ => .inl)).trans (tG.mono (fun _ => .inr))
  have R6 := hide R5
  have B6 := hide B5
  have D6 := hide D5
  have T6 := hide T5
  clear R5 B5 D5 T5 tG t5 hw5 o4 g4 t4 k2 kf hK hK2 hseg E3 hu1 hu2 hu3
  go_wp2_with fail
  go_ret
  exact ⟨rfl, F3, _, D6.out, R6.out, B6.out, T6.out, hF3.out, HAP3.out⟩
end Go.Proofs.YtejhoefmcldpnaaGreat
namespace Go.Proofs.YtejhoefmcldpnaaGreat
open Go.RowKit Go.Maps
/-- The files of these names are synced. -/
def fullS (ns : List Str) (L : DiskL) : DiskL := L.map fun q => if q.1 ∈ ns then (q.1, (q.2.1, q.2.1.length)) else q
theorem full_first (ns : List Str) (q : Str × (List Nat × Nat)) : (if q.1 ∈ ns then (q.1, (q.2.1, q.2.1.length)) else q).1 = q.1 := by split <;> rfl
theorem full_rise {ns : List Str} {L : DiskL} (hr : Rise L) : Rise (fullS ns L) := by
  unfold Rise fullS
  rw [List.pairwise_map]
  refine hr.imp ?_
  intro a b h
  rw [full_first, full_first]
  exact h
theorem sync_full {n : Str} {L : DiskL} (hr : Rise L) : (syncL n L).1 = fullS [n] L := by
  unfold syncL
  rcases e : getK n L with _ | a
  · have h := getK_none e
    show L = fullS [n] L
    unfold fullS
    conv => lhs; rw [← List.map_id' L]
    refine List.map_congr_left fun q hq => ?_
    rw [if_neg (by simpa using h q hq)]
  · show putK n (a.1, a.1.length) L = fullS [n] L
    refine rise_ext (putK_rise hr) (full_rise hr) fun p => ?_
    rw [mem_putK]
    unfold fullS
    rw [List.mem_map]
    have hm := getK_mem e
    constructor
    · rintro (rfl | ⟨h1, h2⟩)
      · exact ⟨(n, a), hm, by rw [if_pos (by simp)]⟩
      · exact ⟨p, h1, by rw [if_neg (by simpa using h2)]⟩
    · rintro ⟨q, hq, rfl⟩
      by_cases hn : q.1 = n
      · have e2 : q = (n, a) := rise_inj hr hq hm hn
        rw [e2, if_pos (by simp)]
        exact .inl rfl
      · rw [if_neg (by simpa using hn)]
        exact .inr ⟨hq, hn⟩
theorem full_full (ns ms : List Str) (L : DiskL) : fullS ms (fullS ns L) = fullS (ns ++ ms) L := by
  unfold fullS
  rw [List.map_map]
  refine List.map_congr_left fun q _ => ?_
  simp only [Function.comp]
  by_cases h1 : q.1 ∈ ns <;> by_cases h2 : q.1 ∈ ms <;> simp [h1, h2]
theorem fold_full : ∀ (ns : List Str) {L : DiskL}, Rise L → ns.foldl (fun L n => (syncL n L).1) L = fullS ns L := by
  intro ns
  induction ns with
  | nil => intro L _; simp [fullS]
  | cons n ns ih =>
    intro L hr
    rw [List.foldl_cons, sync_full hr, ih (full_rise hr), full_full]
    rfl
theorem syncs_full (k : Str) (l : List Nat) {L : DiskL} (hr : Rise L) : syncsL k l L = fullS (l.map (nameL k)) L := by
  rw [← fold_full _ hr, List.foldl_map]
  rfl
def freshN (k : Str) (S : List Sgf) : List Str := (S.filter (fun x => x.2.2)).map fun x => nameL k x.1
theorem psync_full (k : Str) : ∀ (S : List Sgf) {L : DiskL}, Rise L → S.foldl (fun L x => if x.2.2 = true then (syncL (nameL k x.1) L).1 else L) L = fullS (freshN k S) L := by
  intro S
  induction S with
  | nil => intro L _; simp [fullS, freshN]
  | cons x S ih =>
    intro L hr
    rw [List.foldl_cons]
    by_cases h : x.2.2 = true
    · rw [if_pos h, sync_full hr, ih (full_rise hr), full_full]
      unfold freshN
      rw [List.filter_cons, if_pos h]
      rfl
    · rw [if_neg h, ih hr]
      unfold freshN
      rw [List.filter_cons, if_neg h]
theorem getK_full (ns : List Str) (j : Str) (L : DiskL) : getK j (fullS ns L) = (getK j L).map fun a => if j ∈ ns then (a.1, a.1.length) else a := by
  unfold getK fullS
  rw [List.find?_map]
  have e : ((fun p : Str × (List Nat × Nat) => p.1 == j) ∘ fun q : Str × (List Nat × Nat) => if q.1 ∈ ns then (q.1, (q.2.1, q.2.1.length)) else q) = fun p => p.1 == j := by
    funext q
    simp only [Function.comp, full_first]
  rw [e]
  generalize h : L.find? (fun p : Str × (List Nat × Nat) => p.1 == j) = o
  rcases o with _ | q
  · rfl
  · have hq : q.1 = j := by have := List.find?_some h; simpa using this
    simp only [Option.map_some]
    rw [hq]
    by_cases hj : j ∈ ns
    · rw [if_pos hj, if_pos hj]
    · rw [if_neg hj, if_neg hj]
theorem twin_sync {k : Str} {P : PLog} {M : LogL} {L : DiskL} (h : Twin k P M L) (hr : Rise L) :
    P.segs.foldl (fun L x => if x.2.2 = true then (syncL (nameL k x.1) L).1 else L) L = syncsL k M.dirty L ∧ Twin k ⟨P.segs.map (fun x => (x.1, x.2.1, false)), P.next⟩ ⟨M.segs, M.next, []⟩ (syncsL k M.dirty L) := by
  have e1 := psync_full k P.segs hr
  have e2 := syncs_full k M.dirty hr
  have heq : fullS (freshN k P.segs) L = fullS (M.dirty.map (nameL k)) L := by
    unfold fullS
    refine List.map_congr_left fun q hq => ?_
    by_cases h1 : q.1 ∈ freshN k P.segs
    · rw [if_pos h1, if_pos]
      unfold freshN at h1
      obtain ⟨x, hx, hn⟩ := List.mem_map.1 h1
      obtain ⟨hx1, hx2⟩ := List.mem_filter.1 hx
      exact List.mem_map.2 ⟨x.1, h.fresh x hx1 hx2, hn⟩
    · rw [if_neg h1]
      by_cases h2 : q.1 ∈ M.dirty.map (nameL k)
      · rw [if_pos h2]
        obtain ⟨n, hn, hnq⟩ := List.mem_map.1 h2
        have hg : getK (nameL k n) L = some q.2 := mem_getK hr (by rw [hnq]; exact hq)
        obtain ⟨s, hs, hsn⟩ := h.stray n (h.dirt n hn) (by rw [hg]; rfl)
        rw [h.segs] at hs
        obtain ⟨x, hx, rfl⟩ := List.mem_map.1 hs
        have hsn : x.1 = n := hsn
        have hf : x.2.2 = false := by
          rcases hb : x.2.2 with _ | _
          · rfl
          · refine absurd ?_ h1
            unfold freshN
            exact List.mem_map.2 ⟨x, List.mem_filter.2 ⟨hx, hb⟩, by rw [hsn]; exact hnq⟩
        have hl := h.last x hx hf q.2 (by rw [hsn]; exact hg)
        rw [← hl]
      · rw [if_neg h2]
  refine ⟨by rw [e1, e2, heq], ?_⟩
  have hget : ∀ j, getK j (syncsL k M.dirty L) = (getK j L).map fun a => if j ∈ M.dirty.map (nameL k) then (a.1, a.1.length) else a := fun j => by rw [e2, getK_full]
  refine ⟨?_, h.next, h.chain, h.full, h.low, fun s hs => ?_, fun n h1 h2 => h.stray n h1 ?_, fun x hx hxt => ?_, fun x hx _ a ha => ?_, fun n hn => by cases hn⟩
  · rw [h.segs, List.map_map]
    rfl
  · obtain ⟨a, g1, g2⟩ := h.file s hs
    refine ⟨_, by rw [hget, g1]; rfl, ?_⟩
    dsimp only
    split
    · exact g2
    · exact g2
  · rw [hget] at h2
    rcases e : getK (nameL k n) L with _ | a
    · rw [e] at h2
      exact h2
    · rfl
  · obtain ⟨y, hy, rfl⟩ := List.mem_map.1 hx
    exact absurd hxt (by simp)
  · obtain ⟨y, hy, rfl⟩ := List.mem_map.1 hx
    have ha : getK (nameL k y.1) (syncsL k M.dirty L) = some a := ha
    rw [hget] at ha
    rcases e : getK (nameL k y.1) L with _ | b
    · rw [e] at ha
      cases ha
    · rw [e] at ha
      have ha := (Option.some.inj ha).symm
      subst ha
      dsimp only
      by_cases hd : nameL k y.1 ∈ M.dirty.map (nameL k)
      · rw [if_pos hd]
      · rw [if_neg hd]
        refine h.last y hy ?_ b e
        rcases hb : y.2.2 with _ | _
        · rfl
        · exact absurd (List.mem_map.2 ⟨y.1, h.fresh y hy hb, rfl⟩) hd
end Go.Proofs.YtejhoefmcldpnaaGreat
