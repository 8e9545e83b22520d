/- The program's Cut. Condition: fewer than 2 to the 30 segments, numbers and lengths below 2 to the 40. -/
import Derived.Test.YtejhoefmcldpnaaGreatRk31
import Derived.Test.YtejhoefmcldpnaaGreatRk30
import Derived.Test.YtejhoefmcldpnaaGreatRk32
import Derived.Test.YtejhoefmcldpnaaGreatRk28
namespace Go.Proofs.YtejhoefmcldpnaaGreat
open Go.RowKit Go.Maps
set_option maxRecDepth 100000 in
theorem preaches_nil (w : World) (z : Int) : Calls Tryz.prog 106 #[.pointer none, .int .i64 z] w fun e w' => e = .returned (.bool false) ∧ Below w.heap.size w w' := by
  have HB := hide (pbounds_none w)
  go_enter Tryz.func106, Tryz.ntmps106
  go_wp2_with fail
  refine HB.out.mono ?_
  rintro e w1 ⟨rfl, k⟩
  have K := hide k
  go_wp2_with fail
  go_ret
  exact ⟨rfl, K.out⟩
set_option maxRecDepth 100000 in
theorem pcut_nil (w : World) (z : Int) : Calls Tryz.prog 81 #[.pointer none, .int .i64 z] w fun e w' => e = .returned (.int .i64 1) ∧ Below w.heap.size w w' := by
  have HB := hide (preaches_nil w z)
  go_enter Tryz.func81, Tryz.ntmps81
  go_wp2_with fail
  refine HB.out.mono ?_
  rintro e w1 ⟨rfl, k⟩
  have K := hide k
  go_wp2_with fail
  go_ret
  exact ⟨rfl, K.out⟩
set_option maxRecDepth 100000 in
theorem pcut_bad (w : World) (G : Nat → Prop) (l dp : Nat) (s : ByteArray) (P : PLog) (z : Int) (h : PLogAt w G l dp s P) (hz : z < (firstP P : Int) ∨ (P.next : Int) < z) :
    Calls Tryz.prog 81 #[.pointer (some ⟨l, 0, none⟩), .int .i64 z] w fun e w' => e = .returned (.int .i64 1) ∧ Below w.heap.size w w' := by
  have HB := preaches_any w G l dp s P z h
  rw [decide_eq_false (by omega)] at HB
  have HB := hide HB
  clear hz h
  go_enter Tryz.func81, Tryz.ntmps81
  go_wp2_with fail
  refine HB.out.mono ?_
  rintro e w1 ⟨rfl, d, rfl⟩
  go_wp2_with fail
  go_ret
  exact ⟨rfl, below_drewN (Below.refl _ _) d⟩
theorem takeN {α : Type} (X : List α) (k N : Nat) (h : X.length ≤ N) : (X.drop k).take N = X.drop k := List.take_of_length_le (by rw [List.length_drop]; omega)
set_option maxRecDepth 100000 in
set_option maxHeartbeats 12800000 in
theorem pcut_empty (w : World) (F G : Nat → Prop) (dp l room : Nat) (s : ByteArray) (P : PLog) (L : DiskL) (i left : Nat) (h : PBoth w F G dp l room s P L) (hs : s.size ≤ 64) (hi1 : firstP P ≤ i) (hi2 : i ≤ P.next) (hnx : P.next ≤ 1099511627776)
    (hsl : P.segs.length ≤ 1073741824) (hll9 : left ≤ P.segs.length) (hr : ∀ a b (ha : a < P.segs.length) (hb : b < P.segs.length), a < b → P.segs[a].1 < P.segs[b].1) (hc : ∀ j (hj : j < P.segs.length), j < left ↔ (P.segs[j].1 : Int) < (i : Int)) (hlow : ∀ x ∈ P.segs, x.1 ≤ 1099511627776) (hX : P.segs = []) :
    Calls Tryz.prog 81 #[.pointer (some ⟨l, 0, none⟩), .int .i64 (i : Int)] w fun e w' => ∃ R : PLog × DiskL, R = cutP s.data.toList i left P L ∧ e = .returned (.int .i64 0) ∧ ∃ F', PBoth w' F' G dp l room s R.1 R.2 ∧ Turn (fun k => F k ∨ G k) w w' ∧ ∀ k, F' k → F k ∨ w.heap.size ≤ k := by
  obtain ⟨segs, nx⟩ := P
  obtain ⟨hD, ⟨vS, X, e, h⟩, hap⟩ := h
  simp only at e h hi1 hi2 hnx hsl hll9 hr hc hlow hX
  have hXe : segs.length = X.length := by rw [e, List.length_map]
  have hat : ∀ j (hj : j < X.length), segs[j]'(by omega) = segP X[j] := fun j hj => by simp only [e, List.getElem_map]
  have HRE := preaches_any w G l dp s ⟨segs, nx⟩ (i : Int) ⟨vS, X, e, h⟩
  dsimp only at HRE
  rw [decide_eq_true (by omega)] at HRE
  have HRE := hide HRE
  have hrX : ∀ a b (ha : a < X.length) (hb : b < X.length), a < b → X[a].1 < X[b].1 := fun a b ha hb hab => by
    have := hr a b (by omega) (by omega) hab
    rw [hat a ha, hat b hb] at this
    exact this
  have hcX : ∀ j (hj : j < X.length), j < left ↔ (X[j].1 : Int) < (i : Int) := fun j hj => by
    have := hc j (by omega)
    rw [hat j hj] at this
    exact this
  have HAH := hide (show ∀ (W : World), Below w.heap.size w W → Calls Tryz.prog 74 #[.pointer (some ⟨l, 0, none⟩), .int .i64 (i : Int)] W fun e w' => e = .returned (.int .i64 (left : Int)) ∧ Below W.heap.size W w' from fun W k => (pahead_any W G l dp s _ X nx (i : Int) (h.below k) (by omega) hrX).mono (fun e w' => by
    rintro ⟨i2, rfl, h1, h2, h3⟩
    exact ⟨by rw [ahead_uni h1 (by omega) h2 hcX], h3⟩))
  obtain ⟨AS, cS, eS, hlc, hc63, hnil, hcell⟩ := rowP_form h.row
  subst eS
  obtain ⟨N, hN⟩ : ∃ N, N = X.length := ⟨_, rfl⟩
  have hNl : N ≤ 1073741824 := by omega
  have hlN : left ≤ N := by omega
  rw [← hN] at hlc h
  have hlowX : ∀ x ∈ X, x.1 ≤ 1099511627776 := fun x hx => hlow (segP x) (by rw [e]; exact List.mem_map.2 ⟨x, hx, rfl⟩)
  have hN0 : N = 0 := by rw [hN, ← hXe, hX]; rfl
  have hl0 : left = 0 := by omega
  have HXN := hide (show X = [] from List.eq_nil_of_length_eq_zero (by omega))
  have HGL : Hid (G l) := hide h.own
  have HGW : Hid (∀ q, G q → q < w.heap.size) := hide h.low
  have HCUT : Hid (∀ (X1 : List Sgp) (L1 : DiskL), ((X1.take left).map segP = shortA i (segs.take left) ∧ (X1.drop left).map (·.1) = (segs.drop left).map (·.1)) → L1 = shortD s.data.toList i (segs.take left) L → cutP s.data.toList i left ⟨segs, nx⟩ L = (⟨(X1.take left).map segP, i⟩, removesL s.data.toList ((X1.drop left).map (·.1)) L1)) := hide (fun X1 L1 h1 h2 => by
    unfold cutP
    rw [h1.1, h1.2, h2])
  have HD := hide hD
  have HP0 := hide h.prow
  have HB0 := hide h.cells
  have HAP := hide hap
  have HN := hide hN
  have HE := hide e
  have HLX := hide hlowX
  have c2 : w.cell? ⟨l, 2, none⟩ = some (.slice AS N cS) := h.cells.cell 2
  have hll := cell_lt c2
  clear hD h hap hXe hat hrX hcX hr hc hlow hlowX hll9 hi1 hi2 hN e hcell hsl hX
  have hlz : ¬ (0 : Int) < (left : Int) := by omega
  rcases AS with _ | a
  · have HC0 := hide (hnil rfl)
    have hc0 : cS = 0 := hnil rfl
    subst hl0
    subst hN0
    subst hc0
    go_enter Tryz.func81, Tryz.ntmps81
    go_wp2_with fail
    refine HRE.out.mono ?_
    rintro e w1 ⟨rfl, d1, rfl⟩
    have kd1 : Below w.heap.size w (w.drewN d1) := below_drewN (Below.refl _ _) d1
    go_wp2_with fail
    refine (HAH.out _ kd1).mono ?_
    rintro e w2 ⟨rfl, k2⟩
    have K2 := below_step kd1 k2
    have B3 := hide (HB0.out.turn (Turn.of_below (fun _ => False) K2) id)
    have R3 := hide (HP0.out.below K2)
    have D3 := hide (HD.out.below K2)
    have T3 : Hid (Turn (fun q => F q ∨ G q) w w2) := hide (Turn.of_below _ K2)
    have FF3 : Hid (∀ q, F q → F q ∨ w.heap.size ≤ q) := hide (fun _ => .inl)
    have AP3 := HAP
    have HX1 : Hid (X.length = 0) := hide HN.out.symm
    have HXS : Hid ((X.take 0).map segP = shortA i (segs.take 0) ∧ (X.drop 0).map (·.1) = (segs.drop 0).map (·.1)) := hide (by rw [HE.out, HXN.out]; simp [shortA])
    have HLS : Hid (L = shortD s.data.toList i (segs.take 0) L) := hide (by rw [HE.out, HXN.out]; simp [shortD])
    have HL1 : Hid (∀ n ∈ (X.drop 0).map (·.1), n ≤ 1099511627776) := hide (fun n hn => by rw [HXN.out] at hn; simp at hn)
    clear k2 kd1 K2 c2
    have r0 : w2.cell? ⟨l, 0, none⟩ = some (.pointer (some ⟨dp, 0, none⟩)) := B3.out.cell 0
    have r2 : w2.cell? ⟨l, 2, none⟩ = some (.slice none 0 0) := B3.out.cell 2
    have r3 : w2.cell? ⟨l, 3, none⟩ = some (.int .i64 (nx : Int)) := B3.out.cell 3
    have hl3 := cell_lt r0
    go_wp2_with fail
    have hd0 : X.drop 0 = [] := List.drop_of_length_le (by have := HX1.out; omega)
    refine (pfirstsO_any _ none 0 0 (X.drop 0) (by rw [hd0]; rfl) (by omega) (fun q hq => absurd hq (by rw [hd0]; simp)) (by omega) (fun x hx => R3.out.forms x (List.mem_of_mem_drop hx))).mono ?_
    rintro e w4 ⟨u4, rfl, o4, k4⟩
    have k4 : Below w2.heap.size w2 w4 := ⟨k4.os, k4.tape, k4.output, k4.size, k4.block⟩
    have B4 := hide (B3.out.turn (Turn.of_below (fun _ => False) k4) id)
    have R4 := hide (R3.out.below k4)
    have D4 := hide (D3.out.below k4)
    have o4 : OwnN w4 w2.heap.size u4 (((X.drop 0).map (·.1)).map fun n : Nat => (n : Int)) := by rw [List.map_map]; exact o4
    have O4 := hide o4
    have K4 := hide k4
    have hm4 : Hid (((X.drop 0).map (·.1)).length ≤ 1073741824) := hide (by rw [List.length_map, List.length_drop, HX1.out]; omega)
    clear o4 k4 r0 r2 r3
    go_wp2_with fail
    refine (premove_any _ F G dp l room s ⟨X.map segP, nx⟩ L u4 w2.heap.size ((X.drop 0).map (·.1)) ⟨D4.out, ⟨_, X, rfl, R4.out.log B4.out HGL.out (fun q hq => by have := HGW.out q hq; have := T3.out.size; have := K4.out.size; omega)⟩, AP3.out⟩ hs O4.out (fun q hq hf => by have := (World.ownsRow.lt O4.out q hq).1; have := D3.out.low q hf; omega) HL1.out hm4.out).mono ?_
    rintro e w5 ⟨rfl, F5, b5, n5⟩
    have hnl5 : ¬ F l := fun hf => AP3.out l hf HGL.out
    have B5 := hide (B4.out.turn n5.turn hnl5)
    have R5 := hide (R4.out.turn n5.turn (fun q hg hf => AP3.out q hf hg))
    have D5 := hide b5.disk
    have AP5 := hide b5.apart
    have T5 := hide ((T3.out.then (Turn.of_below (fun _ => False) K4.out) (fun _ => False.elim)).then n5.turn (fun q hq => (FF3.out q hq).imp .inl id))
    have FF5 := hide (fun q (hq : F5 q) => (n5.foot q hq).elim (fun h => FF3.out q h) (fun h => .inr (by have := T3.out.size; have := K4.out.size; omega)))
    have z2 : w5.cell? ⟨l, 2, none⟩ = some (.slice none 0 0) := B5.out.cell 2
    have zf := B5.out.frozen 2
    have hl5 := cell_lt z2
    clear b5 n5 hnl5
    go_wp2_with fail
    refine Ways.start (fun W => W.cell? ⟨l, 2, none⟩ = some (.slice none 0 0)) 14 15 #[false, false, false, false, false, false, false, false, false, false, false, false, false, false, false] (by kernel_rfl) (by kernel_rfl) (by kernel_rfl) ?_
    have hHeld : w5.drew.cell? ⟨l, 2, none⟩ = some (.slice none 0 0) := z2
    refine' Ways.take (i := 0) (oi := ⟨_, _, _, _, _, _⟩) (v := _) rfl (by kernel_rfl) (by kernel_rfl) (by kernel_rfl) (by kernel_rfl) (fun _ _ _ h => h) hHeld (Or.inl ⟨rfl, ?_⟩) ?_
    rotate_left
    · (intro W hW; (try dsimp only at hW); go_simp; (try with_reducible rfl))
    try simp only [Act.put, List.setIfInBounds_toArray, List.set_cons_zero, List.set_cons_succ]
    refine' Ways.take (i := 1) (oi := ⟨_, _, _, _, _, _⟩) (v := _) rfl (by kernel_rfl) (by kernel_rfl) (by kernel_rfl) (by kernel_rfl) (fun _ _ _ h => h) hHeld (Or.inl ⟨rfl, ?_⟩) ?_
    rotate_left
    · (intro W hW; (try dsimp only at hW); go_simp; (try with_reducible rfl))
    try simp only [Act.put, List.setIfInBounds_toArray, List.set_cons_zero, List.set_cons_succ]
    refine' Ways.take (i := 2) (oi := ⟨_, _, _, _, _, _⟩) (v := _) rfl (by kernel_rfl) (by kernel_rfl) (by kernel_rfl) (by kernel_rfl) (fun _ _ _ h => h) hHeld (Or.inl ⟨rfl, ?_⟩) ?_
    rotate_left
    · (intro W hW; (try dsimp only at hW); go_simp; (try with_reducible rfl))
    try simp only [Act.put, List.setIfInBounds_toArray, List.set_cons_zero, List.set_cons_succ]
    refine' Ways.take (i := 3) (oi := ⟨_, _, _, _, _, _⟩) (v := _) rfl (by kernel_rfl) (by kernel_rfl) (by kernel_rfl) (by kernel_rfl) (fun _ _ _ h => h) hHeld (Or.inl ⟨rfl, ?_⟩) ?_
    rotate_left
    · (intro W hW; (try dsimp only at hW); go_simp; (try with_reducible rfl))
    try simp only [Act.put, List.setIfInBounds_toArray, List.set_cons_zero, List.set_cons_succ]
    refine' Ways.take (i := 4) (oi := ⟨_, _, _, _, _, _⟩) (v := _) rfl (by kernel_rfl) (by kernel_rfl) (by kernel_rfl) (by kernel_rfl) (fun _ _ _ h => h) hHeld (Or.inl ⟨rfl, ?_⟩) ?_
    rotate_left
    · (intro W hW; (try dsimp only at hW); go_simp; (try with_reducible rfl))
    try simp only [Act.put, List.setIfInBounds_toArray, List.set_cons_zero, List.set_cons_succ]
    refine' Ways.take (i := 5) (oi := ⟨_, _, _, _, _, _⟩) (v := _) rfl (by kernel_rfl) (by kernel_rfl) (by kernel_rfl) (by kernel_rfl) (fun _ _ _ h => h) hHeld (Or.inl ⟨rfl, ?_⟩) ?_
    rotate_left
    · (intro W hW; (try dsimp only at hW); go_simp; (try with_reducible rfl))
    try simp only [Act.put, List.setIfInBounds_toArray, List.set_cons_zero, List.set_cons_succ]
    refine' Ways.take (i := 6) (oi := ⟨_, _, _, _, _, _⟩) (v := _) rfl (by kernel_rfl) (by kernel_rfl) (by kernel_rfl) (by kernel_rfl) (fun _ _ _ h => h) hHeld (Or.inl ⟨rfl, ?_⟩) ?_
    rotate_left
    · (intro W hW; (try dsimp only at hW); go_simp; (try with_reducible rfl))
    try simp only [Act.put, List.setIfInBounds_toArray, List.set_cons_zero, List.set_cons_succ]
    refine' Ways.take (i := 7) (oi := ⟨_, _, _, _, _, _⟩) (v := _) rfl (by kernel_rfl) (by kernel_rfl) (by kernel_rfl) (by kernel_rfl) (fun _ _ _ h => h) hHeld (Or.inl ⟨rfl, ?_⟩) ?_
    rotate_left
    · (intro W hW; (try dsimp only at hW); go_simp; (try with_reducible rfl))
    try simp only [Act.put, List.setIfInBounds_toArray, List.set_cons_zero, List.set_cons_succ]
    refine' Ways.take (i := 8) (oi := ⟨_, _, _, _, _, _⟩) (v := _) rfl (by kernel_rfl) (by kernel_rfl) (by kernel_rfl) (by kernel_rfl) (fun _ _ _ h => h) hHeld (Or.inl ⟨rfl, ?_⟩) ?_
    rotate_left
    · (intro W hW; (try dsimp only at hW); go_simp; (try with_reducible rfl))
    try simp only [Act.put, List.setIfInBounds_toArray, List.set_cons_zero, List.set_cons_succ]
    refine' Ways.take (i := 9) (oi := ⟨_, _, _, _, _, _⟩) (v := _) rfl (by kernel_rfl) (by kernel_rfl) (by kernel_rfl) (by kernel_rfl) (fun _ _ _ h => h) hHeld (Or.inl ⟨rfl, ?_⟩) ?_
    rotate_left
    · (intro W hW; (try dsimp only at hW); go_simp; (try with_reducible rfl))
    try simp only [Act.put, List.setIfInBounds_toArray, List.set_cons_zero, List.set_cons_succ]
    refine' Ways.take (i := 10) (oi := ⟨_, _, _, _, _, _⟩) (v := _) rfl (by kernel_rfl) (by kernel_rfl) (by kernel_rfl) (by kernel_rfl) (fun _ _ _ h => h) hHeld (Or.inl ⟨rfl, ?_⟩) ?_
    rotate_left
    · (intro W hW; (try dsimp only at hW); go_simp; (try with_reducible rfl))
    try simp only [Act.put, List.setIfInBounds_toArray, List.set_cons_zero, List.set_cons_succ]
    refine Ways.one (i := 11) (by kernel_rfl) rfl (fun K hK => ?_)
    go_simp
    go_at_call 109
    refine (del_segs_same none 0 0 0 w5.drew (Nat.le_refl _) hlc hc63 (fun _ => rfl) (fun a h => by cases h)).mono ?_
    rintro e w6 ⟨rfl, k6⟩
    have k6 : Below w5.heap.size w5 w6 := ⟨k6.os, k6.tape, k6.output, k6.size, k6.block⟩
    have hXt : X.take 0 = X := List.take_of_length_le (by have := HX1.out; omega)
    have R6 := hide (show PRow w6 G (.slice none 0 0) (X.take 0) from by rw [hXt]; exact R5.out.below k6)
    have B6 := hide (B5.out.turn (Turn.of_below (fun _ => False) k6) id)
    have D6 := hide (D5.out.below k6)
    have T6 := hide (T5.out.then (Turn.of_below (fun _ => False) k6) (fun _ => False.elim))
    clear k6
    have y2 : w6.cell? ⟨l, 2, none⟩ = some (.slice none 0 0) := B6.out.cell 2
    have yf := B6.out.frozen 2
    refine hK.out _ _ y2 ?_
    try simp only [List.setIfInBounds_toArray, List.set_cons_zero, List.set_cons_succ]
    refine Ways.one (i := 12) (by kernel_rfl) rfl (fun K3 hK3 => ?_)
    go_simp
    refine hK3.out _ _ y2 ?_
    try simp only [List.setIfInBounds_toArray, List.set_cons_zero, List.set_cons_succ]
    refine' Ways.take (i := 13) (oi := ⟨_, _, _, _, _, _⟩) (v := _) rfl (by kernel_rfl) (by kernel_rfl) (by kernel_rfl) (by kernel_rfl) (fun _ _ _ h => h) y2 (Or.inl ⟨rfl, ?_⟩) ?_
    rotate_left
    · (intro W hW; (try dsimp only at hW); go_simp; (try with_reducible rfl))
    try simp only [Act.put, List.setIfInBounds_toArray, List.set_cons_zero, List.set_cons_succ]
    refine Ways.last (by kernel_rfl) rfl (by kernel_rfl) (fun K2 hK2 => ?_)
    go_simp
    refine hK2.out _ _ ?_
    try simp only [Act.put, List.setIfInBounds_toArray, List.set_cons_zero, List.set_cons_succ]
    have b7 := B6.out.stored 2 (.slice none 0 0)
    have x3 : (w6.setCell ⟨l, 2, none⟩ (.slice none 0 0)).cell? ⟨l, 3, none⟩ = some (.int .i64 (nx : Int)) := b7.cell 3
    have xf := b7.frozen 3
    have hl7 := cell_lt x3
    clear hK hK2 hK3 y2 yf z2 zf
    go_wp2_with fail
    obtain ⟨wE, hwE⟩ : ∃ z, z = (w6.setCell ⟨l, 2, none⟩ (.slice none 0 0)).setCell ⟨l, 3, none⟩ (.int .i64 (i : Int)) := ⟨_, rfl⟩
    rw [← hwE]
    have tE : Turn (fun q => q = l) w6 wE := by
      rw [hwE]
      exact ((Turn.of_grown (grown_set w6 l _ _)).mono (fun q e => Option.some.inj e)).trans ((Turn.of_grown (grown_set _ l _ _)).mono (fun q e => Option.some.inj e))
    have BE := b7.stored 3 (.int .i64 (i : Int))
    rw [← hwE] at BE
    have PE := R6.out.off tE (fun q e => by rw [e]; exact blk_off B6.out)
    have DE := D6.out.turn tE (fun q hf e => AP5.out q hf (e ▸ HGL.out))
    have TE := T6.out.then tE (fun q e => .inl (.inr (e ▸ HGL.out)))
    go_ret
    refine ⟨rfl, F5, ?_, TE, FF5.out⟩
    rw [HCUT.out X L HXS.out HLS.out]
    exact ⟨DE, ⟨_, X.take 0, rfl, PE.log BE HGL.out (fun q hq => by have := HGW.out q hq; have := TE.size; omega)⟩, AP5.out⟩
  · have hgs : ∃ gS, a = ⟨gS, 0, none⟩ := by
      obtain ⟨A9, c9, e9⟩ := row_form HP0.out.row
      rcases HP0.out.row.2 with ⟨e1, _⟩ | ⟨g, cap, cur, e1, _⟩
      · cases e1
      · cases e1
        exact ⟨g, rfl⟩
    obtain ⟨gS, rfl⟩ := hgs
    clear hnil
    by_cases hcl : cS = 0
    · skip
      subst hl0
      subst hN0
      subst hcl
      go_enter Tryz.func81, Tryz.ntmps81
      go_wp2_with fail
      refine HRE.out.mono ?_
      rintro e w1 ⟨rfl, d1, rfl⟩
      have kd1 : Below w.heap.size w (w.drewN d1) := below_drewN (Below.refl _ _) d1
      go_wp2_with fail
      refine (HAH.out _ kd1).mono ?_
      rintro e w2 ⟨rfl, k2⟩
      have K2 := below_step kd1 k2
      have B3 := hide (HB0.out.turn (Turn.of_below (fun _ => False) K2) id)
      have R3 := hide (HP0.out.below K2)
      have D3 := hide (HD.out.below K2)
      have T3 : Hid (Turn (fun q => F q ∨ G q) w w2) := hide (Turn.of_below _ K2)
      have FF3 : Hid (∀ q, F q → F q ∨ w.heap.size ≤ q) := hide (fun _ => .inl)
      have AP3 := HAP
      have HX1 : Hid (X.length = 0) := hide HN.out.symm
      have HXS : Hid ((X.take 0).map segP = shortA i (segs.take 0) ∧ (X.drop 0).map (·.1) = (segs.drop 0).map (·.1)) := hide (by rw [HE.out, HXN.out]; simp [shortA])
      have HLS : Hid (L = shortD s.data.toList i (segs.take 0) L) := hide (by rw [HE.out, HXN.out]; simp [shortD])
      have HL1 : Hid (∀ n ∈ (X.drop 0).map (·.1), n ≤ 1099511627776) := hide (fun n hn => by rw [HXN.out] at hn; simp at hn)
      clear k2 kd1 K2 c2
      have r0 : w2.cell? ⟨l, 0, none⟩ = some (.pointer (some ⟨dp, 0, none⟩)) := B3.out.cell 0
      have r2 : w2.cell? ⟨l, 2, none⟩ = some (.slice (some ⟨gS, 0, none⟩) 0 0) := B3.out.cell 2
      have r3 : w2.cell? ⟨l, 3, none⟩ = some (.int .i64 (nx : Int)) := B3.out.cell 3
      have hl3 := cell_lt r0
      go_wp2_with fail
      have hd0 : X.drop 0 = [] := List.drop_of_length_le (by have := HX1.out; omega)
      refine (pfirstsO_any _ (some ⟨gS, 0, none⟩) 0 0 (X.drop 0) (by rw [hd0]; rfl) (by omega) (fun q hq => absurd hq (by rw [hd0]; simp)) (by omega) (fun x hx => R3.out.forms x (List.mem_of_mem_drop hx))).mono ?_
      rintro e w4 ⟨u4, rfl, o4, k4⟩
      have k4 : Below w2.heap.size w2 w4 := ⟨k4.os, k4.tape, k4.output, k4.size, k4.block⟩
      have B4 := hide (B3.out.turn (Turn.of_below (fun _ => False) k4) id)
      have R4 := hide (R3.out.below k4)
      have D4 := hide (D3.out.below k4)
      have o4 : OwnN w4 w2.heap.size u4 (((X.drop 0).map (·.1)).map fun n : Nat => (n : Int)) := by rw [List.map_map]; exact o4
      have O4 := hide o4
      have K4 := hide k4
      have hm4 : Hid (((X.drop 0).map (·.1)).length ≤ 1073741824) := hide (by rw [List.length_map, List.length_drop, HX1.out]; omega)
      clear o4 k4 r0 r2 r3
      go_wp2_with fail
      refine (premove_any _ F G dp l room s ⟨X.map segP, nx⟩ L u4 w2.heap.size ((X.drop 0).map (·.1)) ⟨D4.out, ⟨_, X, rfl, R4.out.log B4.out HGL.out (fun q hq => by have := HGW.out q hq; have := T3.out.size; have := K4.out.size; omega)⟩, AP3.out⟩ hs O4.out (fun q hq hf => by have := (World.ownsRow.lt O4.out q hq).1; have := D3.out.low q hf; omega) HL1.out hm4.out).mono ?_
      rintro e w5 ⟨rfl, F5, b5, n5⟩
      have hnl5 : ¬ F l := fun hf => AP3.out l hf HGL.out
      have B5 := hide (B4.out.turn n5.turn hnl5)
      have R5 := hide (R4.out.turn n5.turn (fun q hg hf => AP3.out q hf hg))
      have D5 := hide b5.disk
      have AP5 := hide b5.apart
      have T5 := hide ((T3.out.then (Turn.of_below (fun _ => False) K4.out) (fun _ => False.elim)).then n5.turn (fun q hq => (FF3.out q hq).imp .inl id))
      have FF5 := hide (fun q (hq : F5 q) => (n5.foot q hq).elim (fun h => FF3.out q h) (fun h => .inr (by have := T3.out.size; have := K4.out.size; omega)))
      have z2 : w5.cell? ⟨l, 2, none⟩ = some (.slice (some ⟨gS, 0, none⟩) 0 0) := B5.out.cell 2
      have zf := B5.out.frozen 2
      have hl5 := cell_lt z2
      clear b5 n5 hnl5
      go_wp2_with fail
      refine Ways.start (fun W => W.cell? ⟨l, 2, none⟩ = some (.slice (some ⟨gS, 0, none⟩) 0 0)) 14 15 #[false, false, false, false, false, false, false, false, false, false, false, false, false, false, false] (by kernel_rfl) (by kernel_rfl) (by kernel_rfl) ?_
      have hHeld : w5.drew.cell? ⟨l, 2, none⟩ = some (.slice (some ⟨gS, 0, none⟩) 0 0) := z2
      refine' Ways.take (i := 0) (oi := ⟨_, _, _, _, _, _⟩) (v := _) rfl (by kernel_rfl) (by kernel_rfl) (by kernel_rfl) (by kernel_rfl) (fun _ _ _ h => h) hHeld (Or.inl ⟨rfl, ?_⟩) ?_
      rotate_left
      · (intro W hW; (try dsimp only at hW); go_simp; (try with_reducible rfl))
      try simp only [Act.put, List.setIfInBounds_toArray, List.set_cons_zero, List.set_cons_succ]
      refine' Ways.take (i := 1) (oi := ⟨_, _, _, _, _, _⟩) (v := _) rfl (by kernel_rfl) (by kernel_rfl) (by kernel_rfl) (by kernel_rfl) (fun _ _ _ h => h) hHeld (Or.inl ⟨rfl, ?_⟩) ?_
      rotate_left
      · (intro W hW; (try dsimp only at hW); go_simp; (try with_reducible rfl))
      try simp only [Act.put, List.setIfInBounds_toArray, List.set_cons_zero, List.set_cons_succ]
      refine' Ways.take (i := 2) (oi := ⟨_, _, _, _, _, _⟩) (v := _) rfl (by kernel_rfl) (by kernel_rfl) (by kernel_rfl) (by kernel_rfl) (fun _ _ _ h => h) hHeld (Or.inl ⟨rfl, ?_⟩) ?_
      rotate_left
      · (intro W hW; (try dsimp only at hW); go_simp; (try with_reducible rfl))
      try simp only [Act.put, List.setIfInBounds_toArray, List.set_cons_zero, List.set_cons_succ]
      refine' Ways.take (i := 3) (oi := ⟨_, _, _, _, _, _⟩) (v := _) rfl (by kernel_rfl) (by kernel_rfl) (by kernel_rfl) (by kernel_rfl) (fun _ _ _ h => h) hHeld (Or.inl ⟨rfl, ?_⟩) ?_
      rotate_left
      · (intro W hW; (try dsimp only at hW); go_simp; (try with_reducible rfl))
      try simp only [Act.put, List.setIfInBounds_toArray, List.set_cons_zero, List.set_cons_succ]
      refine' Ways.take (i := 4) (oi := ⟨_, _, _, _, _, _⟩) (v := _) rfl (by kernel_rfl) (by kernel_rfl) (by kernel_rfl) (by kernel_rfl) (fun _ _ _ h => h) hHeld (Or.inl ⟨rfl, ?_⟩) ?_
      rotate_left
      · (intro W hW; (try dsimp only at hW); go_simp; (try with_reducible rfl))
      try simp only [Act.put, List.setIfInBounds_toArray, List.set_cons_zero, List.set_cons_succ]
      refine' Ways.take (i := 5) (oi := ⟨_, _, _, _, _, _⟩) (v := _) rfl (by kernel_rfl) (by kernel_rfl) (by kernel_rfl) (by kernel_rfl) (fun _ _ _ h => h) hHeld (Or.inl ⟨rfl, ?_⟩) ?_
      rotate_left
      · (intro W hW; (try dsimp only at hW); go_simp; (try with_reducible rfl))
      try simp only [Act.put, List.setIfInBounds_toArray, List.set_cons_zero, List.set_cons_succ]
      refine' Ways.take (i := 6) (oi := ⟨_, _, _, _, _, _⟩) (v := _) rfl (by kernel_rfl) (by kernel_rfl) (by kernel_rfl) (by kernel_rfl) (fun _ _ _ h => h) hHeld (Or.inl ⟨rfl, ?_⟩) ?_
      rotate_left
      · (intro W hW; (try dsimp only at hW); go_simp; (try with_reducible rfl))
      try simp only [Act.put, List.setIfInBounds_toArray, List.set_cons_zero, List.set_cons_succ]
      refine' Ways.take (i := 7) (oi := ⟨_, _, _, _, _, _⟩) (v := _) rfl (by kernel_rfl) (by kernel_rfl) (by kernel_rfl) (by kernel_rfl) (fun _ _ _ h => h) hHeld (Or.inl ⟨rfl, ?_⟩) ?_
      rotate_left
      · (intro W hW; (try dsimp only at hW); go_simp; (try with_reducible rfl))
      try simp only [Act.put, List.setIfInBounds_toArray, List.set_cons_zero, List.set_cons_succ]
      refine' Ways.take (i := 8) (oi := ⟨_, _, _, _, _, _⟩) (v := _) rfl (by kernel_rfl) (by kernel_rfl) (by kernel_rfl) (by kernel_rfl) (fun _ _ _ h => h) hHeld (Or.inl ⟨rfl, ?_⟩) ?_
      rotate_left
      · (intro W hW; (try dsimp only at hW); go_simp; (try with_reducible rfl))
      try simp only [Act.put, List.setIfInBounds_toArray, List.set_cons_zero, List.set_cons_succ]
      refine' Ways.take (i := 9) (oi := ⟨_, _, _, _, _, _⟩) (v := _) rfl (by kernel_rfl) (by kernel_rfl) (by kernel_rfl) (by kernel_rfl) (fun _ _ _ h => h) hHeld (Or.inl ⟨rfl, ?_⟩) ?_
      rotate_left
      · (intro W hW; (try dsimp only at hW); go_simp; (try with_reducible rfl))
      try simp only [Act.put, List.setIfInBounds_toArray, List.set_cons_zero, List.set_cons_succ]
      refine' Ways.take (i := 10) (oi := ⟨_, _, _, _, _, _⟩) (v := _) rfl (by kernel_rfl) (by kernel_rfl) (by kernel_rfl) (by kernel_rfl) (fun _ _ _ h => h) hHeld (Or.inl ⟨rfl, ?_⟩) ?_
      rotate_left
      · (intro W hW; (try dsimp only at hW); go_simp; (try with_reducible rfl))
      try simp only [Act.put, List.setIfInBounds_toArray, List.set_cons_zero, List.set_cons_succ]
      refine Ways.one (i := 11) (by kernel_rfl) rfl (fun K hK => ?_)
      go_simp
      go_at_call 109
      refine (del_segs_same (some ⟨gS, 0, none⟩) 0 0 0 w5.drew (Nat.le_refl _) hlc hc63 (fun h => by cases h) (fun a h => ⟨gS, (Option.some.inj h).symm⟩)).mono ?_
      rintro e w6 ⟨rfl, k6⟩
      have k6 : Below w5.heap.size w5 w6 := ⟨k6.os, k6.tape, k6.output, k6.size, k6.block⟩
      have hXt : X.take 0 = X := List.take_of_length_le (by have := HX1.out; omega)
      have R6 := hide (show PRow w6 G (.slice (some ⟨gS, 0, none⟩) 0 0) (X.take 0) from by rw [hXt]; exact R5.out.below k6)
      have B6 := hide (B5.out.turn (Turn.of_below (fun _ => False) k6) id)
      have D6 := hide (D5.out.below k6)
      have T6 := hide (T5.out.then (Turn.of_below (fun _ => False) k6) (fun _ => False.elim))
      clear k6
      have y2 : w6.cell? ⟨l, 2, none⟩ = some (.slice (some ⟨gS, 0, none⟩) 0 0) := B6.out.cell 2
      have yf := B6.out.frozen 2
      refine hK.out _ _ y2 ?_
      try simp only [List.setIfInBounds_toArray, List.set_cons_zero, List.set_cons_succ]
      refine Ways.one (i := 12) (by kernel_rfl) rfl (fun K3 hK3 => ?_)
      go_simp
      refine hK3.out _ _ y2 ?_
      try simp only [List.setIfInBounds_toArray, List.set_cons_zero, List.set_cons_succ]
      refine' Ways.take (i := 13) (oi := ⟨_, _, _, _, _, _⟩) (v := _) rfl (by kernel_rfl) (by kernel_rfl) (by kernel_rfl) (by kernel_rfl) (fun _ _ _ h => h) y2 (Or.inl ⟨rfl, ?_⟩) ?_
      rotate_left
      · (intro W hW; (try dsimp only at hW); go_simp; (try with_reducible rfl))
      try simp only [Act.put, List.setIfInBounds_toArray, List.set_cons_zero, List.set_cons_succ]
      refine Ways.last (by kernel_rfl) rfl (by kernel_rfl) (fun K2 hK2 => ?_)
      go_simp
      refine hK2.out _ _ ?_
      try simp only [Act.put, List.setIfInBounds_toArray, List.set_cons_zero, List.set_cons_succ]
      have b7 := B6.out.stored 2 (.slice (some ⟨gS, 0, none⟩) 0 0)
      have x3 : (w6.setCell ⟨l, 2, none⟩ (.slice (some ⟨gS, 0, none⟩) 0 0)).cell? ⟨l, 3, none⟩ = some (.int .i64 (nx : Int)) := b7.cell 3
      have xf := b7.frozen 3
      have hl7 := cell_lt x3
      clear hK hK2 hK3 y2 yf z2 zf
      go_wp2_with fail
      obtain ⟨wE, hwE⟩ : ∃ z, z = (w6.setCell ⟨l, 2, none⟩ (.slice (some ⟨gS, 0, none⟩) 0 0)).setCell ⟨l, 3, none⟩ (.int .i64 (i : Int)) := ⟨_, rfl⟩
      rw [← hwE]
      have tE : Turn (fun q => q = l) w6 wE := by
        rw [hwE]
        exact ((Turn.of_grown (grown_set w6 l _ _)).mono (fun q e => Option.some.inj e)).trans ((Turn.of_grown (grown_set _ l _ _)).mono (fun q e => Option.some.inj e))
      have BE := b7.stored 3 (.int .i64 (i : Int))
      rw [← hwE] at BE
      have PE := R6.out.off tE (fun q e => by rw [e]; exact blk_off B6.out)
      have DE := D6.out.turn tE (fun q hf e => AP5.out q hf (e ▸ HGL.out))
      have TE := T6.out.then tE (fun q e => .inl (.inr (e ▸ HGL.out)))
      go_ret
      refine ⟨rfl, F5, ?_, TE, FF5.out⟩
      rw [HCUT.out X L HXS.out HLS.out]
      exact ⟨DE, ⟨_, X.take 0, rfl, PE.log BE HGL.out (fun q hq => by have := HGW.out q hq; have := TE.size; omega)⟩, AP5.out⟩
    · skip
      subst hl0
      subst hN0
      go_enter Tryz.func81, Tryz.ntmps81
      go_wp2_with fail
      refine HRE.out.mono ?_
      rintro e w1 ⟨rfl, d1, rfl⟩
      have kd1 : Below w.heap.size w (w.drewN d1) := below_drewN (Below.refl _ _) d1
      go_wp2_with fail
      refine (HAH.out _ kd1).mono ?_
      rintro e w2 ⟨rfl, k2⟩
      have K2 := below_step kd1 k2
      have B3 := hide (HB0.out.turn (Turn.of_below (fun _ => False) K2) id)
      have R3 := hide (HP0.out.below K2)
      have D3 := hide (HD.out.below K2)
      have T3 : Hid (Turn (fun q => F q ∨ G q) w w2) := hide (Turn.of_below _ K2)
      have FF3 : Hid (∀ q, F q → F q ∨ w.heap.size ≤ q) := hide (fun _ => .inl)
      have AP3 := HAP
      have HX1 : Hid (X.length = 0) := hide HN.out.symm
      have HXS : Hid ((X.take 0).map segP = shortA i (segs.take 0) ∧ (X.drop 0).map (·.1) = (segs.drop 0).map (·.1)) := hide (by rw [HE.out, HXN.out]; simp [shortA])
      have HLS : Hid (L = shortD s.data.toList i (segs.take 0) L) := hide (by rw [HE.out, HXN.out]; simp [shortD])
      have HL1 : Hid (∀ n ∈ (X.drop 0).map (·.1), n ≤ 1099511627776) := hide (fun n hn => by rw [HXN.out] at hn; simp at hn)
      clear k2 kd1 K2 c2
      have r0 : w2.cell? ⟨l, 0, none⟩ = some (.pointer (some ⟨dp, 0, none⟩)) := B3.out.cell 0
      have r2 : w2.cell? ⟨l, 2, none⟩ = some (.slice (some ⟨gS, 0, none⟩) 0 cS) := B3.out.cell 2
      have r3 : w2.cell? ⟨l, 3, none⟩ = some (.int .i64 (nx : Int)) := B3.out.cell 3
      have hl3 := cell_lt r0
      go_wp2_with fail
      have hd0 : X.drop 0 = [] := List.drop_of_length_le (by have := HX1.out; omega)
      refine (pfirstsO_any _ (some ⟨gS, 0 * 3, none⟩) 0 (cS - 0) (X.drop 0) (by rw [hd0]; rfl) (by omega) (fun q hq => absurd hq (by rw [hd0]; simp)) (by omega) (fun x hx => R3.out.forms x (List.mem_of_mem_drop hx))).mono ?_
      rintro e w4 ⟨u4, rfl, o4, k4⟩
      have k4 : Below w2.heap.size w2 w4 := ⟨k4.os, k4.tape, k4.output, k4.size, k4.block⟩
      have B4 := hide (B3.out.turn (Turn.of_below (fun _ => False) k4) id)
      have R4 := hide (R3.out.below k4)
      have D4 := hide (D3.out.below k4)
      have o4 : OwnN w4 w2.heap.size u4 (((X.drop 0).map (·.1)).map fun n : Nat => (n : Int)) := by rw [List.map_map]; exact o4
      have O4 := hide o4
      have K4 := hide k4
      have hm4 : Hid (((X.drop 0).map (·.1)).length ≤ 1073741824) := hide (by rw [List.length_map, List.length_drop, HX1.out]; omega)
      clear o4 k4 r0 r2 r3
      go_wp2_with fail
      refine (premove_any _ F G dp l room s ⟨X.map segP, nx⟩ L u4 w2.heap.size ((X.drop 0).map (·.1)) ⟨D4.out, ⟨_, X, rfl, R4.out.log B4.out HGL.out (fun q hq => by have := HGW.out q hq; have := T3.out.size; have := K4.out.size; omega)⟩, AP3.out⟩ hs O4.out (fun q hq hf => by have := (World.ownsRow.lt O4.out q hq).1; have := D3.out.low q hf; omega) HL1.out hm4.out).mono ?_
      rintro e w5 ⟨rfl, F5, b5, n5⟩
      have hnl5 : ¬ F l := fun hf => AP3.out l hf HGL.out
      have B5 := hide (B4.out.turn n5.turn hnl5)
      have R5 := hide (R4.out.turn n5.turn (fun q hg hf => AP3.out q hf hg))
      have D5 := hide b5.disk
      have AP5 := hide b5.apart
      have T5 := hide ((T3.out.then (Turn.of_below (fun _ => False) K4.out) (fun _ => False.elim)).then n5.turn (fun q hq => (FF3.out q hq).imp .inl id))
      have FF5 := hide (fun q (hq : F5 q) => (n5.foot q hq).elim (fun h => FF3.out q h) (fun h => .inr (by have := T3.out.size; have := K4.out.size; omega)))
      have z2 : w5.cell? ⟨l, 2, none⟩ = some (.slice (some ⟨gS, 0, none⟩) 0 cS) := B5.out.cell 2
      have zf := B5.out.frozen 2
      have hl5 := cell_lt z2
      clear b5 n5 hnl5
      go_wp2_with fail
      refine Ways.start (fun W => W.cell? ⟨l, 2, none⟩ = some (.slice (some ⟨gS, 0, none⟩) 0 cS)) 14 15 #[false, false, false, false, false, false, false, false, false, false, false, false, false, false, false] (by kernel_rfl) (by kernel_rfl) (by kernel_rfl) ?_
      have hHeld : w5.drew.cell? ⟨l, 2, none⟩ = some (.slice (some ⟨gS, 0, none⟩) 0 cS) := z2
      refine' Ways.take (i := 0) (oi := ⟨_, _, _, _, _, _⟩) (v := _) rfl (by kernel_rfl) (by kernel_rfl) (by kernel_rfl) (by kernel_rfl) (fun _ _ _ h => h) hHeld (Or.inl ⟨rfl, ?_⟩) ?_
      rotate_left
      · (intro W hW; (try dsimp only at hW); go_simp; (try with_reducible rfl))
      try simp only [Act.put, List.setIfInBounds_toArray, List.set_cons_zero, List.set_cons_succ]
      refine' Ways.take (i := 1) (oi := ⟨_, _, _, _, _, _⟩) (v := _) rfl (by kernel_rfl) (by kernel_rfl) (by kernel_rfl) (by kernel_rfl) (fun _ _ _ h => h) hHeld (Or.inl ⟨rfl, ?_⟩) ?_
      rotate_left
      · (intro W hW; (try dsimp only at hW); go_simp; (try with_reducible rfl))
      try simp only [Act.put, List.setIfInBounds_toArray, List.set_cons_zero, List.set_cons_succ]
      refine' Ways.take (i := 2) (oi := ⟨_, _, _, _, _, _⟩) (v := _) rfl (by kernel_rfl) (by kernel_rfl) (by kernel_rfl) (by kernel_rfl) (fun _ _ _ h => h) hHeld (Or.inl ⟨rfl, ?_⟩) ?_
      rotate_left
      · (intro W hW; (try dsimp only at hW); go_simp; (try with_reducible rfl))
      try simp only [Act.put, List.setIfInBounds_toArray, List.set_cons_zero, List.set_cons_succ]
      refine' Ways.take (i := 3) (oi := ⟨_, _, _, _, _, _⟩) (v := _) rfl (by kernel_rfl) (by kernel_rfl) (by kernel_rfl) (by kernel_rfl) (fun _ _ _ h => h) hHeld (Or.inl ⟨rfl, ?_⟩) ?_
      rotate_left
      · (intro W hW; (try dsimp only at hW); go_simp; (try with_reducible rfl))
      try simp only [Act.put, List.setIfInBounds_toArray, List.set_cons_zero, List.set_cons_succ]
      refine' Ways.take (i := 4) (oi := ⟨_, _, _, _, _, _⟩) (v := _) rfl (by kernel_rfl) (by kernel_rfl) (by kernel_rfl) (by kernel_rfl) (fun _ _ _ h => h) hHeld (Or.inl ⟨rfl, ?_⟩) ?_
      rotate_left
      · (intro W hW; (try dsimp only at hW); go_simp; (try with_reducible rfl))
      try simp only [Act.put, List.setIfInBounds_toArray, List.set_cons_zero, List.set_cons_succ]
      refine' Ways.take (i := 5) (oi := ⟨_, _, _, _, _, _⟩) (v := _) rfl (by kernel_rfl) (by kernel_rfl) (by kernel_rfl) (by kernel_rfl) (fun _ _ _ h => h) hHeld (Or.inl ⟨rfl, ?_⟩) ?_
      rotate_left
      · (intro W hW; (try dsimp only at hW); go_simp; (try with_reducible rfl))
      try simp only [Act.put, List.setIfInBounds_toArray, List.set_cons_zero, List.set_cons_succ]
      refine' Ways.take (i := 6) (oi := ⟨_, _, _, _, _, _⟩) (v := _) rfl (by kernel_rfl) (by kernel_rfl) (by kernel_rfl) (by kernel_rfl) (fun _ _ _ h => h) hHeld (Or.inl ⟨rfl, ?_⟩) ?_
      rotate_left
      · (intro W hW; (try dsimp only at hW); go_simp; (try with_reducible rfl))
      try simp only [Act.put, List.setIfInBounds_toArray, List.set_cons_zero, List.set_cons_succ]
      refine' Ways.take (i := 7) (oi := ⟨_, _, _, _, _, _⟩) (v := _) rfl (by kernel_rfl) (by kernel_rfl) (by kernel_rfl) (by kernel_rfl) (fun _ _ _ h => h) hHeld (Or.inl ⟨rfl, ?_⟩) ?_
      rotate_left
      · (intro W hW; (try dsimp only at hW); go_simp; (try with_reducible rfl))
      try simp only [Act.put, List.setIfInBounds_toArray, List.set_cons_zero, List.set_cons_succ]
      refine' Ways.take (i := 8) (oi := ⟨_, _, _, _, _, _⟩) (v := _) rfl (by kernel_rfl) (by kernel_rfl) (by kernel_rfl) (by kernel_rfl) (fun _ _ _ h => h) hHeld (Or.inl ⟨rfl, ?_⟩) ?_
      rotate_left
      · (intro W hW; (try dsimp only at hW); go_simp; (try with_reducible rfl))
      try simp only [Act.put, List.setIfInBounds_toArray, List.set_cons_zero, List.set_cons_succ]
      refine' Ways.take (i := 9) (oi := ⟨_, _, _, _, _, _⟩) (v := _) rfl (by kernel_rfl) (by kernel_rfl) (by kernel_rfl) (by kernel_rfl) (fun _ _ _ h => h) hHeld (Or.inl ⟨rfl, ?_⟩) ?_
      rotate_left
      · (intro W hW; (try dsimp only at hW); go_simp; (try with_reducible rfl))
      try simp only [Act.put, List.setIfInBounds_toArray, List.set_cons_zero, List.set_cons_succ]
      refine' Ways.take (i := 10) (oi := ⟨_, _, _, _, _, _⟩) (v := _) rfl (by kernel_rfl) (by kernel_rfl) (by kernel_rfl) (by kernel_rfl) (fun _ _ _ h => h) hHeld (Or.inl ⟨rfl, ?_⟩) ?_
      rotate_left
      · (intro W hW; (try dsimp only at hW); go_simp; (try with_reducible rfl))
      try simp only [Act.put, List.setIfInBounds_toArray, List.set_cons_zero, List.set_cons_succ]
      refine Ways.one (i := 11) (by kernel_rfl) rfl (fun K hK => ?_)
      go_simp
      go_at_call 109
      refine (del_segs_same (some ⟨gS, 0, none⟩) 0 cS 0 w5.drew (Nat.le_refl _) hlc hc63 (fun h => by cases h) (fun a h => ⟨gS, (Option.some.inj h).symm⟩)).mono ?_
      rintro e w6 ⟨rfl, k6⟩
      have k6 : Below w5.heap.size w5 w6 := ⟨k6.os, k6.tape, k6.output, k6.size, k6.block⟩
      have hXt : X.take 0 = X := List.take_of_length_le (by have := HX1.out; omega)
      have R6 := hide (show PRow w6 G (.slice (some ⟨gS, 0, none⟩) 0 cS) (X.take 0) from by rw [hXt]; exact R5.out.below k6)
      have B6 := hide (B5.out.turn (Turn.of_below (fun _ => False) k6) id)
      have D6 := hide (D5.out.below k6)
      have T6 := hide (T5.out.then (Turn.of_below (fun _ => False) k6) (fun _ => False.elim))
      clear k6
      have y2 : w6.cell? ⟨l, 2, none⟩ = some (.slice (some ⟨gS, 0, none⟩) 0 cS) := B6.out.cell 2
      have yf := B6.out.frozen 2
      refine hK.out _ _ y2 ?_
      try simp only [List.setIfInBounds_toArray, List.set_cons_zero, List.set_cons_succ]
      refine Ways.one (i := 12) (by kernel_rfl) rfl (fun K3 hK3 => ?_)
      go_simp
      refine hK3.out _ _ y2 ?_
      try simp only [List.setIfInBounds_toArray, List.set_cons_zero, List.set_cons_succ]
      refine' Ways.take (i := 13) (oi := ⟨_, _, _, _, _, _⟩) (v := _) rfl (by kernel_rfl) (by kernel_rfl) (by kernel_rfl) (by kernel_rfl) (fun _ _ _ h => h) y2 (Or.inl ⟨rfl, ?_⟩) ?_
      rotate_left
      · (intro W hW; (try dsimp only at hW); go_simp; (try with_reducible rfl))
      try simp only [Act.put, List.setIfInBounds_toArray, List.set_cons_zero, List.set_cons_succ]
      refine Ways.last (by kernel_rfl) rfl (by kernel_rfl) (fun K2 hK2 => ?_)
      go_simp
      refine hK2.out _ _ ?_
      try simp only [Act.put, List.setIfInBounds_toArray, List.set_cons_zero, List.set_cons_succ]
      have b7 := B6.out.stored 2 (.slice (some ⟨gS, 0, none⟩) 0 cS)
      have x3 : (w6.setCell ⟨l, 2, none⟩ (.slice (some ⟨gS, 0, none⟩) 0 cS)).cell? ⟨l, 3, none⟩ = some (.int .i64 (nx : Int)) := b7.cell 3
      have xf := b7.frozen 3
      have hl7 := cell_lt x3
      clear hK hK2 hK3 y2 yf z2 zf
      go_wp2_with fail
      obtain ⟨wE, hwE⟩ : ∃ z, z = (w6.setCell ⟨l, 2, none⟩ (.slice (some ⟨gS, 0, none⟩) 0 cS)).setCell ⟨l, 3, none⟩ (.int .i64 (i : Int)) := ⟨_, rfl⟩
      rw [← hwE]
      have tE : Turn (fun q => q = l) w6 wE := by
        rw [hwE]
        exact ((Turn.of_grown (grown_set w6 l _ _)).mono (fun q e => Option.some.inj e)).trans ((Turn.of_grown (grown_set _ l _ _)).mono (fun q e => Option.some.inj e))
      have BE := b7.stored 3 (.int .i64 (i : Int))
      rw [← hwE] at BE
      have PE := R6.out.off tE (fun q e => by rw [e]; exact blk_off B6.out)
      have DE := D6.out.turn tE (fun q hf e => AP5.out q hf (e ▸ HGL.out))
      have TE := T6.out.then tE (fun q e => .inl (.inr (e ▸ HGL.out)))
      go_ret
      refine ⟨rfl, F5, ?_, TE, FF5.out⟩
      rw [HCUT.out X L HXS.out HLS.out]
      exact ⟨DE, ⟨_, X.take 0, rfl, PE.log BE HGL.out (fun q hq => by have := HGW.out q hq; have := TE.size; omega)⟩, AP5.out⟩
set_option maxRecDepth 100000 in
set_option maxHeartbeats 12800000 in
theorem pcut_zero (w : World) (F G : Nat → Prop) (dp l room : Nat) (s : ByteArray) (P : PLog) (L : DiskL) (i left : Nat) (h : PBoth w F G dp l room s P L) (hs : s.size ≤ 64) (hi1 : firstP P ≤ i) (hi2 : i ≤ P.next) (hnx : P.next ≤ 1099511627776)
    (hsl : P.segs.length ≤ 1073741824) (hll9 : left ≤ P.segs.length) (hr : ∀ a b (ha : a < P.segs.length) (hb : b < P.segs.length), a < b → P.segs[a].1 < P.segs[b].1) (hc : ∀ j (hj : j < P.segs.length), j < left ↔ (P.segs[j].1 : Int) < (i : Int)) (hlow : ∀ x ∈ P.segs, x.1 ≤ 1099511627776) (hX : 0 < P.segs.length) (hl0 : left = 0) :
    Calls Tryz.prog 81 #[.pointer (some ⟨l, 0, none⟩), .int .i64 (i : Int)] w fun e w' => ∃ R : PLog × DiskL, R = cutP s.data.toList i left P L ∧ e = .returned (.int .i64 0) ∧ ∃ F', PBoth w' F' G dp l room s R.1 R.2 ∧ Turn (fun k => F k ∨ G k) w w' ∧ ∀ k, F' k → F k ∨ w.heap.size ≤ k := by
  obtain ⟨segs, nx⟩ := P
  obtain ⟨hD, ⟨vS, X, e, h⟩, hap⟩ := h
  simp only at e h hi1 hi2 hnx hsl hll9 hr hc hlow hX
  have hXe : segs.length = X.length := by rw [e, List.length_map]
  have hat : ∀ j (hj : j < X.length), segs[j]'(by omega) = segP X[j] := fun j hj => by simp only [e, List.getElem_map]
  have HRE := preaches_any w G l dp s ⟨segs, nx⟩ (i : Int) ⟨vS, X, e, h⟩
  dsimp only at HRE
  rw [decide_eq_true (by omega)] at HRE
  have HRE := hide HRE
  have hrX : ∀ a b (ha : a < X.length) (hb : b < X.length), a < b → X[a].1 < X[b].1 := fun a b ha hb hab => by
    have := hr a b (by omega) (by omega) hab
    rw [hat a ha, hat b hb] at this
    exact this
  have hcX : ∀ j (hj : j < X.length), j < left ↔ (X[j].1 : Int) < (i : Int) := fun j hj => by
    have := hc j (by omega)
    rw [hat j hj] at this
    exact this
  have HAH := hide (show ∀ (W : World), Below w.heap.size w W → Calls Tryz.prog 74 #[.pointer (some ⟨l, 0, none⟩), .int .i64 (i : Int)] W fun e w' => e = .returned (.int .i64 (left : Int)) ∧ Below W.heap.size W w' from fun W k => (pahead_any W G l dp s _ X nx (i : Int) (h.below k) (by omega) hrX).mono (fun e w' => by
    rintro ⟨i2, rfl, h1, h2, h3⟩
    exact ⟨by rw [ahead_uni h1 (by omega) h2 hcX], h3⟩))
  obtain ⟨AS, cS, eS, hlc, hc63, hnil, hcell⟩ := rowP_form h.row
  subst eS
  obtain ⟨N, hN⟩ : ∃ N, N = X.length := ⟨_, rfl⟩
  have hNl : N ≤ 1073741824 := by omega
  have hlN : left ≤ N := by omega
  rw [← hN] at hlc h
  have hlowX : ∀ x ∈ X, x.1 ≤ 1099511627776 := fun x hx => hlow (segP x) (by rw [e]; exact List.mem_map.2 ⟨x, hx, rfl⟩)
  obtain ⟨gS, eA, -, hgS, -⟩ := hcell 0 (by omega)
  subst eA
  have hN1 : 0 < N := by omega
  have HGL : Hid (G l) := hide h.own
  have HGW : Hid (∀ q, G q → q < w.heap.size) := hide h.low
  have HCUT : Hid (∀ (X1 : List Sgp) (L1 : DiskL), ((X1.take left).map segP = shortA i (segs.take left) ∧ (X1.drop left).map (·.1) = (segs.drop left).map (·.1)) → L1 = shortD s.data.toList i (segs.take left) L → cutP s.data.toList i left ⟨segs, nx⟩ L = (⟨(X1.take left).map segP, i⟩, removesL s.data.toList ((X1.drop left).map (·.1)) L1)) := hide (fun X1 L1 h1 h2 => by
    unfold cutP
    rw [h1.1, h1.2, h2])
  have HD := hide hD
  have HP0 := hide h.prow
  have HB0 := hide h.cells
  have HAP := hide hap
  have HN := hide hN
  have HE := hide e
  have HLX := hide hlowX
  have c2 : w.cell? ⟨l, 2, none⟩ = some (.slice (some ⟨gS, 0, none⟩) N cS) := h.cells.cell 2
  have hll := cell_lt c2
  clear hD h hap hXe hat hrX hcX hr hc hlow hlowX hll9 hi1 hi2 hN e hcell hsl hX hnil hgS
  have hlz : ¬ (0 : Int) < (left : Int) := by omega
  go_enter Tryz.func81, Tryz.ntmps81
  go_wp2_with fail
  refine HRE.out.mono ?_
  rintro e w1 ⟨rfl, d1, rfl⟩
  have kd1 : Below w.heap.size w (w.drewN d1) := below_drewN (Below.refl _ _) d1
  go_wp2_with fail
  refine (HAH.out _ kd1).mono ?_
  rintro e w2 ⟨rfl, k2⟩
  have K2 := below_step kd1 k2
  have B3 := hide (HB0.out.turn (Turn.of_below (fun _ => False) K2) id)
  have R3 := hide (HP0.out.below K2)
  have D3 := hide (HD.out.below K2)
  have T3 : Hid (Turn (fun q => F q ∨ G q) w w2) := hide (Turn.of_below _ K2)
  have FF3 : Hid (∀ q, F q → F q ∨ w.heap.size ≤ q) := hide (fun q hq => .inl hq)
  have AP3 := HAP
  have HX1 : Hid (X.length = N) := hide HN.out.symm
  have HL0 := hide hl0
  have HXS : Hid ((X.take left).map segP = shortA i (segs.take left) ∧ (X.drop left).map (·.1) = (segs.drop left).map (·.1)) := hide (by rw [HL0.out]; exact ⟨rfl, by rw [HE.out, List.drop_zero, List.drop_zero, List.map_map]; rfl⟩)
  have HLS : Hid (L = shortD s.data.toList i (segs.take left) L) := hide (by rw [HL0.out]; rfl)
  have HL1 : Hid (∀ n ∈ (X.drop left).map (·.1), n ≤ 1099511627776) := hide (fun n hn => by obtain ⟨x, hx, rfl⟩ := List.mem_map.1 hn; exact HLX.out x (List.mem_of_mem_drop hx))
  have hcl : ¬ cS = left := by omega
  have hlN2 : (left : Int) ≤ (N : Int) := by omega
  have hlc2 : (left : Int) ≤ (cS : Int) := by omega
  have hl00 : (0 : Int) ≤ (left : Int) := by omega
  clear k2 kd1 K2 c2 hl0
  have r0 : w2.cell? ⟨l, 0, none⟩ = some (.pointer (some ⟨dp, 0, none⟩)) := B3.out.cell 0
  have r2 : w2.cell? ⟨l, 2, none⟩ = some (.slice (some ⟨gS, 0, none⟩) N cS) := B3.out.cell 2
  have r3 : w2.cell? ⟨l, 3, none⟩ = some (.int .i64 (nx : Int)) := B3.out.cell 3
  have hl3 := cell_lt r0
  go_wp2_with fail
  refine (pfirstsO_any _ (some ⟨gS, left * 3, none⟩) (N - left) (cS - left) (X.drop left) (by rw [List.length_drop, HX1.out]) (by omega) (by have h9 := R3.out.cellsO left N; rw [takeN X left N (by rw [HX1.out]; exact Nat.le_refl _)] at h9; exact h9) (by omega) (fun x hx => R3.out.forms x (List.mem_of_mem_drop hx))).mono ?_
  rintro e w4 ⟨u4, rfl, o4, k4⟩
  have k4 : Below w2.heap.size w2 w4 := ⟨k4.os, k4.tape, k4.output, k4.size, k4.block⟩
  have B4 := hide (B3.out.turn (Turn.of_below (fun _ => False) k4) id)
  have R4 := hide (R3.out.below k4)
  have D4 := hide (D3.out.below k4)
  have o4 : OwnN w4 w2.heap.size u4 (((X.drop left).map (·.1)).map fun n : Nat => (n : Int)) := by rw [List.map_map]; exact o4
  have O4 := hide o4
  have K4 := hide k4
  have hm4 : Hid (((X.drop left).map (·.1)).length ≤ 1073741824) := hide (by rw [List.length_map, List.length_drop, HX1.out]; omega)
  clear o4 k4 r0 r2 r3
  go_wp2_with fail
  refine (premove_any _ F G dp l room s ⟨X.map segP, nx⟩ L u4 w2.heap.size ((X.drop left).map (·.1)) ⟨D4.out, ⟨_, X, rfl, R4.out.log B4.out HGL.out (fun q hq => by have := HGW.out q hq; have := T3.out.size; have := K4.out.size; omega)⟩, AP3.out⟩ hs O4.out (fun q hq hf => by have := (World.ownsRow.lt O4.out q hq).1; have := D3.out.low q hf; omega) HL1.out hm4.out).mono ?_
  rintro e w5 ⟨rfl, F5, b5, n5⟩
  have hnl5 : ¬ F l := fun hf => AP3.out l hf HGL.out
  have B5 := hide (B4.out.turn n5.turn hnl5)
  have R5 := hide (R4.out.turn n5.turn (fun q hg hf => AP3.out q hf hg))
  have D5 := hide b5.disk
  have AP5 := hide b5.apart
  have T5 := hide ((T3.out.then (Turn.of_below (fun _ => False) K4.out) (fun _ => False.elim)).then n5.turn (fun q hq => (FF3.out q hq).imp .inl id))
  have FF5 := hide (fun q (hq : F5 q) => (n5.foot q hq).elim (fun h => FF3.out q h) (fun h => .inr (by have := T3.out.size; have := K4.out.size; omega)))
  have z2 : w5.cell? ⟨l, 2, none⟩ = some (.slice (some ⟨gS, 0, none⟩) N cS) := B5.out.cell 2
  have zf := B5.out.frozen 2
  have hl5 := cell_lt z2
  clear b5 n5 hnl5
  go_wp2_with fail
  refine Ways.start (fun W => W.cell? ⟨l, 2, none⟩ = some (.slice (some ⟨gS, 0, none⟩) N cS)) 14 15 #[false, false, false, false, false, false, false, false, false, false, false, false, false, false, false] (by kernel_rfl) (by kernel_rfl) (by kernel_rfl) ?_
  have hHeld : w5.drew.cell? ⟨l, 2, none⟩ = some (.slice (some ⟨gS, 0, none⟩) N cS) := z2
  refine' Ways.take (i := 0) (oi := ⟨_, _, _, _, _, _⟩) (v := _) rfl (by kernel_rfl) (by kernel_rfl) (by kernel_rfl) (by kernel_rfl) (fun _ _ _ h => h) hHeld (Or.inl ⟨rfl, ?_⟩) ?_
  rotate_left
  · (intro W hW; (try dsimp only at hW); go_simp; (try with_reducible rfl))
  try simp only [Act.put, List.setIfInBounds_toArray, List.set_cons_zero, List.set_cons_succ]
  refine' Ways.take (i := 1) (oi := ⟨_, _, _, _, _, _⟩) (v := _) rfl (by kernel_rfl) (by kernel_rfl) (by kernel_rfl) (by kernel_rfl) (fun _ _ _ h => h) hHeld (Or.inl ⟨rfl, ?_⟩) ?_
  rotate_left
  · (intro W hW; (try dsimp only at hW); go_simp; (try with_reducible rfl))
  try simp only [Act.put, List.setIfInBounds_toArray, List.set_cons_zero, List.set_cons_succ]
  refine' Ways.take (i := 2) (oi := ⟨_, _, _, _, _, _⟩) (v := _) rfl (by kernel_rfl) (by kernel_rfl) (by kernel_rfl) (by kernel_rfl) (fun _ _ _ h => h) hHeld (Or.inl ⟨rfl, ?_⟩) ?_
  rotate_left
  · (intro W hW; (try dsimp only at hW); go_simp; (try with_reducible rfl))
  try simp only [Act.put, List.setIfInBounds_toArray, List.set_cons_zero, List.set_cons_succ]
  refine' Ways.take (i := 3) (oi := ⟨_, _, _, _, _, _⟩) (v := _) rfl (by kernel_rfl) (by kernel_rfl) (by kernel_rfl) (by kernel_rfl) (fun _ _ _ h => h) hHeld (Or.inl ⟨rfl, ?_⟩) ?_
  rotate_left
  · (intro W hW; (try dsimp only at hW); go_simp; (try with_reducible rfl))
  try simp only [Act.put, List.setIfInBounds_toArray, List.set_cons_zero, List.set_cons_succ]
  refine' Ways.take (i := 4) (oi := ⟨_, _, _, _, _, _⟩) (v := _) rfl (by kernel_rfl) (by kernel_rfl) (by kernel_rfl) (by kernel_rfl) (fun _ _ _ h => h) hHeld (Or.inl ⟨rfl, ?_⟩) ?_
  rotate_left
  · (intro W hW; (try dsimp only at hW); go_simp; (try with_reducible rfl))
  try simp only [Act.put, List.setIfInBounds_toArray, List.set_cons_zero, List.set_cons_succ]
  refine' Ways.take (i := 5) (oi := ⟨_, _, _, _, _, _⟩) (v := _) rfl (by kernel_rfl) (by kernel_rfl) (by kernel_rfl) (by kernel_rfl) (fun _ _ _ h => h) hHeld (Or.inl ⟨rfl, ?_⟩) ?_
  rotate_left
  · (intro W hW; (try dsimp only at hW); go_simp; (try with_reducible rfl))
  try simp only [Act.put, List.setIfInBounds_toArray, List.set_cons_zero, List.set_cons_succ]
  refine' Ways.take (i := 6) (oi := ⟨_, _, _, _, _, _⟩) (v := _) rfl (by kernel_rfl) (by kernel_rfl) (by kernel_rfl) (by kernel_rfl) (fun _ _ _ h => h) hHeld (Or.inl ⟨rfl, ?_⟩) ?_
  rotate_left
  · (intro W hW; (try dsimp only at hW); go_simp; (try with_reducible rfl))
  try simp only [Act.put, List.setIfInBounds_toArray, List.set_cons_zero, List.set_cons_succ]
  refine' Ways.take (i := 7) (oi := ⟨_, _, _, _, _, _⟩) (v := _) rfl (by kernel_rfl) (by kernel_rfl) (by kernel_rfl) (by kernel_rfl) (fun _ _ _ h => h) hHeld (Or.inl ⟨rfl, ?_⟩) ?_
  rotate_left
  · (intro W hW; (try dsimp only at hW); go_simp; (try with_reducible rfl))
  try simp only [Act.put, List.setIfInBounds_toArray, List.set_cons_zero, List.set_cons_succ]
  refine' Ways.take (i := 8) (oi := ⟨_, _, _, _, _, _⟩) (v := _) rfl (by kernel_rfl) (by kernel_rfl) (by kernel_rfl) (by kernel_rfl) (fun _ _ _ h => h) hHeld (Or.inl ⟨rfl, ?_⟩) ?_
  rotate_left
  · (intro W hW; (try dsimp only at hW); go_simp; (try with_reducible rfl))
  try simp only [Act.put, List.setIfInBounds_toArray, List.set_cons_zero, List.set_cons_succ]
  refine' Ways.take (i := 9) (oi := ⟨_, _, _, _, _, _⟩) (v := _) rfl (by kernel_rfl) (by kernel_rfl) (by kernel_rfl) (by kernel_rfl) (fun _ _ _ h => h) hHeld (Or.inl ⟨rfl, ?_⟩) ?_
  rotate_left
  · (intro W hW; (try dsimp only at hW); go_simp; (try with_reducible rfl))
  try simp only [Act.put, List.setIfInBounds_toArray, List.set_cons_zero, List.set_cons_succ]
  refine' Ways.take (i := 10) (oi := ⟨_, _, _, _, _, _⟩) (v := _) rfl (by kernel_rfl) (by kernel_rfl) (by kernel_rfl) (by kernel_rfl) (fun _ _ _ h => h) hHeld (Or.inl ⟨rfl, ?_⟩) ?_
  rotate_left
  · (intro W hW; (try dsimp only at hW); go_simp; (try with_reducible rfl))
  try simp only [Act.put, List.setIfInBounds_toArray, List.set_cons_zero, List.set_cons_succ]
  refine Ways.one (i := 11) (by kernel_rfl) rfl (fun K hK => ?_)
  go_simp
  go_at_call 109
  have hown : w5.drew.ownsRow 0 127 3 (.slice (some ⟨gS, 0, none⟩) N cS) N (cellsP X) := by have h9 := R5.out.row; rw [HX1.out] at h9; exact h9
  refine (del_segs gS N cS left N left _ w5.drew hown (cellsP_ones X R5.out.each) (by omega) (Nat.le_refl _) (by omega) hlc hc63).mono ?_
  rintro e w6 ⟨rfl, o6, g6⟩
  have o6 : w6.ownsRow 0 127 3 (.slice (some ⟨gS, 0, none⟩) left cS) (X.take left).length (cellsP (X.take left)) := by
    rw [cellsP_take, cellsP_drop, List.drop_of_length_le (by rw [HX1.out]; exact Nat.le_refl _)] at o6
    have hl : (X.take left).length = left := by rw [List.length_take, HX1.out]; omega
    rw [hl]
    simpa [cellsP] using o6
  have g6 : w5.grownBy w6 (some gS) := ⟨g6.os, g6.tape, g6.output, g6.size, g6.block⟩
  have t6 : Turn (fun q => q = gS) w5 w6 := (Turn.of_grown g6).mono (fun q e => Option.some.inj e)
  have hgl : ¬ l = gS := fun e => ownsRow_notIn R5.out.row B5.out (by decide) (by rw [e]; rfl)
  have R6 := hide (R5.out.sub o6 g6 (List.take_sublist _ _))
  have B6 := hide (B5.out.turn t6 hgl)
  have D6 := hide (D5.out.turn t6 (fun q hf e => AP5.out q hf (by rw [e]; exact R5.out.mine gS rfl)))
  have T6 := hide (T5.out.then t6 (fun q e => .inl (.inr (by rw [e]; exact R5.out.mine gS rfl))))
  clear o6 g6 t6 hown
  have y2 : w6.cell? ⟨l, 2, none⟩ = some (.slice (some ⟨gS, 0, none⟩) N cS) := B6.out.cell 2
  have yf := B6.out.frozen 2
  refine hK.out _ _ y2 ?_
  try simp only [List.setIfInBounds_toArray, List.set_cons_zero, List.set_cons_succ]
  refine Ways.one (i := 12) (by kernel_rfl) rfl (fun K3 hK3 => ?_)
  go_simp
  refine hK3.out _ _ y2 ?_
  try simp only [List.setIfInBounds_toArray, List.set_cons_zero, List.set_cons_succ]
  refine' Ways.take (i := 13) (oi := ⟨_, _, _, _, _, _⟩) (v := _) rfl (by kernel_rfl) (by kernel_rfl) (by kernel_rfl) (by kernel_rfl) (fun _ _ _ h => h) y2 (Or.inl ⟨rfl, ?_⟩) ?_
  rotate_left
  · (intro W hW; (try dsimp only at hW); go_simp; (try with_reducible rfl))
  try simp only [Act.put, List.setIfInBounds_toArray, List.set_cons_zero, List.set_cons_succ]
  refine Ways.last (by kernel_rfl) rfl (by kernel_rfl) (fun K2 hK2 => ?_)
  go_simp
  refine hK2.out _ _ ?_
  try simp only [Act.put, List.setIfInBounds_toArray, List.set_cons_zero, List.set_cons_succ]
  have b7 := B6.out.stored 2 (.slice (some ⟨gS, 0, none⟩) left cS)
  have x3 : (w6.setCell ⟨l, 2, none⟩ (.slice (some ⟨gS, 0, none⟩) left cS)).cell? ⟨l, 3, none⟩ = some (.int .i64 (nx : Int)) := b7.cell 3
  have xf := b7.frozen 3
  have hl7 := cell_lt x3
  clear hK hK2 hK3 y2 yf z2 zf
  go_wp2_with fail
  obtain ⟨wE, hwE⟩ : ∃ z, z = (w6.setCell ⟨l, 2, none⟩ (.slice (some ⟨gS, 0, none⟩) left cS)).setCell ⟨l, 3, none⟩ (.int .i64 (i : Int)) := ⟨_, rfl⟩
  rw [← hwE]
  have tE : Turn (fun q => q = l) w6 wE := by
    rw [hwE]
    exact ((Turn.of_grown (grown_set w6 l _ _)).mono (fun q e => Option.some.inj e)).trans ((Turn.of_grown (grown_set _ l _ _)).mono (fun q e => Option.some.inj e))
  have BE := b7.stored 3 (.int .i64 (i : Int))
  rw [← hwE] at BE
  have PE := R6.out.off tE (fun q e => by rw [e]; exact blk_off B6.out)
  have DE := D6.out.turn tE (fun q hf e => AP5.out q hf (e ▸ HGL.out))
  have TE := T6.out.then tE (fun q e => .inl (.inr (e ▸ HGL.out)))
  go_ret
  refine ⟨rfl, F5, ?_, TE, FF5.out⟩
  rw [HCUT.out X L HXS.out HLS.out]
  exact ⟨DE, ⟨_, X.take left, rfl, PE.log BE HGL.out (fun q hq => by have := HGW.out q hq; have := TE.size; omega)⟩, AP5.out⟩
set_option maxRecDepth 100000 in
set_option maxHeartbeats 12800000 in
theorem pcut_keep (w : World) (F G : Nat → Prop) (dp l room : Nat) (s : ByteArray) (P : PLog) (L : DiskL) (i left : Nat) (h : PBoth w F G dp l room s P L) (hs : s.size ≤ 64) (hi1 : firstP P ≤ i) (hi2 : i ≤ P.next) (hnx : P.next ≤ 1099511627776)
    (hsl : P.segs.length ≤ 1073741824) (hll9 : left ≤ P.segs.length) (hr : ∀ a b (ha : a < P.segs.length) (hb : b < P.segs.length), a < b → P.segs[a].1 < P.segs[b].1) (hc : ∀ j (hj : j < P.segs.length), j < left ↔ (P.segs[j].1 : Int) < (i : Int)) (hlow : ∀ x ∈ P.segs, x.1 ≤ 1099511627776) (x : Sgf) (hx : (P.segs.take left).getLast? = some x) (hie : x.1 + x.2.1.length ≤ i) (hxl : x.2.1.length ≤ 1073741824) :
    Calls Tryz.prog 81 #[.pointer (some ⟨l, 0, none⟩), .int .i64 (i : Int)] w fun e w' => ∃ R : PLog × DiskL, R = cutP s.data.toList i left P L ∧ e = .returned (.int .i64 0) ∧ ∃ F', PBoth w' F' G dp l room s R.1 R.2 ∧ Turn (fun k => F k ∨ G k) w w' ∧ ∀ k, F' k → F k ∨ w.heap.size ≤ k := by
  obtain ⟨segs, nx⟩ := P
  obtain ⟨hD, ⟨vS, X, e, h⟩, hap⟩ := h
  simp only at e h hi1 hi2 hnx hsl hll9 hr hc hlow hx
  have hXe : segs.length = X.length := by rw [e, List.length_map]
  have hat : ∀ j (hj : j < X.length), segs[j]'(by omega) = segP X[j] := fun j hj => by simp only [e, List.getElem_map]
  have HRE := preaches_any w G l dp s ⟨segs, nx⟩ (i : Int) ⟨vS, X, e, h⟩
  dsimp only at HRE
  rw [decide_eq_true (by omega)] at HRE
  have HRE := hide HRE
  have hrX : ∀ a b (ha : a < X.length) (hb : b < X.length), a < b → X[a].1 < X[b].1 := fun a b ha hb hab => by
    have := hr a b (by omega) (by omega) hab
    rw [hat a ha, hat b hb] at this
    exact this
  have hcX : ∀ j (hj : j < X.length), j < left ↔ (X[j].1 : Int) < (i : Int) := fun j hj => by
    have := hc j (by omega)
    rw [hat j hj] at this
    exact this
  have HAH := hide (show ∀ (W : World), Below w.heap.size w W → Calls Tryz.prog 74 #[.pointer (some ⟨l, 0, none⟩), .int .i64 (i : Int)] W fun e w' => e = .returned (.int .i64 (left : Int)) ∧ Below W.heap.size W w' from fun W k => (pahead_any W G l dp s _ X nx (i : Int) (h.below k) (by omega) hrX).mono (fun e w' => by
    rintro ⟨i2, rfl, h1, h2, h3⟩
    exact ⟨by rw [ahead_uni h1 (by omega) h2 hcX], h3⟩))
  obtain ⟨AS, cS, eS, hlc, hc63, hnil, hcell⟩ := rowP_form h.row
  subst eS
  obtain ⟨N, hN⟩ : ∃ N, N = X.length := ⟨_, rfl⟩
  have hNl : N ≤ 1073741824 := by omega
  have hlN : left ≤ N := by omega
  rw [← hN] at hlc h
  have hlowX : ∀ x ∈ X, x.1 ≤ 1099511627776 := fun x hx => hlow (segP x) (by rw [e]; exact List.mem_map.2 ⟨x, hx, rfl⟩)
  have hparts : ∃ Y y Z, X = Y ++ y :: Z ∧ Y.length + 1 = left ∧ segP y = x := by
    have h0 : 0 < left := by
      rcases Nat.eq_zero_or_pos left with q | q
      · rw [q] at hx
        cases hx
      · exact q
    have hj : left - 1 < X.length := by omega
    refine ⟨X.take (left - 1), X[left - 1], X.drop left, ?_, by rw [List.length_take]; omega, ?_⟩
    · have := (List.drop_eq_getElem_cons hj)
      rw [show left - 1 + 1 = left by omega] at this
      rw [← this, List.take_append_drop]
    · rw [List.getLast?_eq_getElem?, List.length_take, show min left segs.length - 1 = left - 1 by omega, List.getElem?_take_of_lt (by omega), List.getElem?_eq_getElem (by omega)] at hx
      rw [← hat _ hj]
      exact Option.some.inj hx
  obtain ⟨Y, y, Z, hXY, hYl, hyx⟩ := hparts
  obtain ⟨f, vE, b, es⟩ := y
  subst hyx
  obtain ⟨k, hk⟩ : ∃ k, k = Y.length := ⟨_, rfl⟩
  have hkl : left = k + 1 := by omega
  have hkN : k < N := by omega
  obtain ⟨gS, eA, -, hgS, q0, q1, -, qf⟩ := hcell k (by omega)
  subst eA
  have hXk : X[k]'(by omega) = (f, vE, b, es) := by
    simp only [hXY, hk]
    rw [List.getElem_append_right (Nat.le_refl _)]
    simp
  rw [hXk] at q0 q1
  have hfl : f ≤ 1099511627776 := hlowX (f, vE, b, es) (by rw [hXY]; simp)
  have hms : (left : Int) - 1 = (k : Int) := by omega
  have hkw : IntKind.i64.wrap (k : Int) = (k : Int) := by rw [IntKind.wrap_i64]; omega
  have hl0 : (0 : Int) < (left : Int) := by omega
  have hkN2 : (k : Int) < (N : Int) := by omega
  have hk0 : (0 : Int) ≤ (k : Int) := by omega
  have hxi : f < i := by
    have := (hcX k (by omega)).1 (by omega)
    rw [hXk] at this
    have this : (f : Int) < (i : Int) := this
    omega
  have HGL : Hid (G l) := hide h.own
  have HGW : Hid (∀ q, G q → q < w.heap.size) := hide h.low
  have HCUT : Hid (∀ (X1 : List Sgp) (L1 : DiskL), ((X1.take left).map segP = shortA i (segs.take left) ∧ (X1.drop left).map (·.1) = (segs.drop left).map (·.1)) → L1 = shortD s.data.toList i (segs.take left) L → cutP s.data.toList i left ⟨segs, nx⟩ L = (⟨(X1.take left).map segP, i⟩, removesL s.data.toList ((X1.drop left).map (·.1)) L1)) := hide (fun X1 L1 h1 h2 => by
    unfold cutP
    rw [h1.1, h1.2, h2])
  have HD := hide hD
  have HP0 := hide h.prow
  have HB0 := hide h.cells
  have HAP := hide hap
  have HN := hide hN
  have HE := hide e
  have HLX := hide hlowX
  have HXY := hide hXY
  have HYK := hide hk
  have c2 : w.cell? ⟨l, 2, none⟩ = some (.slice (some ⟨gS, 0, none⟩) N cS) := h.cells.cell 2
  have hll := cell_lt c2
  have HHX := hide hx
  clear hD h hap hXe hat hrX hcX hr hc hlow hlowX hll9 hi1 hi2 hN e hcell hsl hx hXk hnil hXY hk qf
  have hTL : X.take left = Y ++ [(f, vE, b, es)] ∧ X.drop left = Z := by
    rw [HXY.out, hkl, HYK.out]
    constructor
    · rw [show Y ++ (f, vE, b, es) :: Z = (Y ++ [(f, vE, b, es)]) ++ Z by simp, List.take_left' (by simp)]
    · rw [show Y ++ (f, vE, b, es) :: Z = (Y ++ [(f, vE, b, es)]) ++ Z by simp, List.drop_left' (by simp)]
  have hST : segs.take left = (Y.map segP) ++ [(f, es, b)] ∧ segs.drop left = Z.map segP := by
    rw [HE.out, ← List.map_take, ← List.map_drop, hTL.1, hTL.2, List.map_append]
    exact ⟨rfl, rfl⟩
  have HTL := hide hTL
  have HST := hide hST
  have HE0 := HP0.out.each (f, vE, b, es) (by rw [HXY.out]; simp)
  dsimp only at HE0 hie hxl q0 q1
  have hie : f + es.length ≤ i := hie
  obtain ⟨AE, cE, eE, hEl, hEm, -⟩ := HE0.form
  have HKL := hide hkl
  have hne : es.length ≤ 1073741824 := hxl
  have HIE := hide hie
  have hgS2 := hgS
  clear hTL hST hkl hie HHX hxl HE0
  go_enter Tryz.func81, Tryz.ntmps81
  go_wp2_with fail
  refine HRE.out.mono ?_
  rintro e w1 ⟨rfl, d1, rfl⟩
  have kd1 : Below w.heap.size w (w.drewN d1) := below_drewN (Below.refl _ _) d1
  go_wp2_with fail
  refine (HAH.out _ kd1).mono ?_
  rintro e w2 ⟨rfl, k2⟩
  have K2 := below_step kd1 k2
  have p2 := (K2.cell (p := ⟨l, 2, none⟩) hll).trans c2
  have p0 := (K2.cell (p := ⟨gS, k * 3, none⟩) hgS2).trans q0
  have p1 := (K2.cell (p := ⟨gS, k * 3 + 1, none⟩) hgS2).trans q1
  have KK2 := hide K2
  clear k2 kd1 K2 c2 q0 q1
  go_wp2_with fail
  subst eE
  refine (pshort_none w2 l gS k f es.length cE i AE p0 p1 hfl (by omega) HIE.out).mono ?_
  rintro e w3 ⟨rfl, k3⟩
  have B3 := hide (HB0.out.turn (Turn.of_below (fun _ => False) (below_step KK2.out k3)) id)
  have R3 := hide (HP0.out.below (below_step KK2.out k3))
  have D3 := hide (HD.out.below (below_step KK2.out k3))
  have T3 : Hid (Turn (fun q => F q ∨ G q) w w3) := hide (Turn.of_below _ (below_step KK2.out k3))
  have FF3 : Hid (∀ q, F q → F q ∨ w.heap.size ≤ q) := hide (fun q hq => .inl hq)
  have AP3 := HAP
  have HXS : Hid ((X.take left).map segP = shortA i (segs.take left) ∧ (X.drop left).map (·.1) = (segs.drop left).map (·.1)) := hide (by
    rw [HST.out.1, HST.out.2, HTL.out.1, HTL.out.2]
    unfold shortA
    rw [List.getLast?_concat]
    dsimp only
    rw [List.dropLast_concat]
    unfold shortS
    rw [if_neg (by have := HIE.out; show ¬ i < f + es.length; omega), List.map_append, List.map_map]
    exact ⟨rfl, rfl⟩)
  have HLS : Hid (L = shortD s.data.toList i (segs.take left) L) := hide (by
    rw [HST.out.1]
    unfold shortD
    rw [List.getLast?_concat]
    dsimp only
    rw [if_neg (by have := HIE.out; omega)])
  have HL1 : Hid (∀ n ∈ (X.drop left).map (·.1), n ≤ 1099511627776) := hide (fun n hn => by obtain ⟨x, hx, rfl⟩ := List.mem_map.1 hn; exact HLX.out x (List.mem_of_mem_drop hx))
  clear k3
  have hX1 : Hid (X.length = N) := hide (by exact HN.out.symm)
  have HX1 := hX1
  have hcs : left ≤ cS := by omega
  have hlN2 : (left : Int) ≤ (N : Int) := by omega
  have hlc2 : (left : Int) ≤ (cS : Int) := by omega
  have hl00 : (0 : Int) ≤ (left : Int) := by omega
  clear p0 p1 p2 hkN hkN2 hk0 hkw hms
  by_cases hlt : left < N
  · have hcl : ¬ cS = left := by omega
    have r0 : w3.cell? ⟨l, 0, none⟩ = some (.pointer (some ⟨dp, 0, none⟩)) := B3.out.cell 0
    have r2 : w3.cell? ⟨l, 2, none⟩ = some (.slice (some ⟨gS, 0, none⟩) N cS) := B3.out.cell 2
    have r3 : w3.cell? ⟨l, 3, none⟩ = some (.int .i64 (nx : Int)) := B3.out.cell 3
    have hl3 := cell_lt r0
    go_wp2_with fail
    refine (pfirstsO_any _ (some ⟨gS, left * 3, none⟩) (N - left) (cS - left) (X.drop left) (by rw [List.length_drop, HX1.out]) (by omega) (by have h9 := R3.out.cellsO left N; rw [takeN X left N (by rw [HX1.out]; exact Nat.le_refl _)] at h9; exact h9) (by omega) (fun x hx => R3.out.forms x (List.mem_of_mem_drop hx))).mono ?_
    rintro e w4 ⟨u4, rfl, o4, k4⟩
    have k4 : Below w3.heap.size w3 w4 := ⟨k4.os, k4.tape, k4.output, k4.size, k4.block⟩
    have B4 := hide (B3.out.turn (Turn.of_below (fun _ => False) k4) id)
    have R4 := hide (R3.out.below k4)
    have D4 := hide (D3.out.below k4)
    have o4 : OwnN w4 w3.heap.size u4 (((X.drop left).map (·.1)).map fun n : Nat => (n : Int)) := by rw [List.map_map]; exact o4
    have O4 := hide o4
    have K4 := hide k4
    have hm4 : Hid (((X.drop left).map (·.1)).length ≤ 1073741824) := hide (by rw [List.length_map, List.length_drop, HX1.out]; omega)
    clear o4 k4 r0 r2 r3
    go_wp2_with fail
    refine (premove_any _ F G dp l room s ⟨X.map segP, nx⟩ L u4 w3.heap.size ((X.drop left).map (·.1)) ⟨D4.out, ⟨_, X, rfl, R4.out.log B4.out HGL.out (fun q hq => by have := HGW.out q hq; have := T3.out.size; have := K4.out.size; omega)⟩, AP3.out⟩ hs O4.out (fun q hq hf => by have := (World.ownsRow.lt O4.out q hq).1; have := D3.out.low q hf; omega) HL1.out hm4.out).mono ?_
    rintro e w5 ⟨rfl, F5, b5, n5⟩
    have hnl5 : ¬ F l := fun hf => AP3.out l hf HGL.out
    have B5 := hide (B4.out.turn n5.turn hnl5)
    have R5 := hide (R4.out.turn n5.turn (fun q hg hf => AP3.out q hf hg))
    have D5 := hide b5.disk
    have AP5 := hide b5.apart
    have T5 := hide ((T3.out.then (Turn.of_below (fun _ => False) K4.out) (fun _ => False.elim)).then n5.turn (fun q hq => (FF3.out q hq).imp .inl id))
    have FF5 := hide (fun q (hq : F5 q) => (n5.foot q hq).elim (fun h => FF3.out q h) (fun h => .inr (by have := T3.out.size; have := K4.out.size; omega)))
    have z2 : w5.cell? ⟨l, 2, none⟩ = some (.slice (some ⟨gS, 0, none⟩) N cS) := B5.out.cell 2
    have zf := B5.out.frozen 2
    have hl5 := cell_lt z2
    clear b5 n5 hnl5
    go_wp2_with fail
    refine Ways.start (fun W => W.cell? ⟨l, 2, none⟩ = some (.slice (some ⟨gS, 0, none⟩) N cS)) 14 15 #[false, false, false, false, false, false, false, false, false, false, false, false, false, false, false] (by kernel_rfl) (by kernel_rfl) (by kernel_rfl) ?_
    have hHeld : w5.drew.cell? ⟨l, 2, none⟩ = some (.slice (some ⟨gS, 0, none⟩) N cS) := z2
    refine' Ways.take (i := 0) (oi := ⟨_, _, _, _, _, _⟩) (v := _) rfl (by kernel_rfl) (by kernel_rfl) (by kernel_rfl) (by kernel_rfl) (fun _ _ _ h => h) hHeld (Or.inl ⟨rfl, ?_⟩) ?_
    rotate_left
    · (intro W hW; (try dsimp only at hW); go_simp; (try with_reducible rfl))
    try simp only [Act.put, List.setIfInBounds_toArray, List.set_cons_zero, List.set_cons_succ]
    refine' Ways.take (i := 1) (oi := ⟨_, _, _, _, _, _⟩) (v := _) rfl (by kernel_rfl) (by kernel_rfl) (by kernel_rfl) (by kernel_rfl) (fun _ _ _ h => h) hHeld (Or.inl ⟨rfl, ?_⟩) ?_
    rotate_left
    · (intro W hW; (try dsimp only at hW); go_simp; (try with_reducible rfl))
    try simp only [Act.put, List.setIfInBounds_toArray, List.set_cons_zero, List.set_cons_succ]
    refine' Ways.take (i := 2) (oi := ⟨_, _, _, _, _, _⟩) (v := _) rfl (by kernel_rfl) (by kernel_rfl) (by kernel_rfl) (by kernel_rfl) (fun _ _ _ h => h) hHeld (Or.inl ⟨rfl, ?_⟩) ?_
    rotate_left
    · (intro W hW; (try dsimp only at hW); go_simp; (try with_reducible rfl))
    try simp only [Act.put, List.setIfInBounds_toArray, List.set_cons_zero, List.set_cons_succ]
    refine' Ways.take (i := 3) (oi := ⟨_, _, _, _, _, _⟩) (v := _) rfl (by kernel_rfl) (by kernel_rfl) (by kernel_rfl) (by kernel_rfl) (fun _ _ _ h => h) hHeld (Or.inl ⟨rfl, ?_⟩) ?_
    rotate_left
    · (intro W hW; (try dsimp only at hW); go_simp; (try with_reducible rfl))
    try simp only [Act.put, List.setIfInBounds_toArray, List.set_cons_zero, List.set_cons_succ]
    refine' Ways.take (i := 4) (oi := ⟨_, _, _, _, _, _⟩) (v := _) rfl (by kernel_rfl) (by kernel_rfl) (by kernel_rfl) (by kernel_rfl) (fun _ _ _ h => h) hHeld (Or.inl ⟨rfl, ?_⟩) ?_
    rotate_left
    · (intro W hW; (try dsimp only at hW); go_simp; (try with_reducible rfl))
    try simp only [Act.put, List.setIfInBounds_toArray, List.set_cons_zero, List.set_cons_succ]
    refine' Ways.take (i := 5) (oi := ⟨_, _, _, _, _, _⟩) (v := _) rfl (by kernel_rfl) (by kernel_rfl) (by kernel_rfl) (by kernel_rfl) (fun _ _ _ h => h) hHeld (Or.inl ⟨rfl, ?_⟩) ?_
    rotate_left
    · (intro W hW; (try dsimp only at hW); go_simp; (try with_reducible rfl))
    try simp only [Act.put, List.setIfInBounds_toArray, List.set_cons_zero, List.set_cons_succ]
    refine' Ways.take (i := 6) (oi := ⟨_, _, _, _, _, _⟩) (v := _) rfl (by kernel_rfl) (by kernel_rfl) (by kernel_rfl) (by kernel_rfl) (fun _ _ _ h => h) hHeld (Or.inl ⟨rfl, ?_⟩) ?_
    rotate_left
    · (intro W hW; (try dsimp only at hW); go_simp; (try with_reducible rfl))
    try simp only [Act.put, List.setIfInBounds_toArray, List.set_cons_zero, List.set_cons_succ]
    refine' Ways.take (i := 7) (oi := ⟨_, _, _, _, _, _⟩) (v := _) rfl (by kernel_rfl) (by kernel_rfl) (by kernel_rfl) (by kernel_rfl) (fun _ _ _ h => h) hHeld (Or.inl ⟨rfl, ?_⟩) ?_
    rotate_left
    · (intro W hW; (try dsimp only at hW); go_simp; (try with_reducible rfl))
    try simp only [Act.put, List.setIfInBounds_toArray, List.set_cons_zero, List.set_cons_succ]
    refine' Ways.take (i := 8) (oi := ⟨_, _, _, _, _, _⟩) (v := _) rfl (by kernel_rfl) (by kernel_rfl) (by kernel_rfl) (by kernel_rfl) (fun _ _ _ h => h) hHeld (Or.inl ⟨rfl, ?_⟩) ?_
    rotate_left
    · (intro W hW; (try dsimp only at hW); go_simp; (try with_reducible rfl))
    try simp only [Act.put, List.setIfInBounds_toArray, List.set_cons_zero, List.set_cons_succ]
    refine' Ways.take (i := 9) (oi := ⟨_, _, _, _, _, _⟩) (v := _) rfl (by kernel_rfl) (by kernel_rfl) (by kernel_rfl) (by kernel_rfl) (fun _ _ _ h => h) hHeld (Or.inl ⟨rfl, ?_⟩) ?_
    rotate_left
    · (intro W hW; (try dsimp only at hW); go_simp; (try with_reducible rfl))
    try simp only [Act.put, List.setIfInBounds_toArray, List.set_cons_zero, List.set_cons_succ]
    refine' Ways.take (i := 10) (oi := ⟨_, _, _, _, _, _⟩) (v := _) rfl (by kernel_rfl) (by kernel_rfl) (by kernel_rfl) (by kernel_rfl) (fun _ _ _ h => h) hHeld (Or.inl ⟨rfl, ?_⟩) ?_
    rotate_left
    · (intro W hW; (try dsimp only at hW); go_simp; (try with_reducible rfl))
    try simp only [Act.put, List.setIfInBounds_toArray, List.set_cons_zero, List.set_cons_succ]
    refine Ways.one (i := 11) (by kernel_rfl) rfl (fun K hK => ?_)
    go_simp
    go_at_call 109
    have hown : w5.drew.ownsRow 0 127 3 (.slice (some ⟨gS, 0, none⟩) N cS) N (cellsP X) := by have h9 := R5.out.row; rw [HX1.out] at h9; exact h9
    refine (del_segs gS N cS left N left _ w5.drew hown (cellsP_ones X R5.out.each) (by omega) (Nat.le_refl _) (by omega) hlc hc63).mono ?_
    rintro e w6 ⟨rfl, o6, g6⟩
    have o6 : w6.ownsRow 0 127 3 (.slice (some ⟨gS, 0, none⟩) left cS) (X.take left).length (cellsP (X.take left)) := by
      rw [cellsP_take, cellsP_drop, List.drop_of_length_le (by rw [HX1.out]; exact Nat.le_refl _)] at o6
      have hl : (X.take left).length = left := by rw [List.length_take, HX1.out]; omega
      rw [hl]
      simpa [cellsP] using o6
    have g6 : w5.grownBy w6 (some gS) := ⟨g6.os, g6.tape, g6.output, g6.size, g6.block⟩
    have t6 : Turn (fun q => q = gS) w5 w6 := (Turn.of_grown g6).mono (fun q e => Option.some.inj e)
    have hgl : ¬ l = gS := fun e => ownsRow_notIn R5.out.row B5.out (by decide) (by rw [e]; rfl)
    have R6 := hide (R5.out.sub o6 g6 (List.take_sublist _ _))
    have B6 := hide (B5.out.turn t6 hgl)
    have D6 := hide (D5.out.turn t6 (fun q hf e => AP5.out q hf (by rw [e]; exact R5.out.mine gS rfl)))
    have T6 := hide (T5.out.then t6 (fun q e => .inl (.inr (by rw [e]; exact R5.out.mine gS rfl))))
    clear o6 g6 t6 hown
    have y2 : w6.cell? ⟨l, 2, none⟩ = some (.slice (some ⟨gS, 0, none⟩) N cS) := B6.out.cell 2
    have yf := B6.out.frozen 2
    refine hK.out _ _ y2 ?_
    try simp only [List.setIfInBounds_toArray, List.set_cons_zero, List.set_cons_succ]
    refine Ways.one (i := 12) (by kernel_rfl) rfl (fun K3 hK3 => ?_)
    go_simp
    refine hK3.out _ _ y2 ?_
    try simp only [List.setIfInBounds_toArray, List.set_cons_zero, List.set_cons_succ]
    refine' Ways.take (i := 13) (oi := ⟨_, _, _, _, _, _⟩) (v := _) rfl (by kernel_rfl) (by kernel_rfl) (by kernel_rfl) (by kernel_rfl) (fun _ _ _ h => h) y2 (Or.inl ⟨rfl, ?_⟩) ?_
    rotate_left
    · (intro W hW; (try dsimp only at hW); go_simp; (try with_reducible rfl))
    try simp only [Act.put, List.setIfInBounds_toArray, List.set_cons_zero, List.set_cons_succ]
    refine Ways.last (by kernel_rfl) rfl (by kernel_rfl) (fun K2 hK2 => ?_)
    go_simp
    refine hK2.out _ _ ?_
    try simp only [Act.put, List.setIfInBounds_toArray, List.set_cons_zero, List.set_cons_succ]
    have b7 := B6.out.stored 2 (.slice (some ⟨gS, 0, none⟩) left cS)
    have x3 : (w6.setCell ⟨l, 2, none⟩ (.slice (some ⟨gS, 0, none⟩) left cS)).cell? ⟨l, 3, none⟩ = some (.int .i64 (nx : Int)) := b7.cell 3
    have xf := b7.frozen 3
    have hl7 := cell_lt x3
    clear hK hK2 hK3 y2 yf z2 zf
    go_wp2_with fail
    obtain ⟨wE, hwE⟩ : ∃ z, z = (w6.setCell ⟨l, 2, none⟩ (.slice (some ⟨gS, 0, none⟩) left cS)).setCell ⟨l, 3, none⟩ (.int .i64 (i : Int)) := ⟨_, rfl⟩
    rw [← hwE]
    have tE : Turn (fun q => q = l) w6 wE := by
      rw [hwE]
      exact ((Turn.of_grown (grown_set w6 l _ _)).mono (fun q e => Option.some.inj e)).trans ((Turn.of_grown (grown_set _ l _ _)).mono (fun q e => Option.some.inj e))
    have BE := b7.stored 3 (.int .i64 (i : Int))
    rw [← hwE] at BE
    have PE := R6.out.off tE (fun q e => by rw [e]; exact blk_off B6.out)
    have DE := D6.out.turn tE (fun q hf e => AP5.out q hf (e ▸ HGL.out))
    have TE := T6.out.then tE (fun q e => .inl (.inr (e ▸ HGL.out)))
    go_ret
    refine ⟨rfl, F5, ?_, TE, FF5.out⟩
    rw [HCUT.out X L HXS.out HLS.out]
    exact ⟨DE, ⟨_, X.take left, rfl, PE.log BE HGL.out (fun q hq => by have := HGW.out q hq; have := TE.size; omega)⟩, AP5.out⟩
  · have hln : N = left := by omega
    subst hln
    clear hlt
    by_cases hcl : cS = N
    · subst hcl
      have r0 : w3.cell? ⟨l, 0, none⟩ = some (.pointer (some ⟨dp, 0, none⟩)) := B3.out.cell 0
      have r2 : w3.cell? ⟨l, 2, none⟩ = some (.slice (some ⟨gS, 0, none⟩) cS cS) := B3.out.cell 2
      have r3 : w3.cell? ⟨l, 3, none⟩ = some (.int .i64 (nx : Int)) := B3.out.cell 3
      have hl3 := cell_lt r0
      go_wp2_with fail
      have hd0 : X.drop cS = [] := List.drop_of_length_le (by have := HX1.out; omega)
      refine (pfirstsO_any _ (some ⟨gS, 0, none⟩) 0 0 (X.drop cS) (by rw [hd0]; rfl) (by omega) (fun q hq => absurd hq (by rw [hd0]; simp)) (by omega) (fun x hx => R3.out.forms x (List.mem_of_mem_drop hx))).mono ?_
      rintro e w4 ⟨u4, rfl, o4, k4⟩
      have k4 : Below w3.heap.size w3 w4 := ⟨k4.os, k4.tape, k4.output, k4.size, k4.block⟩
      have B4 := hide (B3.out.turn (Turn.of_below (fun _ => False) k4) id)
      have R4 := hide (R3.out.below k4)
      have D4 := hide (D3.out.below k4)
      have o4 : OwnN w4 w3.heap.size u4 (((X.drop cS).map (·.1)).map fun n : Nat => (n : Int)) := by rw [List.map_map]; exact o4
      have O4 := hide o4
      have K4 := hide k4
      have hm4 : Hid (((X.drop cS).map (·.1)).length ≤ 1073741824) := hide (by rw [List.length_map, List.length_drop, HX1.out]; omega)
      clear o4 k4 r0 r2 r3
      go_wp2_with fail
      refine (premove_any _ F G dp l room s ⟨X.map segP, nx⟩ L u4 w3.heap.size ((X.drop cS).map (·.1)) ⟨D4.out, ⟨_, X, rfl, R4.out.log B4.out HGL.out (fun q hq => by have := HGW.out q hq; have := T3.out.size; have := K4.out.size; omega)⟩, AP3.out⟩ hs O4.out (fun q hq hf => by have := (World.ownsRow.lt O4.out q hq).1; have := D3.out.low q hf; omega) HL1.out hm4.out).mono ?_
      rintro e w5 ⟨rfl, F5, b5, n5⟩
      have hnl5 : ¬ F l := fun hf => AP3.out l hf HGL.out
      have B5 := hide (B4.out.turn n5.turn hnl5)
      have R5 := hide (R4.out.turn n5.turn (fun q hg hf => AP3.out q hf hg))
      have D5 := hide b5.disk
      have AP5 := hide b5.apart
      have T5 := hide ((T3.out.then (Turn.of_below (fun _ => False) K4.out) (fun _ => False.elim)).then n5.turn (fun q hq => (FF3.out q hq).imp .inl id))
      have FF5 := hide (fun q (hq : F5 q) => (n5.foot q hq).elim (fun h => FF3.out q h) (fun h => .inr (by have := T3.out.size; have := K4.out.size; omega)))
      have z2 : w5.cell? ⟨l, 2, none⟩ = some (.slice (some ⟨gS, 0, none⟩) cS cS) := B5.out.cell 2
      have zf := B5.out.frozen 2
      have hl5 := cell_lt z2
      clear b5 n5 hnl5
      go_wp2_with fail
      refine Ways.start (fun W => W.cell? ⟨l, 2, none⟩ = some (.slice (some ⟨gS, 0, none⟩) cS cS)) 14 15 #[false, false, false, false, false, false, false, false, false, false, false, false, false, false, false] (by kernel_rfl) (by kernel_rfl) (by kernel_rfl) ?_
      have hHeld : w5.drew.cell? ⟨l, 2, none⟩ = some (.slice (some ⟨gS, 0, none⟩) cS cS) := z2
      refine' Ways.take (i := 0) (oi := ⟨_, _, _, _, _, _⟩) (v := _) rfl (by kernel_rfl) (by kernel_rfl) (by kernel_rfl) (by kernel_rfl) (fun _ _ _ h => h) hHeld (Or.inl ⟨rfl, ?_⟩) ?_
      rotate_left
      · (intro W hW; (try dsimp only at hW); go_simp; (try with_reducible rfl))
      try simp only [Act.put, List.setIfInBounds_toArray, List.set_cons_zero, List.set_cons_succ]
      refine' Ways.take (i := 1) (oi := ⟨_, _, _, _, _, _⟩) (v := _) rfl (by kernel_rfl) (by kernel_rfl) (by kernel_rfl) (by kernel_rfl) (fun _ _ _ h => h) hHeld (Or.inl ⟨rfl, ?_⟩) ?_
      rotate_left
      · (intro W hW; (try dsimp only at hW); go_simp; (try with_reducible rfl))
      try simp only [Act.put, List.setIfInBounds_toArray, List.set_cons_zero, List.set_cons_succ]
      refine' Ways.take (i := 2) (oi := ⟨_, _, _, _, _, _⟩) (v := _) rfl (by kernel_rfl) (by kernel_rfl) (by kernel_rfl) (by kernel_rfl) (fun _ _ _ h => h) hHeld (Or.inl ⟨rfl, ?_⟩) ?_
      rotate_left
      · (intro W hW; (try dsimp only at hW); go_simp; (try with_reducible rfl))
      try simp only [Act.put, List.setIfInBounds_toArray, List.set_cons_zero, List.set_cons_succ]
      refine' Ways.take (i := 3) (oi := ⟨_, _, _, _, _, _⟩) (v := _) rfl (by kernel_rfl) (by kernel_rfl) (by kernel_rfl) (by kernel_rfl) (fun _ _ _ h => h) hHeld (Or.inl ⟨rfl, ?_⟩) ?_
      rotate_left
      · (intro W hW; (try dsimp only at hW); go_simp; (try with_reducible rfl))
      try simp only [Act.put, List.setIfInBounds_toArray, List.set_cons_zero, List.set_cons_succ]
      refine' Ways.take (i := 4) (oi := ⟨_, _, _, _, _, _⟩) (v := _) rfl (by kernel_rfl) (by kernel_rfl) (by kernel_rfl) (by kernel_rfl) (fun _ _ _ h => h) hHeld (Or.inl ⟨rfl, ?_⟩) ?_
      rotate_left
      · (intro W hW; (try dsimp only at hW); go_simp; (try with_reducible rfl))
      try simp only [Act.put, List.setIfInBounds_toArray, List.set_cons_zero, List.set_cons_succ]
      refine' Ways.take (i := 5) (oi := ⟨_, _, _, _, _, _⟩) (v := _) rfl (by kernel_rfl) (by kernel_rfl) (by kernel_rfl) (by kernel_rfl) (fun _ _ _ h => h) hHeld (Or.inl ⟨rfl, ?_⟩) ?_
      rotate_left
      · (intro W hW; (try dsimp only at hW); go_simp; (try with_reducible rfl))
      try simp only [Act.put, List.setIfInBounds_toArray, List.set_cons_zero, List.set_cons_succ]
      refine' Ways.take (i := 6) (oi := ⟨_, _, _, _, _, _⟩) (v := _) rfl (by kernel_rfl) (by kernel_rfl) (by kernel_rfl) (by kernel_rfl) (fun _ _ _ h => h) hHeld (Or.inl ⟨rfl, ?_⟩) ?_
      rotate_left
      · (intro W hW; (try dsimp only at hW); go_simp; (try with_reducible rfl))
      try simp only [Act.put, List.setIfInBounds_toArray, List.set_cons_zero, List.set_cons_succ]
      refine' Ways.take (i := 7) (oi := ⟨_, _, _, _, _, _⟩) (v := _) rfl (by kernel_rfl) (by kernel_rfl) (by kernel_rfl) (by kernel_rfl) (fun _ _ _ h => h) hHeld (Or.inl ⟨rfl, ?_⟩) ?_
      rotate_left
      · (intro W hW; (try dsimp only at hW); go_simp; (try with_reducible rfl))
      try simp only [Act.put, List.setIfInBounds_toArray, List.set_cons_zero, List.set_cons_succ]
      refine' Ways.take (i := 8) (oi := ⟨_, _, _, _, _, _⟩) (v := _) rfl (by kernel_rfl) (by kernel_rfl) (by kernel_rfl) (by kernel_rfl) (fun _ _ _ h => h) hHeld (Or.inl ⟨rfl, ?_⟩) ?_
      rotate_left
      · (intro W hW; (try dsimp only at hW); go_simp; (try with_reducible rfl))
      try simp only [Act.put, List.setIfInBounds_toArray, List.set_cons_zero, List.set_cons_succ]
      refine' Ways.take (i := 9) (oi := ⟨_, _, _, _, _, _⟩) (v := _) rfl (by kernel_rfl) (by kernel_rfl) (by kernel_rfl) (by kernel_rfl) (fun _ _ _ h => h) hHeld (Or.inl ⟨rfl, ?_⟩) ?_
      rotate_left
      · (intro W hW; (try dsimp only at hW); go_simp; (try with_reducible rfl))
      try simp only [Act.put, List.setIfInBounds_toArray, List.set_cons_zero, List.set_cons_succ]
      refine' Ways.take (i := 10) (oi := ⟨_, _, _, _, _, _⟩) (v := _) rfl (by kernel_rfl) (by kernel_rfl) (by kernel_rfl) (by kernel_rfl) (fun _ _ _ h => h) hHeld (Or.inl ⟨rfl, ?_⟩) ?_
      rotate_left
      · (intro W hW; (try dsimp only at hW); go_simp; (try with_reducible rfl))
      try simp only [Act.put, List.setIfInBounds_toArray, List.set_cons_zero, List.set_cons_succ]
      refine Ways.one (i := 11) (by kernel_rfl) rfl (fun K hK => ?_)
      go_simp
      go_at_call 109
      refine (del_segs_same (some ⟨gS, 0, none⟩) cS cS cS w5.drew (Nat.le_refl _) hlc hc63 (fun h => by cases h) (fun a h => ⟨gS, (Option.some.inj h).symm⟩)).mono ?_
      rintro e w6 ⟨rfl, k6⟩
      have k6 : Below w5.heap.size w5 w6 := ⟨k6.os, k6.tape, k6.output, k6.size, k6.block⟩
      have hXt : X.take cS = X := List.take_of_length_le (by have := HX1.out; omega)
      have R6 := hide (show PRow w6 G (.slice (some ⟨gS, 0, none⟩) cS cS) (X.take cS) from by rw [hXt]; exact R5.out.below k6)
      have B6 := hide (B5.out.turn (Turn.of_below (fun _ => False) k6) id)
      have D6 := hide (D5.out.below k6)
      have T6 := hide (T5.out.then (Turn.of_below (fun _ => False) k6) (fun _ => False.elim))
      clear k6
      have y2 : w6.cell? ⟨l, 2, none⟩ = some (.slice (some ⟨gS, 0, none⟩) cS cS) := B6.out.cell 2
      have yf := B6.out.frozen 2
      refine hK.out _ _ y2 ?_
      try simp only [List.setIfInBounds_toArray, List.set_cons_zero, List.set_cons_succ]
      refine Ways.one (i := 12) (by kernel_rfl) rfl (fun K3 hK3 => ?_)
      go_simp
      refine hK3.out _ _ y2 ?_
      try simp only [List.setIfInBounds_toArray, List.set_cons_zero, List.set_cons_succ]
      refine' Ways.take (i := 13) (oi := ⟨_, _, _, _, _, _⟩) (v := _) rfl (by kernel_rfl) (by kernel_rfl) (by kernel_rfl) (by kernel_rfl) (fun _ _ _ h => h) y2 (Or.inl ⟨rfl, ?_⟩) ?_
      rotate_left
      · (intro W hW; (try dsimp only at hW); go_simp; (try with_reducible rfl))
      try simp only [Act.put, List.setIfInBounds_toArray, List.set_cons_zero, List.set_cons_succ]
      refine Ways.last (by kernel_rfl) rfl (by kernel_rfl) (fun K2 hK2 => ?_)
      go_simp
      refine hK2.out _ _ ?_
      try simp only [Act.put, List.setIfInBounds_toArray, List.set_cons_zero, List.set_cons_succ]
      have b7 := B6.out.stored 2 (.slice (some ⟨gS, 0, none⟩) cS cS)
      have x3 : (w6.setCell ⟨l, 2, none⟩ (.slice (some ⟨gS, 0, none⟩) cS cS)).cell? ⟨l, 3, none⟩ = some (.int .i64 (nx : Int)) := b7.cell 3
      have xf := b7.frozen 3
      have hl7 := cell_lt x3
      clear hK hK2 hK3 y2 yf z2 zf
      go_wp2_with fail
      obtain ⟨wE, hwE⟩ : ∃ z, z = (w6.setCell ⟨l, 2, none⟩ (.slice (some ⟨gS, 0, none⟩) cS cS)).setCell ⟨l, 3, none⟩ (.int .i64 (i : Int)) := ⟨_, rfl⟩
      rw [← hwE]
      have tE : Turn (fun q => q = l) w6 wE := by
        rw [hwE]
        exact ((Turn.of_grown (grown_set w6 l _ _)).mono (fun q e => Option.some.inj e)).trans ((Turn.of_grown (grown_set _ l _ _)).mono (fun q e => Option.some.inj e))
      have BE := b7.stored 3 (.int .i64 (i : Int))
      rw [← hwE] at BE
      have PE := R6.out.off tE (fun q e => by rw [e]; exact blk_off B6.out)
      have DE := D6.out.turn tE (fun q hf e => AP5.out q hf (e ▸ HGL.out))
      have TE := T6.out.then tE (fun q e => .inl (.inr (e ▸ HGL.out)))
      go_ret
      refine ⟨rfl, F5, ?_, TE, FF5.out⟩
      rw [HCUT.out X L HXS.out HLS.out]
      exact ⟨DE, ⟨_, X.take cS, rfl, PE.log BE HGL.out (fun q hq => by have := HGW.out q hq; have := TE.size; omega)⟩, AP5.out⟩
    · skip
      have r0 : w3.cell? ⟨l, 0, none⟩ = some (.pointer (some ⟨dp, 0, none⟩)) := B3.out.cell 0
      have r2 : w3.cell? ⟨l, 2, none⟩ = some (.slice (some ⟨gS, 0, none⟩) N cS) := B3.out.cell 2
      have r3 : w3.cell? ⟨l, 3, none⟩ = some (.int .i64 (nx : Int)) := B3.out.cell 3
      have hl3 := cell_lt r0
      go_wp2_with fail
      have hd0 : X.drop N = [] := List.drop_of_length_le (by have := HX1.out; omega)
      refine (pfirstsO_any _ (some ⟨gS, N * 3, none⟩) 0 (cS - N) (X.drop N) (by rw [hd0]; rfl) (by omega) (fun q hq => absurd hq (by rw [hd0]; simp)) (by omega) (fun x hx => R3.out.forms x (List.mem_of_mem_drop hx))).mono ?_
      rintro e w4 ⟨u4, rfl, o4, k4⟩
      have k4 : Below w3.heap.size w3 w4 := ⟨k4.os, k4.tape, k4.output, k4.size, k4.block⟩
      have B4 := hide (B3.out.turn (Turn.of_below (fun _ => False) k4) id)
      have R4 := hide (R3.out.below k4)
      have D4 := hide (D3.out.below k4)
      have o4 : OwnN w4 w3.heap.size u4 (((X.drop N).map (·.1)).map fun n : Nat => (n : Int)) := by rw [List.map_map]; exact o4
      have O4 := hide o4
      have K4 := hide k4
      have hm4 : Hid (((X.drop N).map (·.1)).length ≤ 1073741824) := hide (by rw [List.length_map, List.length_drop, HX1.out]; omega)
      clear o4 k4 r0 r2 r3
      go_wp2_with fail
      refine (premove_any _ F G dp l room s ⟨X.map segP, nx⟩ L u4 w3.heap.size ((X.drop N).map (·.1)) ⟨D4.out, ⟨_, X, rfl, R4.out.log B4.out HGL.out (fun q hq => by have := HGW.out q hq; have := T3.out.size; have := K4.out.size; omega)⟩, AP3.out⟩ hs O4.out (fun q hq hf => by have := (World.ownsRow.lt O4.out q hq).1; have := D3.out.low q hf; omega) HL1.out hm4.out).mono ?_
      rintro e w5 ⟨rfl, F5, b5, n5⟩
      have hnl5 : ¬ F l := fun hf => AP3.out l hf HGL.out
      have B5 := hide (B4.out.turn n5.turn hnl5)
      have R5 := hide (R4.out.turn n5.turn (fun q hg hf => AP3.out q hf hg))
      have D5 := hide b5.disk
      have AP5 := hide b5.apart
      have T5 := hide ((T3.out.then (Turn.of_below (fun _ => False) K4.out) (fun _ => False.elim)).then n5.turn (fun q hq => (FF3.out q hq).imp .inl id))
      have FF5 := hide (fun q (hq : F5 q) => (n5.foot q hq).elim (fun h => FF3.out q h) (fun h => .inr (by have := T3.out.size; have := K4.out.size; omega)))
      have z2 : w5.cell? ⟨l, 2, none⟩ = some (.slice (some ⟨gS, 0, none⟩) N cS) := B5.out.cell 2
      have zf := B5.out.frozen 2
      have hl5 := cell_lt z2
      clear b5 n5 hnl5
      go_wp2_with fail
      refine Ways.start (fun W => W.cell? ⟨l, 2, none⟩ = some (.slice (some ⟨gS, 0, none⟩) N cS)) 14 15 #[false, false, false, false, false, false, false, false, false, false, false, false, false, false, false] (by kernel_rfl) (by kernel_rfl) (by kernel_rfl) ?_
      have hHeld : w5.drew.cell? ⟨l, 2, none⟩ = some (.slice (some ⟨gS, 0, none⟩) N cS) := z2
      refine' Ways.take (i := 0) (oi := ⟨_, _, _, _, _, _⟩) (v := _) rfl (by kernel_rfl) (by kernel_rfl) (by kernel_rfl) (by kernel_rfl) (fun _ _ _ h => h) hHeld (Or.inl ⟨rfl, ?_⟩) ?_
      rotate_left
      · (intro W hW; (try dsimp only at hW); go_simp; (try with_reducible rfl))
      try simp only [Act.put, List.setIfInBounds_toArray, List.set_cons_zero, List.set_cons_succ]
      refine' Ways.take (i := 1) (oi := ⟨_, _, _, _, _, _⟩) (v := _) rfl (by kernel_rfl) (by kernel_rfl) (by kernel_rfl) (by kernel_rfl) (fun _ _ _ h => h) hHeld (Or.inl ⟨rfl, ?_⟩) ?_
      rotate_left
      · (intro W hW; (try dsimp only at hW); go_simp; (try with_reducible rfl))
      try simp only [Act.put, List.setIfInBounds_toArray, List.set_cons_zero, List.set_cons_succ]
      refine' Ways.take (i := 2) (oi := ⟨_, _, _, _, _, _⟩) (v := _) rfl (by kernel_rfl) (by kernel_rfl) (by kernel_rfl) (by kernel_rfl) (fun _ _ _ h => h) hHeld (Or.inl ⟨rfl, ?_⟩) ?_
      rotate_left
      · (intro W hW; (try dsimp only at hW); go_simp; (try with_reducible rfl))
      try simp only [Act.put, List.setIfInBounds_toArray, List.set_cons_zero, List.set_cons_succ]
      refine' Ways.take (i := 3) (oi := ⟨_, _, _, _, _, _⟩) (v := _) rfl (by kernel_rfl) (by kernel_rfl) (by kernel_rfl) (by kernel_rfl) (fun _ _ _ h => h) hHeld (Or.inl ⟨rfl, ?_⟩) ?_
      rotate_left
      · (intro W hW; (try dsimp only at hW); go_simp; (try with_reducible rfl))
      try simp only [Act.put, List.setIfInBounds_toArray, List.set_cons_zero, List.set_cons_succ]
      refine' Ways.take (i := 4) (oi := ⟨_, _, _, _, _, _⟩) (v := _) rfl (by kernel_rfl) (by kernel_rfl) (by kernel_rfl) (by kernel_rfl) (fun _ _ _ h => h) hHeld (Or.inl ⟨rfl, ?_⟩) ?_
      rotate_left
      · (intro W hW; (try dsimp only at hW); go_simp; (try with_reducible rfl))
      try simp only [Act.put, List.setIfInBounds_toArray, List.set_cons_zero, List.set_cons_succ]
      refine' Ways.take (i := 5) (oi := ⟨_, _, _, _, _, _⟩) (v := _) rfl (by kernel_rfl) (by kernel_rfl) (by kernel_rfl) (by kernel_rfl) (fun _ _ _ h => h) hHeld (Or.inl ⟨rfl, ?_⟩) ?_
      rotate_left
      · (intro W hW; (try dsimp only at hW); go_simp; (try with_reducible rfl))
      try simp only [Act.put, List.setIfInBounds_toArray, List.set_cons_zero, List.set_cons_succ]
      refine' Ways.take (i := 6) (oi := ⟨_, _, _, _, _, _⟩) (v := _) rfl (by kernel_rfl) (by kernel_rfl) (by kernel_rfl) (by kernel_rfl) (fun _ _ _ h => h) hHeld (Or.inl ⟨rfl, ?_⟩) ?_
      rotate_left
      · (intro W hW; (try dsimp only at hW); go_simp; (try with_reducible rfl))
      try simp only [Act.put, List.setIfInBounds_toArray, List.set_cons_zero, List.set_cons_succ]
      refine' Ways.take (i := 7) (oi := ⟨_, _, _, _, _, _⟩) (v := _) rfl (by kernel_rfl) (by kernel_rfl) (by kernel_rfl) (by kernel_rfl) (fun _ _ _ h => h) hHeld (Or.inl ⟨rfl, ?_⟩) ?_
      rotate_left
      · (intro W hW; (try dsimp only at hW); go_simp; (try with_reducible rfl))
      try simp only [Act.put, List.setIfInBounds_toArray, List.set_cons_zero, List.set_cons_succ]
      refine' Ways.take (i := 8) (oi := ⟨_, _, _, _, _, _⟩) (v := _) rfl (by kernel_rfl) (by kernel_rfl) (by kernel_rfl) (by kernel_rfl) (fun _ _ _ h => h) hHeld (Or.inl ⟨rfl, ?_⟩) ?_
      rotate_left
      · (intro W hW; (try dsimp only at hW); go_simp; (try with_reducible rfl))
      try simp only [Act.put, List.setIfInBounds_toArray, List.set_cons_zero, List.set_cons_succ]
      refine' Ways.take (i := 9) (oi := ⟨_, _, _, _, _, _⟩) (v := _) rfl (by kernel_rfl) (by kernel_rfl) (by kernel_rfl) (by kernel_rfl) (fun _ _ _ h => h) hHeld (Or.inl ⟨rfl, ?_⟩) ?_
      rotate_left
      · (intro W hW; (try dsimp only at hW); go_simp; (try with_reducible rfl))
      try simp only [Act.put, List.setIfInBounds_toArray, List.set_cons_zero, List.set_cons_succ]
      refine' Ways.take (i := 10) (oi := ⟨_, _, _, _, _, _⟩) (v := _) rfl (by kernel_rfl) (by kernel_rfl) (by kernel_rfl) (by kernel_rfl) (fun _ _ _ h => h) hHeld (Or.inl ⟨rfl, ?_⟩) ?_
      rotate_left
      · (intro W hW; (try dsimp only at hW); go_simp; (try with_reducible rfl))
      try simp only [Act.put, List.setIfInBounds_toArray, List.set_cons_zero, List.set_cons_succ]
      refine Ways.one (i := 11) (by kernel_rfl) rfl (fun K hK => ?_)
      go_simp
      go_at_call 109
      refine (del_segs_same (some ⟨gS, 0, none⟩) N cS N w5.drew (Nat.le_refl _) hlc hc63 (fun h => by cases h) (fun a h => ⟨gS, (Option.some.inj h).symm⟩)).mono ?_
      rintro e w6 ⟨rfl, k6⟩
      have k6 : Below w5.heap.size w5 w6 := ⟨k6.os, k6.tape, k6.output, k6.size, k6.block⟩
      have hXt : X.take N = X := List.take_of_length_le (by have := HX1.out; omega)
      have R6 := hide (show PRow w6 G (.slice (some ⟨gS, 0, none⟩) N cS) (X.take N) from by rw [hXt]; exact R5.out.below k6)
      have B6 := hide (B5.out.turn (Turn.of_below (fun _ => False) k6) id)
      have D6 := hide (D5.out.below k6)
      have T6 := hide (T5.out.then (Turn.of_below (fun _ => False) k6) (fun _ => False.elim))
      clear k6
      have y2 : w6.cell? ⟨l, 2, none⟩ = some (.slice (some ⟨gS, 0, none⟩) N cS) := B6.out.cell 2
      have yf := B6.out.frozen 2
      refine hK.out _ _ y2 ?_
      try simp only [List.setIfInBounds_toArray, List.set_cons_zero, List.set_cons_succ]
      refine Ways.one (i := 12) (by kernel_rfl) rfl (fun K3 hK3 => ?_)
      go_simp
      refine hK3.out _ _ y2 ?_
      try simp only [List.setIfInBounds_toArray, List.set_cons_zero, List.set_cons_succ]
      refine' Ways.take (i := 13) (oi := ⟨_, _, _, _, _, _⟩) (v := _) rfl (by kernel_rfl) (by kernel_rfl) (by kernel_rfl) (by kernel_rfl) (fun _ _ _ h => h) y2 (Or.inl ⟨rfl, ?_⟩) ?_
      rotate_left
      · (intro W hW; (try dsimp only at hW); go_simp; (try with_reducible rfl))
      try simp only [Act.put, List.setIfInBounds_toArray, List.set_cons_zero, List.set_cons_succ]
      refine Ways.last (by kernel_rfl) rfl (by kernel_rfl) (fun K2 hK2 => ?_)
      go_simp
      refine hK2.out _ _ ?_
      try simp only [Act.put, List.setIfInBounds_toArray, List.set_cons_zero, List.set_cons_succ]
      have b7 := B6.out.stored 2 (.slice (some ⟨gS, 0, none⟩) N cS)
      have x3 : (w6.setCell ⟨l, 2, none⟩ (.slice (some ⟨gS, 0, none⟩) N cS)).cell? ⟨l, 3, none⟩ = some (.int .i64 (nx : Int)) := b7.cell 3
      have xf := b7.frozen 3
      have hl7 := cell_lt x3
      clear hK hK2 hK3 y2 yf z2 zf
      go_wp2_with fail
      obtain ⟨wE, hwE⟩ : ∃ z, z = (w6.setCell ⟨l, 2, none⟩ (.slice (some ⟨gS, 0, none⟩) N cS)).setCell ⟨l, 3, none⟩ (.int .i64 (i : Int)) := ⟨_, rfl⟩
      rw [← hwE]
      have tE : Turn (fun q => q = l) w6 wE := by
        rw [hwE]
        exact ((Turn.of_grown (grown_set w6 l _ _)).mono (fun q e => Option.some.inj e)).trans ((Turn.of_grown (grown_set _ l _ _)).mono (fun q e => Option.some.inj e))
      have BE := b7.stored 3 (.int .i64 (i : Int))
      rw [← hwE] at BE
      have PE := R6.out.off tE (fun q e => by rw [e]; exact blk_off B6.out)
      have DE := D6.out.turn tE (fun q hf e => AP5.out q hf (e ▸ HGL.out))
      have TE := T6.out.then tE (fun q e => .inl (.inr (e ▸ HGL.out)))
      go_ret
      refine ⟨rfl, F5, ?_, TE, FF5.out⟩
      rw [HCUT.out X L HXS.out HLS.out]
      exact ⟨DE, ⟨_, X.take N, rfl, PE.log BE HGL.out (fun q hq => by have := HGW.out q hq; have := TE.size; omega)⟩, AP5.out⟩
set_option maxRecDepth 100000 in
set_option maxHeartbeats 12800000 in
theorem pcut_short (w : World) (F G : Nat → Prop) (dp l room : Nat) (s : ByteArray) (P : PLog) (L : DiskL) (i left : Nat) (h : PBoth w F G dp l room s P L) (hs : s.size ≤ 64) (hi1 : firstP P ≤ i) (hi2 : i ≤ P.next) (hnx : P.next ≤ 1099511627776)
    (hsl : P.segs.length ≤ 1073741824) (hll9 : left ≤ P.segs.length) (hr : ∀ a b (ha : a < P.segs.length) (hb : b < P.segs.length), a < b → P.segs[a].1 < P.segs[b].1) (hc : ∀ j (hj : j < P.segs.length), j < left ↔ (P.segs[j].1 : Int) < (i : Int)) (hlow : ∀ x ∈ P.segs, x.1 ≤ 1099511627776) (x : Sgf) (hx : (P.segs.take left).getLast? = some x) (hie : i < x.1 + x.2.1.length) (hxl : x.2.1.length ≤ 1073741824) (hrl : (recsL x.1 x.2.1).length ≤ 1099511627776) (hcut : (cutL (nameL s.data.toList x.1) ((recsL x.1 (x.2.1.take (i - x.1))).length : Int) L).2 = 0) :
    Calls Tryz.prog 81 #[.pointer (some ⟨l, 0, none⟩), .int .i64 (i : Int)] w fun e w' => ∃ R : PLog × DiskL, R = cutP s.data.toList i left P L ∧ e = .returned (.int .i64 0) ∧ ∃ F', PBoth w' F' G dp l room s R.1 R.2 ∧ Turn (fun k => F k ∨ G k) w w' ∧ ∀ k, F' k → F k ∨ w.heap.size ≤ k := by
  obtain ⟨segs, nx⟩ := P
  obtain ⟨hD, ⟨vS, X, e, h⟩, hap⟩ := h
  simp only at e h hi1 hi2 hnx hsl hll9 hr hc hlow hx
  have hXe : segs.length = X.length := by rw [e, List.length_map]
  have hat : ∀ j (hj : j < X.length), segs[j]'(by omega) = segP X[j] := fun j hj => by simp only [e, List.getElem_map]
  have HRE := preaches_any w G l dp s ⟨segs, nx⟩ (i : Int) ⟨vS, X, e, h⟩
  dsimp only at HRE
  rw [decide_eq_true (by omega)] at HRE
  have HRE := hide HRE
  have hrX : ∀ a b (ha : a < X.length) (hb : b < X.length), a < b → X[a].1 < X[b].1 := fun a b ha hb hab => by
    have := hr a b (by omega) (by omega) hab
    rw [hat a ha, hat b hb] at this
    exact this
  have hcX : ∀ j (hj : j < X.length), j < left ↔ (X[j].1 : Int) < (i : Int) := fun j hj => by
    have := hc j (by omega)
    rw [hat j hj] at this
    exact this
  have HAH := hide (show ∀ (W : World), Below w.heap.size w W → Calls Tryz.prog 74 #[.pointer (some ⟨l, 0, none⟩), .int .i64 (i : Int)] W fun e w' => e = .returned (.int .i64 (left : Int)) ∧ Below W.heap.size W w' from fun W k => (pahead_any W G l dp s _ X nx (i : Int) (h.below k) (by omega) hrX).mono (fun e w' => by
    rintro ⟨i2, rfl, h1, h2, h3⟩
    exact ⟨by rw [ahead_uni h1 (by omega) h2 hcX], h3⟩))
  obtain ⟨AS, cS, eS, hlc, hc63, hnil, hcell⟩ := rowP_form h.row
  subst eS
  obtain ⟨N, hN⟩ : ∃ N, N = X.length := ⟨_, rfl⟩
  have hNl : N ≤ 1073741824 := by omega
  have hlN : left ≤ N := by omega
  rw [← hN] at hlc h
  have hlowX : ∀ x ∈ X, x.1 ≤ 1099511627776 := fun x hx => hlow (segP x) (by rw [e]; exact List.mem_map.2 ⟨x, hx, rfl⟩)
  have hparts : ∃ Y y Z, X = Y ++ y :: Z ∧ Y.length + 1 = left ∧ segP y = x := by
    have h0 : 0 < left := by
      rcases Nat.eq_zero_or_pos left with q | q
      · rw [q] at hx
        cases hx
      · exact q
    have hj : left - 1 < X.length := by omega
    refine ⟨X.take (left - 1), X[left - 1], X.drop left, ?_, by rw [List.length_take]; omega, ?_⟩
    · have := (List.drop_eq_getElem_cons hj)
      rw [show left - 1 + 1 = left by omega] at this
      rw [← this, List.take_append_drop]
    · rw [List.getLast?_eq_getElem?, List.length_take, show min left segs.length - 1 = left - 1 by omega, List.getElem?_take_of_lt (by omega), List.getElem?_eq_getElem (by omega)] at hx
      rw [← hat _ hj]
      exact Option.some.inj hx
  obtain ⟨Y, y, Z, hXY, hYl, hyx⟩ := hparts
  obtain ⟨f, vE, b, es⟩ := y
  subst hyx
  obtain ⟨k, hk⟩ : ∃ k, k = Y.length := ⟨_, rfl⟩
  have hkl : left = k + 1 := by omega
  have hkN : k < N := by omega
  obtain ⟨gS, eA, -, hgS, q0, q1, -, qf⟩ := hcell k (by omega)
  subst eA
  have hXk : X[k]'(by omega) = (f, vE, b, es) := by
    simp only [hXY, hk]
    rw [List.getElem_append_right (Nat.le_refl _)]
    simp
  rw [hXk] at q0 q1
  have hfl : f ≤ 1099511627776 := hlowX (f, vE, b, es) (by rw [hXY]; simp)
  have hms : (left : Int) - 1 = (k : Int) := by omega
  have hkw : IntKind.i64.wrap (k : Int) = (k : Int) := by rw [IntKind.wrap_i64]; omega
  have hl0 : (0 : Int) < (left : Int) := by omega
  have hkN2 : (k : Int) < (N : Int) := by omega
  have hk0 : (0 : Int) ≤ (k : Int) := by omega
  have hxi : f < i := by
    have := (hcX k (by omega)).1 (by omega)
    rw [hXk] at this
    have this : (f : Int) < (i : Int) := this
    omega
  have HGL : Hid (G l) := hide h.own
  have HGW : Hid (∀ q, G q → q < w.heap.size) := hide h.low
  have HCUT : Hid (∀ (X1 : List Sgp) (L1 : DiskL), ((X1.take left).map segP = shortA i (segs.take left) ∧ (X1.drop left).map (·.1) = (segs.drop left).map (·.1)) → L1 = shortD s.data.toList i (segs.take left) L → cutP s.data.toList i left ⟨segs, nx⟩ L = (⟨(X1.take left).map segP, i⟩, removesL s.data.toList ((X1.drop left).map (·.1)) L1)) := hide (fun X1 L1 h1 h2 => by
    unfold cutP
    rw [h1.1, h1.2, h2])
  have HD := hide hD
  have HP0 := hide h.prow
  have HB0 := hide h.cells
  have HAP := hide hap
  have HN := hide hN
  have HE := hide e
  have HLX := hide hlowX
  have HXY := hide hXY
  have HYK := hide hk
  have c2 : w.cell? ⟨l, 2, none⟩ = some (.slice (some ⟨gS, 0, none⟩) N cS) := h.cells.cell 2
  have hll := cell_lt c2
  have HHX := hide hx
  clear hD h hap hXe hat hrX hcX hr hc hlow hlowX hll9 hi1 hi2 hN e hcell hsl hx hXk hnil hXY hk qf
  have hTL : X.take left = Y ++ [(f, vE, b, es)] ∧ X.drop left = Z := by
    rw [HXY.out, hkl, HYK.out]
    constructor
    · rw [show Y ++ (f, vE, b, es) :: Z = (Y ++ [(f, vE, b, es)]) ++ Z by simp, List.take_left' (by simp)]
    · rw [show Y ++ (f, vE, b, es) :: Z = (Y ++ [(f, vE, b, es)]) ++ Z by simp, List.drop_left' (by simp)]
  have hST : segs.take left = (Y.map segP) ++ [(f, es, b)] ∧ segs.drop left = Z.map segP := by
    rw [HE.out, ← List.map_take, ← List.map_drop, hTL.1, hTL.2, List.map_append]
    exact ⟨rfl, rfl⟩
  have HTL := hide hTL
  have HST := hide hST
  have HE0 := HP0.out.each (f, vE, b, es) (by rw [HXY.out]; simp)
  dsimp only at HE0 hie hxl q0 q1
  have hie : i < f + es.length := hie
  obtain ⟨AE, cE, eE, hEl, hEm, -⟩ := HE0.form
  have HKL := hide hkl
  have hne : es.length ≤ 1073741824 := hxl
  have HIE := hide hie
  have hgS2 := hgS
  have HRL := hide hrl
  have HCU := hide hcut
  clear hrl hcut
  clear hTL hST hkl hie HHX hxl HE0
  go_enter Tryz.func81, Tryz.ntmps81
  go_wp2_with fail
  refine HRE.out.mono ?_
  rintro e w1 ⟨rfl, d1, rfl⟩
  have kd1 : Below w.heap.size w (w.drewN d1) := below_drewN (Below.refl _ _) d1
  go_wp2_with fail
  refine (HAH.out _ kd1).mono ?_
  rintro e w2 ⟨rfl, k2⟩
  have K2 := below_step kd1 k2
  have p2 := (K2.cell (p := ⟨l, 2, none⟩) hll).trans c2
  have p0 := (K2.cell (p := ⟨gS, k * 3, none⟩) hgS2).trans q0
  have p1 := (K2.cell (p := ⟨gS, k * 3 + 1, none⟩) hgS2).trans q1
  have KK2 := hide K2
  clear k2 kd1 K2 c2 q0 q1
  go_wp2_with fail
  refine (pshort_any w2 F G dp l room s gS N cS nx k f i Y Z vE b es L (HB0.out.turn (Turn.of_below (fun _ => False) KK2.out) id) (by have h9 := HP0.out.below KK2.out; rw [HXY.out] at h9; exact h9) HYK.out.symm (HD.out.below KK2.out) HAP.out HGL.out (fun q hq => by have := HGW.out q hq; have := KK2.out.size; omega) hs hfl hxi HIE.out hne HRL.out HCU.out).mono ?_
  rintro e w3 ⟨rfl, F1, v1, d3, r3, b3, t3, f3, a3⟩
  obtain ⟨X1, hX1e⟩ : ∃ X1, X1 = Y ++ (f, v1, b, es.take (i - f)) :: Z := ⟨_, rfl⟩
  rw [← hX1e] at r3
  obtain ⟨L1, hL1e⟩ : ∃ L1, L1 = (cutL (nameL s.data.toList f) ((recsL f (es.take (i - f))).length : Int) L).1 := ⟨_, rfl⟩
  rw [← hL1e] at d3
  have hX1t : X1.take left = Y ++ [(f, v1, b, es.take (i - f))] ∧ X1.drop left = Z := by
    rw [hX1e, HKL.out, HYK.out]
    constructor
    · rw [show Y ++ (f, v1, b, es.take (i - f)) :: Z = (Y ++ [(f, v1, b, es.take (i - f))]) ++ Z by simp, List.take_left' (by simp)]
    · rw [show Y ++ (f, v1, b, es.take (i - f)) :: Z = (Y ++ [(f, v1, b, es.take (i - f))]) ++ Z by simp, List.drop_left' (by simp)]
  have B3 := hide b3
  have R3 := hide r3
  have D3 := hide d3
  have T3 : Hid (Turn (fun q => F q ∨ G q) w w3) := hide ((Turn.of_below _ KK2.out).trans t3)
  have FF3 : Hid (∀ q, F1 q → F q ∨ w.heap.size ≤ q) := hide (fun q hq => (f3 q hq).imp id (fun h => by have := KK2.out.size; omega))
  have AP3 := hide a3
  have HXS : Hid ((X1.take left).map segP = shortA i (segs.take left) ∧ (X1.drop left).map (·.1) = (segs.drop left).map (·.1)) := hide (by
    rw [HST.out.1, HST.out.2, hX1t.1, hX1t.2]
    unfold shortA
    rw [List.getLast?_concat]
    dsimp only
    rw [List.dropLast_concat]
    unfold shortS
    rw [if_pos (show i < f + es.length from HIE.out), List.map_append, List.map_map]
    exact ⟨rfl, rfl⟩)
  have HLS : Hid (L1 = shortD s.data.toList i (segs.take left) L) := hide (by
    rw [HST.out.1, hL1e]
    unfold shortD
    rw [List.getLast?_concat]
    dsimp only
    rw [if_pos HIE.out])
  have HL1 : Hid (∀ n ∈ (X1.drop left).map (·.1), n ≤ 1099511627776) := hide (fun n hn => by rw [hX1t.2] at hn; obtain ⟨x, hx, rfl⟩ := List.mem_map.1 hn; exact HLX.out x (by rw [HXY.out]; simp [hx]))
  have HXL9 := hide (show X1.length = N from by rw [hX1e, HN.out, HXY.out]; simp)
  clear b3 r3 d3 t3 f3 a3 hX1e hL1e hX1t
  have hX1 : Hid (X1.length = N) := hide (by exact HXL9.out)
  have HX1 := hX1
  have hcs : left ≤ cS := by omega
  have hlN2 : (left : Int) ≤ (N : Int) := by omega
  have hlc2 : (left : Int) ≤ (cS : Int) := by omega
  have hl00 : (0 : Int) ≤ (left : Int) := by omega
  clear p0 p1 p2 hkN hkN2 hk0 hkw hms
  by_cases hlt : left < N
  · have hcl : ¬ cS = left := by omega
    have r0 : w3.cell? ⟨l, 0, none⟩ = some (.pointer (some ⟨dp, 0, none⟩)) := B3.out.cell 0
    have r2 : w3.cell? ⟨l, 2, none⟩ = some (.slice (some ⟨gS, 0, none⟩) N cS) := B3.out.cell 2
    have r3 : w3.cell? ⟨l, 3, none⟩ = some (.int .i64 (nx : Int)) := B3.out.cell 3
    have hl3 := cell_lt r0
    go_wp2_with fail
    refine (pfirstsO_any _ (some ⟨gS, left * 3, none⟩) (N - left) (cS - left) (X1.drop left) (by rw [List.length_drop, HX1.out]) (by omega) (by have h9 := R3.out.cellsO left N; rw [takeN X1 left N (by rw [HX1.out]; exact Nat.le_refl _)] at h9; exact h9) (by omega) (fun x hx => R3.out.forms x (List.mem_of_mem_drop hx))).mono ?_
    rintro e w4 ⟨u4, rfl, o4, k4⟩
    have k4 : Below w3.heap.size w3 w4 := ⟨k4.os, k4.tape, k4.output, k4.size, k4.block⟩
    have B4 := hide (B3.out.turn (Turn.of_below (fun _ => False) k4) id)
    have R4 := hide (R3.out.below k4)
    have D4 := hide (D3.out.below k4)
    have o4 : OwnN w4 w3.heap.size u4 (((X1.drop left).map (·.1)).map fun n : Nat => (n : Int)) := by rw [List.map_map]; exact o4
    have O4 := hide o4
    have K4 := hide k4
    have hm4 : Hid (((X1.drop left).map (·.1)).length ≤ 1073741824) := hide (by rw [List.length_map, List.length_drop, HX1.out]; omega)
    clear o4 k4 r0 r2 r3
    go_wp2_with fail
    refine (premove_any _ F1 G dp l room s ⟨X1.map segP, nx⟩ L1 u4 w3.heap.size ((X1.drop left).map (·.1)) ⟨D4.out, ⟨_, X1, rfl, R4.out.log B4.out HGL.out (fun q hq => by have := HGW.out q hq; have := T3.out.size; have := K4.out.size; omega)⟩, AP3.out⟩ hs O4.out (fun q hq hf => by have := (World.ownsRow.lt O4.out q hq).1; have := D3.out.low q hf; omega) HL1.out hm4.out).mono ?_
    rintro e w5 ⟨rfl, F5, b5, n5⟩
    have hnl5 : ¬ F1 l := fun hf => AP3.out l hf HGL.out
    have B5 := hide (B4.out.turn n5.turn hnl5)
    have R5 := hide (R4.out.turn n5.turn (fun q hg hf => AP3.out q hf hg))
    have D5 := hide b5.disk
    have AP5 := hide b5.apart
    have T5 := hide ((T3.out.then (Turn.of_below (fun _ => False) K4.out) (fun _ => False.elim)).then n5.turn (fun q hq => (FF3.out q hq).imp .inl id))
    have FF5 := hide (fun q (hq : F5 q) => (n5.foot q hq).elim (fun h => FF3.out q h) (fun h => .inr (by have := T3.out.size; have := K4.out.size; omega)))
    have z2 : w5.cell? ⟨l, 2, none⟩ = some (.slice (some ⟨gS, 0, none⟩) N cS) := B5.out.cell 2
    have zf := B5.out.frozen 2
    have hl5 := cell_lt z2
    clear b5 n5 hnl5
    go_wp2_with fail
    refine Ways.start (fun W => W.cell? ⟨l, 2, none⟩ = some (.slice (some ⟨gS, 0, none⟩) N cS)) 14 15 #[false, false, false, false, false, false, false, false, false, false, false, false, false, false, false] (by kernel_rfl) (by kernel_rfl) (by kernel_rfl) ?_
    have hHeld : w5.drew.cell? ⟨l, 2, none⟩ = some (.slice (some ⟨gS, 0, none⟩) N cS) := z2
    refine' Ways.take (i := 0) (oi := ⟨_, _, _, _, _, _⟩) (v := _) rfl (by kernel_rfl) (by kernel_rfl) (by kernel_rfl) (by kernel_rfl) (fun _ _ _ h => h) hHeld (Or.inl ⟨rfl, ?_⟩) ?_
    rotate_left
    · (intro W hW; (try dsimp only at hW); go_simp; (try with_reducible rfl))
    try simp only [Act.put, List.setIfInBounds_toArray, List.set_cons_zero, List.set_cons_succ]
    refine' Ways.take (i := 1) (oi := ⟨_, _, _, _, _, _⟩) (v := _) rfl (by kernel_rfl) (by kernel_rfl) (by kernel_rfl) (by kernel_rfl) (fun _ _ _ h => h) hHeld (Or.inl ⟨rfl, ?_⟩) ?_
    rotate_left
    · (intro W hW; (try dsimp only at hW); go_simp; (try with_reducible rfl))
    try simp only [Act.put, List.setIfInBounds_toArray, List.set_cons_zero, List.set_cons_succ]
    refine' Ways.take (i := 2) (oi := ⟨_, _, _, _, _, _⟩) (v := _) rfl (by kernel_rfl) (by kernel_rfl) (by kernel_rfl) (by kernel_rfl) (fun _ _ _ h => h) hHeld (Or.inl ⟨rfl, ?_⟩) ?_
    rotate_left
    · (intro W hW; (try dsimp only at hW); go_simp; (try with_reducible rfl))
    try simp only [Act.put, List.setIfInBounds_toArray, List.set_cons_zero, List.set_cons_succ]
    refine' Ways.take (i := 3) (oi := ⟨_, _, _, _, _, _⟩) (v := _) rfl (by kernel_rfl) (by kernel_rfl) (by kernel_rfl) (by kernel_rfl) (fun _ _ _ h => h) hHeld (Or.inl ⟨rfl, ?_⟩) ?_
    rotate_left
    · (intro W hW; (try dsimp only at hW); go_simp; (try with_reducible rfl))
    try simp only [Act.put, List.setIfInBounds_toArray, List.set_cons_zero, List.set_cons_succ]
    refine' Ways.take (i := 4) (oi := ⟨_, _, _, _, _, _⟩) (v := _) rfl (by kernel_rfl) (by kernel_rfl) (by kernel_rfl) (by kernel_rfl) (fun _ _ _ h => h) hHeld (Or.inl ⟨rfl, ?_⟩) ?_
    rotate_left
    · (intro W hW; (try dsimp only at hW); go_simp; (try with_reducible rfl))
    try simp only [Act.put, List.setIfInBounds_toArray, List.set_cons_zero, List.set_cons_succ]
    refine' Ways.take (i := 5) (oi := ⟨_, _, _, _, _, _⟩) (v := _) rfl (by kernel_rfl) (by kernel_rfl) (by kernel_rfl) (by kernel_rfl) (fun _ _ _ h => h) hHeld (Or.inl ⟨rfl, ?_⟩) ?_
    rotate_left
    · (intro W hW; (try dsimp only at hW); go_simp; (try with_reducible rfl))
    try simp only [Act.put, List.setIfInBounds_toArray, List.set_cons_zero, List.set_cons_succ]
    refine' Ways.take (i := 6) (oi := ⟨_, _, _, _, _, _⟩) (v := _) rfl (by kernel_rfl) (by kernel_rfl) (by kernel_rfl) (by kernel_rfl) (fun _ _ _ h => h) hHeld (Or.inl ⟨rfl, ?_⟩) ?_
    rotate_left
    · (intro W hW; (try dsimp only at hW); go_simp; (try with_reducible rfl))
    try simp only [Act.put, List.setIfInBounds_toArray, List.set_cons_zero, List.set_cons_succ]
    refine' Ways.take (i := 7) (oi := ⟨_, _, _, _, _, _⟩) (v := _) rfl (by kernel_rfl) (by kernel_rfl) (by kernel_rfl) (by kernel_rfl) (fun _ _ _ h => h) hHeld (Or.inl ⟨rfl, ?_⟩) ?_
    rotate_left
    · (intro W hW; (try dsimp only at hW); go_simp; (try with_reducible rfl))
    try simp only [Act.put, List.setIfInBounds_toArray, List.set_cons_zero, List.set_cons_succ]
    refine' Ways.take (i := 8) (oi := ⟨_, _, _, _, _, _⟩) (v := _) rfl (by kernel_rfl) (by kernel_rfl) (by kernel_rfl) (by kernel_rfl) (fun _ _ _ h => h) hHeld (Or.inl ⟨rfl, ?_⟩) ?_
    rotate_left
    · (intro W hW; (try dsimp only at hW); go_simp; (try with_reducible rfl))
    try simp only [Act.put, List.setIfInBounds_toArray, List.set_cons_zero, List.set_cons_succ]
    refine' Ways.take (i := 9) (oi := ⟨_, _, _, _, _, _⟩) (v := _) rfl (by kernel_rfl) (by kernel_rfl) (by kernel_rfl) (by kernel_rfl) (fun _ _ _ h => h) hHeld (Or.inl ⟨rfl, ?_⟩) ?_
    rotate_left
    · (intro W hW; (try dsimp only at hW); go_simp; (try with_reducible rfl))
    try simp only [Act.put, List.setIfInBounds_toArray, List.set_cons_zero, List.set_cons_succ]
    refine' Ways.take (i := 10) (oi := ⟨_, _, _, _, _, _⟩) (v := _) rfl (by kernel_rfl) (by kernel_rfl) (by kernel_rfl) (by kernel_rfl) (fun _ _ _ h => h) hHeld (Or.inl ⟨rfl, ?_⟩) ?_
    rotate_left
    · (intro W hW; (try dsimp only at hW); go_simp; (try with_reducible rfl))
    try simp only [Act.put, List.setIfInBounds_toArray, List.set_cons_zero, List.set_cons_succ]
    refine Ways.one (i := 11) (by kernel_rfl) rfl (fun K hK => ?_)
    go_simp
    go_at_call 109
    have hown : w5.drew.ownsRow 0 127 3 (.slice (some ⟨gS, 0, none⟩) N cS) N (cellsP X1) := by have h9 := R5.out.row; rw [HX1.out] at h9; exact h9
    refine (del_segs gS N cS left N left _ w5.drew hown (cellsP_ones X1 R5.out.each) (by omega) (Nat.le_refl _) (by omega) hlc hc63).mono ?_
    rintro e w6 ⟨rfl, o6, g6⟩
    have o6 : w6.ownsRow 0 127 3 (.slice (some ⟨gS, 0, none⟩) left cS) (X1.take left).length (cellsP (X1.take left)) := by
      rw [cellsP_take, cellsP_drop, List.drop_of_length_le (by rw [HX1.out]; exact Nat.le_refl _)] at o6
      have hl : (X1.take left).length = left := by rw [List.length_take, HX1.out]; omega
      rw [hl]
      simpa [cellsP] using o6
    have g6 : w5.grownBy w6 (some gS) := ⟨g6.os, g6.tape, g6.output, g6.size, g6.block⟩
    have t6 : Turn (fun q => q = gS) w5 w6 := (Turn.of_grown g6).mono (fun q e => Option.some.inj e)
    have hgl : ¬ l = gS := fun e => ownsRow_notIn R5.out.row B5.out (by decide) (by rw [e]; rfl)
    have R6 := hide (R5.out.sub o6 g6 (List.take_sublist _ _))
    have B6 := hide (B5.out.turn t6 hgl)
    have D6 := hide (D5.out.turn t6 (fun q hf e => AP5.out q hf (by rw [e]; exact R5.out.mine gS rfl)))
    have T6 := hide (T5.out.then t6 (fun q e => .inl (.inr (by rw [e]; exact R5.out.mine gS rfl))))
    clear o6 g6 t6 hown
    have y2 : w6.cell? ⟨l, 2, none⟩ = some (.slice (some ⟨gS, 0, none⟩) N cS) := B6.out.cell 2
    have yf := B6.out.frozen 2
    refine hK.out _ _ y2 ?_
    try simp only [List.setIfInBounds_toArray, List.set_cons_zero, List.set_cons_succ]
    refine Ways.one (i := 12) (by kernel_rfl) rfl (fun K3 hK3 => ?_)
    go_simp
    refine hK3.out _ _ y2 ?_
    try simp only [List.setIfInBounds_toArray, List.set_cons_zero, List.set_cons_succ]
    refine' Ways.take (i := 13) (oi := ⟨_, _, _, _, _, _⟩) (v := _) rfl (by kernel_rfl) (by kernel_rfl) (by kernel_rfl) (by kernel_rfl) (fun _ _ _ h => h) y2 (Or.inl ⟨rfl, ?_⟩) ?_
    rotate_left
    · (intro W hW; (try dsimp only at hW); go_simp; (try with_reducible rfl))
    try simp only [Act.put, List.setIfInBounds_toArray, List.set_cons_zero, List.set_cons_succ]
    refine Ways.last (by kernel_rfl) rfl (by kernel_rfl) (fun K2 hK2 => ?_)
    go_simp
    refine hK2.out _ _ ?_
    try simp only [Act.put, List.setIfInBounds_toArray, List.set_cons_zero, List.set_cons_succ]
    have b7 := B6.out.stored 2 (.slice (some ⟨gS, 0, none⟩) left cS)
    have x3 : (w6.setCell ⟨l, 2, none⟩ (.slice (some ⟨gS, 0, none⟩) left cS)).cell? ⟨l, 3, none⟩ = some (.int .i64 (nx : Int)) := b7.cell 3
    have xf := b7.frozen 3
    have hl7 := cell_lt x3
    clear hK hK2 hK3 y2 yf z2 zf
    go_wp2_with fail
    obtain ⟨wE, hwE⟩ : ∃ z, z = (w6.setCell ⟨l, 2, none⟩ (.slice (some ⟨gS, 0, none⟩) left cS)).setCell ⟨l, 3, none⟩ (.int .i64 (i : Int)) := ⟨_, rfl⟩
    rw [← hwE]
    have tE : Turn (fun q => q = l) w6 wE := by
      rw [hwE]
      exact ((Turn.of_grown (grown_set w6 l _ _)).mono (fun q e => Option.some.inj e)).trans ((Turn.of_grown (grown_set _ l _ _)).mono (fun q e => Option.some.inj e))
    have BE := b7.stored 3 (.int .i64 (i : Int))
    rw [← hwE] at BE
    have PE := R6.out.off tE (fun q e => by rw [e]; exact blk_off B6.out)
    have DE := D6.out.turn tE (fun q hf e => AP5.out q hf (e ▸ HGL.out))
    have TE := T6.out.then tE (fun q e => .inl (.inr (e ▸ HGL.out)))
    go_ret
    refine ⟨rfl, F5, ?_, TE, FF5.out⟩
    rw [HCUT.out X1 L1 HXS.out HLS.out]
    exact ⟨DE, ⟨_, X1.take left, rfl, PE.log BE HGL.out (fun q hq => by have := HGW.out q hq; have := TE.size; omega)⟩, AP5.out⟩
  · have hln : N = left := by omega
    subst hln
    clear hlt
    by_cases hcl : cS = N
    · subst hcl
      have r0 : w3.cell? ⟨l, 0, none⟩ = some (.pointer (some ⟨dp, 0, none⟩)) := B3.out.cell 0
      have r2 : w3.cell? ⟨l, 2, none⟩ = some (.slice (some ⟨gS, 0, none⟩) cS cS) := B3.out.cell 2
      have r3 : w3.cell? ⟨l, 3, none⟩ = some (.int .i64 (nx : Int)) := B3.out.cell 3
      have hl3 := cell_lt r0
      go_wp2_with fail
      have hd0 : X1.drop cS = [] := List.drop_of_length_le (by have := HX1.out; omega)
      refine (pfirstsO_any _ (some ⟨gS, 0, none⟩) 0 0 (X1.drop cS) (by rw [hd0]; rfl) (by omega) (fun q hq => absurd hq (by rw [hd0]; simp)) (by omega) (fun x hx => R3.out.forms x (List.mem_of_mem_drop hx))).mono ?_
      rintro e w4 ⟨u4, rfl, o4, k4⟩
      have k4 : Below w3.heap.size w3 w4 := ⟨k4.os, k4.tape, k4.output, k4.size, k4.block⟩
      have B4 := hide (B3.out.turn (Turn.of_below (fun _ => False) k4) id)
      have R4 := hide (R3.out.below k4)
      have D4 := hide (D3.out.below k4)
      have o4 : OwnN w4 w3.heap.size u4 (((X1.drop cS).map (·.1)).map fun n : Nat => (n : Int)) := by rw [List.map_map]; exact o4
      have O4 := hide o4
      have K4 := hide k4
      have hm4 : Hid (((X1.drop cS).map (·.1)).length ≤ 1073741824) := hide (by rw [List.length_map, List.length_drop, HX1.out]; omega)
      clear o4 k4 r0 r2 r3
      go_wp2_with fail
      refine (premove_any _ F1 G dp l room s ⟨X1.map segP, nx⟩ L1 u4 w3.heap.size ((X1.drop cS).map (·.1)) ⟨D4.out, ⟨_, X1, rfl, R4.out.log B4.out HGL.out (fun q hq => by have := HGW.out q hq; have := T3.out.size; have := K4.out.size; omega)⟩, AP3.out⟩ hs O4.out (fun q hq hf => by have := (World.ownsRow.lt O4.out q hq).1; have := D3.out.low q hf; omega) HL1.out hm4.out).mono ?_
      rintro e w5 ⟨rfl, F5, b5, n5⟩
      have hnl5 : ¬ F1 l := fun hf => AP3.out l hf HGL.out
      have B5 := hide (B4.out.turn n5.turn hnl5)
      have R5 := hide (R4.out.turn n5.turn (fun q hg hf => AP3.out q hf hg))
      have D5 := hide b5.disk
      have AP5 := hide b5.apart
      have T5 := hide ((T3.out.then (Turn.of_below (fun _ => False) K4.out) (fun _ => False.elim)).then n5.turn (fun q hq => (FF3.out q hq).imp .inl id))
      have FF5 := hide (fun q (hq : F5 q) => (n5.foot q hq).elim (fun h => FF3.out q h) (fun h => .inr (by have := T3.out.size; have := K4.out.size; omega)))
      have z2 : w5.cell? ⟨l, 2, none⟩ = some (.slice (some ⟨gS, 0, none⟩) cS cS) := B5.out.cell 2
      have zf := B5.out.frozen 2
      have hl5 := cell_lt z2
      clear b5 n5 hnl5
      go_wp2_with fail
      refine Ways.start (fun W => W.cell? ⟨l, 2, none⟩ = some (.slice (some ⟨gS, 0, none⟩) cS cS)) 14 15 #[false, false, false, false, false, false, false, false, false, false, false, false, false, false, false] (by kernel_rfl) (by kernel_rfl) (by kernel_rfl) ?_
      have hHeld : w5.drew.cell? ⟨l, 2, none⟩ = some (.slice (some ⟨gS, 0, none⟩) cS cS) := z2
      refine' Ways.take (i := 0) (oi := ⟨_, _, _, _, _, _⟩) (v := _) rfl (by kernel_rfl) (by kernel_rfl) (by kernel_rfl) (by kernel_rfl) (fun _ _ _ h => h) hHeld (Or.inl ⟨rfl, ?_⟩) ?_
      rotate_left
      · (intro W hW; (try dsimp only at hW); go_simp; (try with_reducible rfl))
      try simp only [Act.put, List.setIfInBounds_toArray, List.set_cons_zero, List.set_cons_succ]
      refine' Ways.take (i := 1) (oi := ⟨_, _, _, _, _, _⟩) (v := _) rfl (by kernel_rfl) (by kernel_rfl) (by kernel_rfl) (by kernel_rfl) (fun _ _ _ h => h) hHeld (Or.inl ⟨rfl, ?_⟩) ?_
      rotate_left
      · (intro W hW; (try dsimp only at hW); go_simp; (try with_reducible rfl))
      try simp only [Act.put, List.setIfInBounds_toArray, List.set_cons_zero, List.set_cons_succ]
      refine' Ways.take (i := 2) (oi := ⟨_, _, _, _, _, _⟩) (v := _) rfl (by kernel_rfl) (by kernel_rfl) (by kernel_rfl) (by kernel_rfl) (fun _ _ _ h => h) hHeld (Or.inl ⟨rfl, ?_⟩) ?_
      rotate_left
      · (intro W hW; (try dsimp only at hW); go_simp; (try with_reducible rfl))
      try simp only [Act.put, List.setIfInBounds_toArray, List.set_cons_zero, List.set_cons_succ]
      refine' Ways.take (i := 3) (oi := ⟨_, _, _, _, _, _⟩) (v := _) rfl (by kernel_rfl) (by kernel_rfl) (by kernel_rfl) (by kernel_rfl) (fun _ _ _ h => h) hHeld (Or.inl ⟨rfl, ?_⟩) ?_
      rotate_left
      · (intro W hW; (try dsimp only at hW); go_simp; (try with_reducible rfl))
      try simp only [Act.put, List.setIfInBounds_toArray, List.set_cons_zero, List.set_cons_succ]
      refine' Ways.take (i := 4) (oi := ⟨_, _, _, _, _, _⟩) (v := _) rfl (by kernel_rfl) (by kernel_rfl) (by kernel_rfl) (by kernel_rfl) (fun _ _ _ h => h) hHeld (Or.inl ⟨rfl, ?_⟩) ?_
      rotate_left
      · (intro W hW; (try dsimp only at hW); go_simp; (try with_reducible rfl))
      try simp only [Act.put, List.setIfInBounds_toArray, List.set_cons_zero, List.set_cons_succ]
      refine' Ways.take (i := 5) (oi := ⟨_, _, _, _, _, _⟩) (v := _) rfl (by kernel_rfl) (by kernel_rfl) (by kernel_rfl) (by kernel_rfl) (fun _ _ _ h => h) hHeld (Or.inl ⟨rfl, ?_⟩) ?_
      rotate_left
      · (intro W hW; (try dsimp only at hW); go_simp; (try with_reducible rfl))
      try simp only [Act.put, List.setIfInBounds_toArray, List.set_cons_zero, List.set_cons_succ]
      refine' Ways.take (i := 6) (oi := ⟨_, _, _, _, _, _⟩) (v := _) rfl (by kernel_rfl) (by kernel_rfl) (by kernel_rfl) (by kernel_rfl) (fun _ _ _ h => h) hHeld (Or.inl ⟨rfl, ?_⟩) ?_
      rotate_left
      · (intro W hW; (try dsimp only at hW); go_simp; (try with_reducible rfl))
      try simp only [Act.put, List.setIfInBounds_toArray, List.set_cons_zero, List.set_cons_succ]
      refine' Ways.take (i := 7) (oi := ⟨_, _, _, _, _, _⟩) (v := _) rfl (by kernel_rfl) (by kernel_rfl) (by kernel_rfl) (by kernel_rfl) (fun _ _ _ h => h) hHeld (Or.inl ⟨rfl, ?_⟩) ?_
      rotate_left
      · (intro W hW; (try dsimp only at hW); go_simp; (try with_reducible rfl))
      try simp only [Act.put, List.setIfInBounds_toArray, List.set_cons_zero, List.set_cons_succ]
      refine' Ways.take (i := 8) (oi := ⟨_, _, _, _, _, _⟩) (v := _) rfl (by kernel_rfl) (by kernel_rfl) (by kernel_rfl) (by kernel_rfl) (fun _ _ _ h => h) hHeld (Or.inl ⟨rfl, ?_⟩) ?_
      rotate_left
      · (intro W hW; (try dsimp only at hW); go_simp; (try with_reducible rfl))
      try simp only [Act.put, List.setIfInBounds_toArray, List.set_cons_zero, List.set_cons_succ]
      refine' Ways.take (i := 9) (oi := ⟨_, _, _, _, _, _⟩) (v := _) rfl (by kernel_rfl) (by kernel_rfl) (by kernel_rfl) (by kernel_rfl) (fun _ _ _ h => h) hHeld (Or.inl ⟨rfl, ?_⟩) ?_
      rotate_left
      · (intro W hW; (try dsimp only at hW); go_simp; (try with_reducible rfl))
      try simp only [Act.put, List.setIfInBounds_toArray, List.set_cons_zero, List.set_cons_succ]
      refine' Ways.take (i := 10) (oi := ⟨_, _, _, _, _, _⟩) (v := _) rfl (by kernel_rfl) (by kernel_rfl) (by kernel_rfl) (by kernel_rfl) (fun _ _ _ h => h) hHeld (Or.inl ⟨rfl, ?_⟩) ?_
      rotate_left
      · (intro W hW; (try dsimp only at hW); go_simp; (try with_reducible rfl))
      try simp only [Act.put, List.setIfInBounds_toArray, List.set_cons_zero, List.set_cons_succ]
      refine Ways.one (i := 11) (by kernel_rfl) rfl (fun K hK => ?_)
      go_simp
      go_at_call 109
      refine (del_segs_same (some ⟨gS, 0, none⟩) cS cS cS w5.drew (Nat.le_refl _) hlc hc63 (fun h => by cases h) (fun a h => ⟨gS, (Option.some.inj h).symm⟩)).mono ?_
      rintro e w6 ⟨rfl, k6⟩
      have k6 : Below w5.heap.size w5 w6 := ⟨k6.os, k6.tape, k6.output, k6.size, k6.block⟩
      have hX1t : X1.take cS = X1 := List.take_of_length_le (by have := HX1.out; omega)
      have R6 := hide (show PRow w6 G (.slice (some ⟨gS, 0, none⟩) cS cS) (X1.take cS) from by rw [hX1t]; exact R5.out.below k6)
      have B6 := hide (B5.out.turn (Turn.of_below (fun _ => False) k6) id)
      have D6 := hide (D5.out.below k6)
      have T6 := hide (T5.out.then (Turn.of_below (fun _ => False) k6) (fun _ => False.elim))
      clear k6
      have y2 : w6.cell? ⟨l, 2, none⟩ = some (.slice (some ⟨gS, 0, none⟩) cS cS) := B6.out.cell 2
      have yf := B6.out.frozen 2
      refine hK.out _ _ y2 ?_
      try simp only [List.setIfInBounds_toArray, List.set_cons_zero, List.set_cons_succ]
      refine Ways.one (i := 12) (by kernel_rfl) rfl (fun K3 hK3 => ?_)
      go_simp
      refine hK3.out _ _ y2 ?_
      try simp only [List.setIfInBounds_toArray, List.set_cons_zero, List.set_cons_succ]
      refine' Ways.take (i := 13) (oi := ⟨_, _, _, _, _, _⟩) (v := _) rfl (by kernel_rfl) (by kernel_rfl) (by kernel_rfl) (by kernel_rfl) (fun _ _ _ h => h) y2 (Or.inl ⟨rfl, ?_⟩) ?_
      rotate_left
      · (intro W hW; (try dsimp only at hW); go_simp; (try with_reducible rfl))
      try simp only [Act.put, List.setIfInBounds_toArray, List.set_cons_zero, List.set_cons_succ]
      refine Ways.last (by kernel_rfl) rfl (by kernel_rfl) (fun K2 hK2 => ?_)
      go_simp
      refine hK2.out _ _ ?_
      try simp only [Act.put, List.setIfInBounds_toArray, List.set_cons_zero, List.set_cons_succ]
      have b7 := B6.out.stored 2 (.slice (some ⟨gS, 0, none⟩) cS cS)
      have x3 : (w6.setCell ⟨l, 2, none⟩ (.slice (some ⟨gS, 0, none⟩) cS cS)).cell? ⟨l, 3, none⟩ = some (.int .i64 (nx : Int)) := b7.cell 3
      have xf := b7.frozen 3
      have hl7 := cell_lt x3
      clear hK hK2 hK3 y2 yf z2 zf
      go_wp2_with fail
      obtain ⟨wE, hwE⟩ : ∃ z, z = (w6.setCell ⟨l, 2, none⟩ (.slice (some ⟨gS, 0, none⟩) cS cS)).setCell ⟨l, 3, none⟩ (.int .i64 (i : Int)) := ⟨_, rfl⟩
      rw [← hwE]
      have tE : Turn (fun q => q = l) w6 wE := by
        rw [hwE]
        exact ((Turn.of_grown (grown_set w6 l _ _)).mono (fun q e => Option.some.inj e)).trans ((Turn.of_grown (grown_set _ l _ _)).mono (fun q e => Option.some.inj e))
      have BE := b7.stored 3 (.int .i64 (i : Int))
      rw [← hwE] at BE
      have PE := R6.out.off tE (fun q e => by rw [e]; exact blk_off B6.out)
      have DE := D6.out.turn tE (fun q hf e => AP5.out q hf (e ▸ HGL.out))
      have TE := T6.out.then tE (fun q e => .inl (.inr (e ▸ HGL.out)))
      go_ret
      refine ⟨rfl, F5, ?_, TE, FF5.out⟩
      rw [HCUT.out X1 L1 HXS.out HLS.out]
      exact ⟨DE, ⟨_, X1.take cS, rfl, PE.log BE HGL.out (fun q hq => by have := HGW.out q hq; have := TE.size; omega)⟩, AP5.out⟩
    · skip
      have r0 : w3.cell? ⟨l, 0, none⟩ = some (.pointer (some ⟨dp, 0, none⟩)) := B3.out.cell 0
      have r2 : w3.cell? ⟨l, 2, none⟩ = some (.slice (some ⟨gS, 0, none⟩) N cS) := B3.out.cell 2
      have r3 : w3.cell? ⟨l, 3, none⟩ = some (.int .i64 (nx : Int)) := B3.out.cell 3
      have hl3 := cell_lt r0
      go_wp2_with fail
      have hd0 : X1.drop N = [] := List.drop_of_length_le (by have := HX1.out; omega)
      refine (pfirstsO_any _ (some ⟨gS, N * 3, none⟩) 0 (cS - N) (X1.drop N) (by rw [hd0]; rfl) (by omega) (fun q hq => absurd hq (by rw [hd0]; simp)) (by omega) (fun x hx => R3.out.forms x (List.mem_of_mem_drop hx))).mono ?_
      rintro e w4 ⟨u4, rfl, o4, k4⟩
      have k4 : Below w3.heap.size w3 w4 := ⟨k4.os, k4.tape, k4.output, k4.size, k4.block⟩
      have B4 := hide (B3.out.turn (Turn.of_below (fun _ => False) k4) id)
      have R4 := hide (R3.out.below k4)
      have D4 := hide (D3.out.below k4)
      have o4 : OwnN w4 w3.heap.size u4 (((X1.drop N).map (·.1)).map fun n : Nat => (n : Int)) := by rw [List.map_map]; exact o4
      have O4 := hide o4
      have K4 := hide k4
      have hm4 : Hid (((X1.drop N).map (·.1)).length ≤ 1073741824) := hide (by rw [List.length_map, List.length_drop, HX1.out]; omega)
      clear o4 k4 r0 r2 r3
      go_wp2_with fail
      refine (premove_any _ F1 G dp l room s ⟨X1.map segP, nx⟩ L1 u4 w3.heap.size ((X1.drop N).map (·.1)) ⟨D4.out, ⟨_, X1, rfl, R4.out.log B4.out HGL.out (fun q hq => by have := HGW.out q hq; have := T3.out.size; have := K4.out.size; omega)⟩, AP3.out⟩ hs O4.out (fun q hq hf => by have := (World.ownsRow.lt O4.out q hq).1; have := D3.out.low q hf; omega) HL1.out hm4.out).mono ?_
      rintro e w5 ⟨rfl, F5, b5, n5⟩
      have hnl5 : ¬ F1 l := fun hf => AP3.out l hf HGL.out
      have B5 := hide (B4.out.turn n5.turn hnl5)
      have R5 := hide (R4.out.turn n5.turn (fun q hg hf => AP3.out q hf hg))
      have D5 := hide b5.disk
      have AP5 := hide b5.apart
      have T5 := hide ((T3.out.then (Turn.of_below (fun _ => False) K4.out) (fun _ => False.elim)).then n5.turn (fun q hq => (FF3.out q hq).imp .inl id))
      have FF5 := hide (fun q (hq : F5 q) => (n5.foot q hq).elim (fun h => FF3.out q h) (fun h => .inr (by have := T3.out.size; have := K4.out.size; omega)))
      have z2 : w5.cell? ⟨l, 2, none⟩ = some (.slice (some ⟨gS, 0, none⟩) N cS) := B5.out.cell 2
      have zf := B5.out.frozen 2
      have hl5 := cell_lt z2
      clear b5 n5 hnl5
      go_wp2_with fail
      refine Ways.start (fun W => W.cell? ⟨l, 2, none⟩ = some (.slice (some ⟨gS, 0, none⟩) N cS)) 14 15 #[false, false, false, false, false, false, false, false, false, false, false, false, false, false, false] (by kernel_rfl) (by kernel_rfl) (by kernel_rfl) ?_
      have hHeld : w5.drew.cell? ⟨l, 2, none⟩ = some (.slice (some ⟨gS, 0, none⟩) N cS) := z2
      refine' Ways.take (i := 0) (oi := ⟨_, _, _, _, _, _⟩) (v := _) rfl (by kernel_rfl) (by kernel_rfl) (by kernel_rfl) (by kernel_rfl) (fun _ _ _ h => h) hHeld (Or.inl ⟨rfl, ?_⟩) ?_
      rotate_left
      · (intro W hW; (try dsimp only at hW); go_simp; (try with_reducible rfl))
      try simp only [Act.put, List.setIfInBounds_toArray, List.set_cons_zero, List.set_cons_succ]
      refine' Ways.take (i := 1) (oi := ⟨_, _, _, _, _, _⟩) (v := _) rfl (by kernel_rfl) (by kernel_rfl) (by kernel_rfl) (by kernel_rfl) (fun _ _ _ h => h) hHeld (Or.inl ⟨rfl, ?_⟩) ?_
      rotate_left
      · (intro W hW; (try dsimp only at hW); go_simp; (try with_reducible rfl))
      try simp only [Act.put, List.setIfInBounds_toArray, List.set_cons_zero, List.set_cons_succ]
      refine' Ways.take (i := 2) (oi := ⟨_, _, _, _, _, _⟩) (v := _) rfl (by kernel_rfl) (by kernel_rfl) (by kernel_rfl) (by kernel_rfl) (fun _ _ _ h => h) hHeld (Or.inl ⟨rfl, ?_⟩) ?_
      rotate_left
      · (intro W hW; (try dsimp only at hW); go_simp; (try with_reducible rfl))
      try simp only [Act.put, List.setIfInBounds_toArray, List.set_cons_zero, List.set_cons_succ]
      refine' Ways.take (i := 3) (oi := ⟨_, _, _, _, _, _⟩) (v := _) rfl (by kernel_rfl) (by kernel_rfl) (by kernel_rfl) (by kernel_rfl) (fun _ _ _ h => h) hHeld (Or.inl ⟨rfl, ?_⟩) ?_
      rotate_left
      · (intro W hW; (try dsimp only at hW); go_simp; (try with_reducible rfl))
      try simp only [Act.put, List.setIfInBounds_toArray, List.set_cons_zero, List.set_cons_succ]
      refine' Ways.take (i := 4) (oi := ⟨_, _, _, _, _, _⟩) (v := _) rfl (by kernel_rfl) (by kernel_rfl) (by kernel_rfl) (by kernel_rfl) (fun _ _ _ h => h) hHeld (Or.inl ⟨rfl, ?_⟩) ?_
      rotate_left
      · (intro W hW; (try dsimp only at hW); go_simp; (try with_reducible rfl))
      try simp only [Act.put, List.setIfInBounds_toArray, List.set_cons_zero, List.set_cons_succ]
      refine' Ways.take (i := 5) (oi := ⟨_, _, _, _, _, _⟩) (v := _) rfl (by kernel_rfl) (by kernel_rfl) (by kernel_rfl) (by kernel_rfl) (fun _ _ _ h => h) hHeld (Or.inl ⟨rfl, ?_⟩) ?_
      rotate_left
      · (intro W hW; (try dsimp only at hW); go_simp; (try with_reducible rfl))
      try simp only [Act.put, List.setIfInBounds_toArray, List.set_cons_zero, List.set_cons_succ]
      refine' Ways.take (i := 6) (oi := ⟨_, _, _, _, _, _⟩) (v := _) rfl (by kernel_rfl) (by kernel_rfl) (by kernel_rfl) (by kernel_rfl) (fun _ _ _ h => h) hHeld (Or.inl ⟨rfl, ?_⟩) ?_
      rotate_left
      · (intro W hW; (try dsimp only at hW); go_simp; (try with_reducible rfl))
      try simp only [Act.put, List.setIfInBounds_toArray, List.set_cons_zero, List.set_cons_succ]
      refine' Ways.take (i := 7) (oi := ⟨_, _, _, _, _, _⟩) (v := _) rfl (by kernel_rfl) (by kernel_rfl) (by kernel_rfl) (by kernel_rfl) (fun _ _ _ h => h) hHeld (Or.inl ⟨rfl, ?_⟩) ?_
      rotate_left
      · (intro W hW; (try dsimp only at hW); go_simp; (try with_reducible rfl))
      try simp only [Act.put, List.setIfInBounds_toArray, List.set_cons_zero, List.set_cons_succ]
      refine' Ways.take (i := 8) (oi := ⟨_, _, _, _, _, _⟩) (v := _) rfl (by kernel_rfl) (by kernel_rfl) (by kernel_rfl) (by kernel_rfl) (fun _ _ _ h => h) hHeld (Or.inl ⟨rfl, ?_⟩) ?_
      rotate_left
      · (intro W hW; (try dsimp only at hW); go_simp; (try with_reducible rfl))
      try simp only [Act.put, List.setIfInBounds_toArray, List.set_cons_zero, List.set_cons_succ]
      refine' Ways.take (i := 9) (oi := ⟨_, _, _, _, _, _⟩) (v := _) rfl (by kernel_rfl) (by kernel_rfl) (by kernel_rfl) (by kernel_rfl) (fun _ _ _ h => h) hHeld (Or.inl ⟨rfl, ?_⟩) ?_
      rotate_left
      · (intro W hW; (try dsimp only at hW); go_simp; (try with_reducible rfl))
      try simp only [Act.put, List.setIfInBounds_toArray, List.set_cons_zero, List.set_cons_succ]
      refine' Ways.take (i := 10) (oi := ⟨_, _, _, _, _, _⟩) (v := _) rfl (by kernel_rfl) (by kernel_rfl) (by kernel_rfl) (by kernel_rfl) (fun _ _ _ h => h) hHeld (Or.inl ⟨rfl, ?_⟩) ?_
      rotate_left
      · (intro W hW; (try dsimp only at hW); go_simp; (try with_reducible rfl))
      try simp only [Act.put, List.setIfInBounds_toArray, List.set_cons_zero, List.set_cons_succ]
      refine Ways.one (i := 11) (by kernel_rfl) rfl (fun K hK => ?_)
      go_simp
      go_at_call 109
      refine (del_segs_same (some ⟨gS, 0, none⟩) N cS N w5.drew (Nat.le_refl _) hlc hc63 (fun h => by cases h) (fun a h => ⟨gS, (Option.some.inj h).symm⟩)).mono ?_
      rintro e w6 ⟨rfl, k6⟩
      have k6 : Below w5.heap.size w5 w6 := ⟨k6.os, k6.tape, k6.output, k6.size, k6.block⟩
      have hX1t : X1.take N = X1 := List.take_of_length_le (by have := HX1.out; omega)
      have R6 := hide (show PRow w6 G (.slice (some ⟨gS, 0, none⟩) N cS) (X1.take N) from by rw [hX1t]; exact R5.out.below k6)
      have B6 := hide (B5.out.turn (Turn.of_below (fun _ => False) k6) id)
      have D6 := hide (D5.out.below k6)
      have T6 := hide (T5.out.then (Turn.of_below (fun _ => False) k6) (fun _ => False.elim))
      clear k6
      have y2 : w6.cell? ⟨l, 2, none⟩ = some (.slice (some ⟨gS, 0, none⟩) N cS) := B6.out.cell 2
      have yf := B6.out.frozen 2
      refine hK.out _ _ y2 ?_
      try simp only [List.setIfInBounds_toArray, List.set_cons_zero, List.set_cons_succ]
      refine Ways.one (i := 12) (by kernel_rfl) rfl (fun K3 hK3 => ?_)
      go_simp
      refine hK3.out _ _ y2 ?_
      try simp only [List.setIfInBounds_toArray, List.set_cons_zero, List.set_cons_succ]
      refine' Ways.take (i := 13) (oi := ⟨_, _, _, _, _, _⟩) (v := _) rfl (by kernel_rfl) (by kernel_rfl) (by kernel_rfl) (by kernel_rfl) (fun _ _ _ h => h) y2 (Or.inl ⟨rfl, ?_⟩) ?_
      rotate_left
      · (intro W hW; (try dsimp only at hW); go_simp; (try with_reducible rfl))
      try simp only [Act.put, List.setIfInBounds_toArray, List.set_cons_zero, List.set_cons_succ]
      refine Ways.last (by kernel_rfl) rfl (by kernel_rfl) (fun K2 hK2 => ?_)
      go_simp
      refine hK2.out _ _ ?_
      try simp only [Act.put, List.setIfInBounds_toArray, List.set_cons_zero, List.set_cons_succ]
      have b7 := B6.out.stored 2 (.slice (some ⟨gS, 0, none⟩) N cS)
      have x3 : (w6.setCell ⟨l, 2, none⟩ (.slice (some ⟨gS, 0, none⟩) N cS)).cell? ⟨l, 3, none⟩ = some (.int .i64 (nx : Int)) := b7.cell 3
      have xf := b7.frozen 3
      have hl7 := cell_lt x3
      clear hK hK2 hK3 y2 yf z2 zf
      go_wp2_with fail
      obtain ⟨wE, hwE⟩ : ∃ z, z = (w6.setCell ⟨l, 2, none⟩ (.slice (some ⟨gS, 0, none⟩) N cS)).setCell ⟨l, 3, none⟩ (.int .i64 (i : Int)) := ⟨_, rfl⟩
      rw [← hwE]
      have tE : Turn (fun q => q = l) w6 wE := by
        rw [hwE]
        exact ((Turn.of_grown (grown_set w6 l _ _)).mono (fun q e => Option.some.inj e)).trans ((Turn.of_grown (grown_set _ l _ _)).mono (fun q e => Option.some.inj e))
      have BE := b7.stored 3 (.int .i64 (i : Int))
      rw [← hwE] at BE
      have PE := R6.out.off tE (fun q e => by rw [e]; exact blk_off B6.out)
      have DE := D6.out.turn tE (fun q hf e => AP5.out q hf (e ▸ HGL.out))
      have TE := T6.out.then tE (fun q e => .inl (.inr (e ▸ HGL.out)))
      go_ret
      refine ⟨rfl, F5, ?_, TE, FF5.out⟩
      rw [HCUT.out X1 L1 HXS.out HLS.out]
      exact ⟨DE, ⟨_, X1.take N, rfl, PE.log BE HGL.out (fun q hq => by have := HGW.out q hq; have := TE.size; omega)⟩, AP5.out⟩
end Go.Proofs.YtejhoefmcldpnaaGreat
