/- The program's Drop. Condition: fewer than 2 to the 30 segments, numbers below 2 to the 40. -/
import Derived.Test.YtaoplofhogenmaaW31
namespace Go.Proofs.Ytaoplofhogenmaa
open Go.RowKit Go.Maps
set_option maxRecDepth 100000 in
theorem pdrop_nil (w : World) (z : Int) : Calls Try.prog 17 #[.pointer none, .int .i64 z] w fun e w' => e = .returned (.int .i64 1) ∧ Below w.heap.size w w' := by
  have HB := hide (preaches_nil w z)
  go_enter Try.func17, Try.ntmps17
  go_wp2_with fail
  refine HB.out.mono ?_
  rintro e w1 ⟨rfl, k⟩
  have K := hide k
  go_wp2_with fail
  go_ret
  exact ⟨rfl, K.out⟩
set_option maxRecDepth 100000 in
theorem pdrop_bad (w : World) (G : Nat → Prop) (l dp : Nat) (s : ByteArray) (P : PLog) (z : Int) (h : PLogAt w G l dp s P) (hz : z < (firstP P : Int) ∨ (P.next : Int) < z) :
    Calls Try.prog 17 #[.pointer (some ⟨l, 0, none⟩), .int .i64 z] w fun e w' => e = .returned (.int .i64 1) ∧ Below w.heap.size w w' := by
  have HB := preaches_any w G l dp s P z h
  rw [decide_eq_false (by omega)] at HB
  have HB := hide HB
  clear hz h
  go_enter Try.func17, Try.ntmps17
  go_wp2_with fail
  refine HB.out.mono ?_
  rintro e w1 ⟨rfl, d, rfl⟩
  go_wp2_with fail
  go_ret
  exact ⟨rfl, below_drewN (Below.refl _ _) d⟩
theorem del_segs_zero (A : Option Addr) (N c : Nat) (w : World) (hc : N ≤ c) (hc2 : c ≤ 9223372036854775807) (hA : A = none → c = 0) (hoff : ∀ a, A = some a → ∃ b, a = ⟨b, 0, none⟩) :
    Calls Try.prog 38 #[.slice A N c, .int .i64 0, .int .i64 0] w fun e w' => e = .returned (.slice A N c) ∧ Below w.heap.size w w' := by
  have h := del_segs_same A N c 0 w (Nat.zero_le _) hc hc2 hA hoff
  exact h
theorem del_segs_front (b N c j M : Nat) (X : List Sgp) (w : World) (hown : w.ownsRow 0 60 3 (.slice (some ⟨b, 0, none⟩) N c) N (cellsP X)) (hone : ∀ v ∈ cellsP X, v.oneCell' = true) (h0 : 0 < j) (hj : j ≤ N) (hM : M = N - j) (hc : N ≤ c) (hc2 : c ≤ 9223372036854775807) :
    Calls Try.prog 38 #[.slice (some ⟨b, 0, none⟩) N c, .int .i64 0, .int .i64 (j : Int)] w fun e w' => e = .returned (.slice (some ⟨b, 0, none⟩) M c) ∧ w'.ownsRow 0 60 3 (.slice (some ⟨b, 0, none⟩) M c) M (cellsP (X.drop j)) ∧ w.grownBy w' (some b) := by
  have h := del_segs b N c 0 j M (cellsP X) w hown hone h0 hj (by omega) hc hc2
  rw [Nat.zero_mul, List.take_zero, List.nil_append, cellsP_drop] at h
  exact h
set_option maxRecDepth 100000 in
set_option maxHeartbeats 3200000 in
theorem pdrop_empty (w : World) (F G : Nat → Prop) (dp l room : Nat) (s : ByteArray) (P : PLog) (L : DiskL) (i gone : Nat) (h : PBoth w F G dp l room s P L) (hs : s.size ≤ 64) (hi1 : firstP P ≤ i) (hi2 : i ≤ P.next) (hnx : P.next ≤ 1099511627776)
    (hsl : P.segs.length ≤ 1073741824) (hr : ∀ a b (ha : a < P.segs.length) (hb : b < P.segs.length), a < b → P.segs[a].1 < P.segs[b].1) (hlow : ∀ x ∈ P.segs, x.1 ≤ 1099511627776) (hX : P.segs = []) (hg : gone = 0) :
    Calls Try.prog 17 #[.pointer (some ⟨l, 0, none⟩), .int .i64 (i : Int)] w fun e w' => ∃ R : PLog × DiskL, R = dropP s.data.toList gone P L ∧ e = .returned (.int .i64 0) ∧ ∃ F', PBoth w' F' G dp l room s R.1 R.2 ∧ Turn (fun k => F k ∨ G k) w w' ∧ ∀ k, F' k → F k ∨ w.heap.size ≤ k := by
  obtain ⟨segs, nx⟩ := P
  obtain ⟨hD, ⟨vS, X, e, h⟩, hap⟩ := h
  simp only at e h hi1 hi2 hnx hsl hr hlow hX
  have hXe : segs.length = X.length := by rw [e, List.length_map]
  have hat : ∀ j (hj : j < X.length), segs[j]'(by omega) = segP X[j] := fun j hj => by simp only [e, List.getElem_map]
  have HRE := preaches_any w G l dp s ⟨segs, nx⟩ (i : Int) ⟨vS, X, e, h⟩
  dsimp only at HRE
  rw [decide_eq_true (by omega)] at HRE
  have HRE := hide HRE
  obtain ⟨AS, cS, eS, hlc, hc63, hnil, hcell⟩ := rowP_form h.row
  subst eS
  obtain ⟨N, hN⟩ : ∃ N, N = X.length := ⟨_, rfl⟩
  have hNl : N ≤ 1073741824 := by omega
  rw [← hN] at hlc h
  have hlowX : ∀ x ∈ X, x.1 ≤ 1099511627776 := fun x hx => hlow (segP x) (by rw [e]; exact List.mem_map.2 ⟨x, hx, rfl⟩)
  have hN0 : N = 0 := by rw [hN, ← hXe, hX]; rfl
  have hin : i = nx := by
    have h9 : firstP ⟨segs, nx⟩ = nx := by unfold firstP; rw [hX]; rfl
    omega
  have hz : ¬ (i : Int) < (nx : Int) := by omega
  have HGL : Hid (G l) := hide h.own
  have HGW : Hid (∀ q, G q → q < w.heap.size) := hide h.low
  have HDR : Hid (dropP s.data.toList gone ⟨segs, nx⟩ L = (⟨(X.drop gone).map segP, nx⟩, removesL s.data.toList ((X.take gone).map (·.1)) L)) := hide (by
    unfold dropP
    dsimp only
    rw [e, ← List.map_drop, ← List.map_take, List.map_map]
    rfl)
  have HD := hide hD
  have HP0 := hide h.prow
  have HB0 := hide h.cells
  have HAP := hide hap
  have HN := hide hN
  have HE := hide e
  have HLX := hide hlowX
  have HGO := hide hg
  have c2 : w.cell? ⟨l, 2, none⟩ = some (.slice AS N cS) := h.cells.cell 2
  have c3 : w.cell? ⟨l, 3, none⟩ = some (.int .i64 (nx : Int)) := h.cells.cell 3
  have hll := cell_lt c2
  clear hD h hap hXe hat hr hlow hlowX hi1 hi2 hN e hcell hsl hin
  rcases AS with _ | a
  · have hc0 : cS = 0 := hnil rfl
    clear hnil
    subst hg
    subst hN0
    subst hc0
    go_enter Try.func17, Try.ntmps17
    go_wp2_with fail
    refine HRE.out.mono ?_
    rintro e w1 ⟨rfl, d1, rfl⟩
    have kd1 : Below w.heap.size w (w.drewN d1) := below_drewN (Below.refl _ _) d1
    obtain ⟨w1, hw1e⟩ : ∃ z, z = w.drewN d1 := ⟨_, rfl⟩
    rw [← hw1e] at kd1 ⊢
    have p2 := (kd1.cell (p := ⟨l, 2, none⟩) hll).trans c2
    have p3 := (kd1.cell (p := ⟨l, 3, none⟩) hll).trans c3
    have KD := hide kd1
    clear hw1e kd1 c2 c3
    go_wp2_with fail
    have K2 := KD
    have B3 := hide (HB0.out.turn (Turn.of_below (fun _ => False) K2.out) id)
    have R3 := hide (HP0.out.below K2.out)
    have D3 := hide (HD.out.below K2.out)
    have hd0 : X.take 0 = [] := rfl
    refine (pfirstsO_any _ none 0 0 (X.take 0) rfl (by omega) (fun q hq => absurd hq (by simp)) (by omega) (fun x hx => by cases hx)).mono ?_
    rintro e w4 ⟨u4, rfl, o4, k4⟩
    have k4 : Below w1.heap.size w1 w4 := ⟨k4.os, k4.tape, k4.output, k4.size, k4.block⟩
    have B4 := hide (B3.out.turn (Turn.of_below (fun _ => False) k4) id)
    have R4 := hide (R3.out.below k4)
    have D4 := hide (D3.out.below k4)
    have o4 : OwnN w4 w1.heap.size u4 (((X.take 0).map (·.1)).map fun n : Nat => (n : Int)) := by rw [List.map_map]; exact o4
    have O4 := hide o4
    have K4 := hide k4
    have hm4 : Hid (((X.take 0).map (·.1)).length ≤ 1073741824) := hide (by rw [List.length_map, List.length_take]; omega)
    clear o4 k4 p2 p3
    go_wp2_with fail
    refine (premove_any _ F G dp l room s ⟨X.map segP, nx⟩ L u4 w1.heap.size ((X.take 0).map (·.1)) ⟨D4.out, ⟨_, X, rfl, R4.out.log B4.out HGL.out (fun q hq => by have := HGW.out q hq; have := K2.out.size; have := K4.out.size; omega)⟩, HAP.out⟩ hs O4.out (fun q hq hf => by have := (World.ownsRow.lt O4.out q hq).1; have := D3.out.low q hf; omega) (fun n hn => by obtain ⟨x, hx, rfl⟩ := List.mem_map.1 hn; exact HLX.out x (List.mem_of_mem_take hx)) hm4.out).mono ?_
    rintro e w5 ⟨rfl, F5, b5, n5⟩
    have hnl5 : ¬ F l := fun hf => HAP.out l hf HGL.out
    have B5 := hide (B4.out.turn n5.turn hnl5)
    have R5 := hide (R4.out.turn n5.turn (fun q hg hf => HAP.out q hf hg))
    have D5 := hide b5.disk
    have AP5 := hide b5.apart
    have T5 : Hid (Turn (fun k => F k ∨ G k) w w5) := hide (((Turn.of_below _ K2.out).then (Turn.of_below (fun _ => False) K4.out) (fun _ => False.elim)).then n5.turn (fun q hq => .inl (.inl hq)))
    have FF5 := hide (fun q (hq : F5 q) => (n5.foot q hq).elim (fun h => Or.inl h) (fun h => Or.inr (show w.heap.size ≤ q by have := K2.out.size; have := K4.out.size; omega)))
    have z2 : w5.cell? ⟨l, 2, none⟩ = some (.slice none 0 0) := B5.out.cell 2
    have hl5 := cell_lt z2
    clear b5 n5 hnl5
    go_wp2_with fail
    refine (del_segs_zero none 0 0 _ hlc hc63 (fun _ => rfl) (fun a h => by cases h)).mono ?_
    rintro e w6 ⟨rfl, k6⟩
    have hX0 : X.drop 0 = X := rfl
    have R6 := hide (show PRow w6 G (.slice none 0 0) (X.drop 0) from by rw [hX0]; exact R5.out.below k6)
    have B6 := hide (B5.out.turn (Turn.of_below (fun _ => False) k6) id)
    have D6 := hide (D5.out.below k6)
    have T6 := hide (T5.out.then (Turn.of_below (fun _ => False) k6) (fun _ => False.elim))
    clear k6
    have y2 : w6.cell? ⟨l, 2, none⟩ = some (.slice none 0 0) := B6.out.cell 2
    have yf := B6.out.frozen 2
    have hl6 := cell_lt y2
    clear z2
    go_wp2_with fail
    obtain ⟨wE, hwE⟩ : ∃ z, z = w6.setCell ⟨l, 2, none⟩ (.slice none 0 0) := ⟨_, rfl⟩
    rw [← hwE]
    have tE : Turn (fun q => q = l) w6 wE := by
      rw [hwE]
      exact (Turn.of_grown (grown_set w6 l _ _)).mono (fun q e => Option.some.inj e)
    have BE := B6.out.stored 2 (.slice none 0 0)
    rw [← hwE] at BE
    have PE := R6.out.off tE (fun q e => by rw [e]; exact blk_off B6.out)
    have DE := D6.out.turn tE (fun q hf e => AP5.out q hf (e ▸ HGL.out))
    have TE := T6.out.then tE (fun q e => .inl (.inr (e ▸ HGL.out)))
    go_ret
    refine ⟨_, rfl, rfl, F5, ?_, TE, FF5.out⟩
    rw [HDR.out]
    exact ⟨DE, ⟨_, X.drop 0, rfl, PE.log BE HGL.out (fun q hq => by have := HGW.out q hq; have := TE.size; omega)⟩, AP5.out⟩
  · have hgs : ∃ gS, a = ⟨gS, 0, none⟩ := by
      rcases HP0.out.row.2 with ⟨e1, _⟩ | ⟨g, cap, cur, e1, _⟩
      · cases e1
      · cases e1
        exact ⟨g, rfl⟩
    obtain ⟨gS, rfl⟩ := hgs
    clear hnil
    subst hg
    subst hN0
    go_enter Try.func17, Try.ntmps17
    go_wp2_with fail
    refine HRE.out.mono ?_
    rintro e w1 ⟨rfl, d1, rfl⟩
    have kd1 : Below w.heap.size w (w.drewN d1) := below_drewN (Below.refl _ _) d1
    obtain ⟨w1, hw1e⟩ : ∃ z, z = w.drewN d1 := ⟨_, rfl⟩
    rw [← hw1e] at kd1 ⊢
    have p2 := (kd1.cell (p := ⟨l, 2, none⟩) hll).trans c2
    have p3 := (kd1.cell (p := ⟨l, 3, none⟩) hll).trans c3
    have KD := hide kd1
    clear hw1e kd1 c2 c3
    go_wp2_with fail
    have K2 := KD
    have B3 := hide (HB0.out.turn (Turn.of_below (fun _ => False) K2.out) id)
    have R3 := hide (HP0.out.below K2.out)
    have D3 := hide (HD.out.below K2.out)
    have hd0 : X.take 0 = [] := rfl
    refine (pfirstsO_any _ (some ⟨gS, 0, none⟩) 0 cS (X.take 0) rfl (by omega) (fun q hq => absurd hq (by simp)) (by omega) (fun x hx => by cases hx)).mono ?_
    rintro e w4 ⟨u4, rfl, o4, k4⟩
    have k4 : Below w1.heap.size w1 w4 := ⟨k4.os, k4.tape, k4.output, k4.size, k4.block⟩
    have B4 := hide (B3.out.turn (Turn.of_below (fun _ => False) k4) id)
    have R4 := hide (R3.out.below k4)
    have D4 := hide (D3.out.below k4)
    have o4 : OwnN w4 w1.heap.size u4 (((X.take 0).map (·.1)).map fun n : Nat => (n : Int)) := by rw [List.map_map]; exact o4
    have O4 := hide o4
    have K4 := hide k4
    have hm4 : Hid (((X.take 0).map (·.1)).length ≤ 1073741824) := hide (by rw [List.length_map, List.length_take]; omega)
    clear o4 k4 p2 p3
    go_wp2_with fail
    refine (premove_any _ F G dp l room s ⟨X.map segP, nx⟩ L u4 w1.heap.size ((X.take 0).map (·.1)) ⟨D4.out, ⟨_, X, rfl, R4.out.log B4.out HGL.out (fun q hq => by have := HGW.out q hq; have := K2.out.size; have := K4.out.size; omega)⟩, HAP.out⟩ hs O4.out (fun q hq hf => by have := (World.ownsRow.lt O4.out q hq).1; have := D3.out.low q hf; omega) (fun n hn => by obtain ⟨x, hx, rfl⟩ := List.mem_map.1 hn; exact HLX.out x (List.mem_of_mem_take hx)) hm4.out).mono ?_
    rintro e w5 ⟨rfl, F5, b5, n5⟩
    have hnl5 : ¬ F l := fun hf => HAP.out l hf HGL.out
    have B5 := hide (B4.out.turn n5.turn hnl5)
    have R5 := hide (R4.out.turn n5.turn (fun q hg hf => HAP.out q hf hg))
    have D5 := hide b5.disk
    have AP5 := hide b5.apart
    have T5 : Hid (Turn (fun k => F k ∨ G k) w w5) := hide (((Turn.of_below _ K2.out).then (Turn.of_below (fun _ => False) K4.out) (fun _ => False.elim)).then n5.turn (fun q hq => .inl (.inl hq)))
    have FF5 := hide (fun q (hq : F5 q) => (n5.foot q hq).elim (fun h => Or.inl h) (fun h => Or.inr (show w.heap.size ≤ q by have := K2.out.size; have := K4.out.size; omega)))
    have z2 : w5.cell? ⟨l, 2, none⟩ = some (.slice (some ⟨gS, 0, none⟩) 0 cS) := B5.out.cell 2
    have hl5 := cell_lt z2
    clear b5 n5 hnl5
    go_wp2_with fail
    refine (del_segs_zero (some ⟨gS, 0, none⟩) 0 cS _ hlc hc63 (fun h => by cases h) (fun a h => ⟨gS, (Option.some.inj h).symm⟩)).mono ?_
    rintro e w6 ⟨rfl, k6⟩
    have hX0 : X.drop 0 = X := rfl
    have R6 := hide (show PRow w6 G (.slice (some ⟨gS, 0, none⟩) 0 cS) (X.drop 0) from by rw [hX0]; exact R5.out.below k6)
    have B6 := hide (B5.out.turn (Turn.of_below (fun _ => False) k6) id)
    have D6 := hide (D5.out.below k6)
    have T6 := hide (T5.out.then (Turn.of_below (fun _ => False) k6) (fun _ => False.elim))
    clear k6
    have y2 : w6.cell? ⟨l, 2, none⟩ = some (.slice (some ⟨gS, 0, none⟩) 0 cS) := B6.out.cell 2
    have yf := B6.out.frozen 2
    have hl6 := cell_lt y2
    clear z2
    go_wp2_with fail
    obtain ⟨wE, hwE⟩ : ∃ z, z = w6.setCell ⟨l, 2, none⟩ (.slice (some ⟨gS, 0, none⟩) 0 cS) := ⟨_, rfl⟩
    rw [← hwE]
    have tE : Turn (fun q => q = l) w6 wE := by
      rw [hwE]
      exact (Turn.of_grown (grown_set w6 l _ _)).mono (fun q e => Option.some.inj e)
    have BE := B6.out.stored 2 (.slice (some ⟨gS, 0, none⟩) 0 cS)
    rw [← hwE] at BE
    have PE := R6.out.off tE (fun q e => by rw [e]; exact blk_off B6.out)
    have DE := D6.out.turn tE (fun q hf e => AP5.out q hf (e ▸ HGL.out))
    have TE := T6.out.then tE (fun q e => .inl (.inr (e ▸ HGL.out)))
    go_ret
    refine ⟨_, rfl, rfl, F5, ?_, TE, FF5.out⟩
    rw [HDR.out]
    exact ⟨DE, ⟨_, X.drop 0, rfl, PE.log BE HGL.out (fun q hq => by have := HGW.out q hq; have := TE.size; omega)⟩, AP5.out⟩
set_option maxRecDepth 100000 in
set_option maxHeartbeats 3200000 in
theorem pdrop_all (w : World) (F G : Nat → Prop) (dp l room : Nat) (s : ByteArray) (P : PLog) (L : DiskL) (i gone : Nat) (h : PBoth w F G dp l room s P L) (hs : s.size ≤ 64) (hi1 : firstP P ≤ i) (hi2 : i ≤ P.next) (hnx : P.next ≤ 1099511627776)
    (hsl : P.segs.length ≤ 1073741824) (hr : ∀ a b (ha : a < P.segs.length) (hb : b < P.segs.length), a < b → P.segs[a].1 < P.segs[b].1) (hlow : ∀ x ∈ P.segs, x.1 ≤ 1099511627776) (hX : 0 < P.segs.length) (hin : i = P.next) (hg : gone = P.segs.length) :
    Calls Try.prog 17 #[.pointer (some ⟨l, 0, none⟩), .int .i64 (i : Int)] w fun e w' => ∃ R : PLog × DiskL, R = dropP s.data.toList gone P L ∧ e = .returned (.int .i64 0) ∧ ∃ F', PBoth w' F' G dp l room s R.1 R.2 ∧ Turn (fun k => F k ∨ G k) w w' ∧ ∀ k, F' k → F k ∨ w.heap.size ≤ k := by
  obtain ⟨segs, nx⟩ := P
  obtain ⟨hD, ⟨vS, X, e, h⟩, hap⟩ := h
  simp only at e h hi1 hi2 hnx hsl hr hlow hX hin hg
  have hXe : segs.length = X.length := by rw [e, List.length_map]
  have hat : ∀ j (hj : j < X.length), segs[j]'(by omega) = segP X[j] := fun j hj => by simp only [e, List.getElem_map]
  have HRE := preaches_any w G l dp s ⟨segs, nx⟩ (i : Int) ⟨vS, X, e, h⟩
  dsimp only at HRE
  rw [decide_eq_true (by omega)] at HRE
  have HRE := hide HRE
  obtain ⟨AS, cS, eS, hlc, hc63, hnil, hcell⟩ := rowP_form h.row
  subst eS
  obtain ⟨N, hN⟩ : ∃ N, N = X.length := ⟨_, rfl⟩
  have hNl : N ≤ 1073741824 := by omega
  rw [← hN] at hlc h
  have hlowX : ∀ x ∈ X, x.1 ≤ 1099511627776 := fun x hx => hlow (segP x) (by rw [e]; exact List.mem_map.2 ⟨x, hx, rfl⟩)
  obtain ⟨gS, eA, -, -⟩ := hcell 0 (by omega)
  subst eA
  have hN1 : 0 < N := by omega
  have hgN : gone = N := by omega
  have hz : ¬ (i : Int) < (nx : Int) := by omega
  have HGL : Hid (G l) := hide h.own
  have HGW : Hid (∀ q, G q → q < w.heap.size) := hide h.low
  have HDR : Hid (dropP s.data.toList gone ⟨segs, nx⟩ L = (⟨(X.drop gone).map segP, nx⟩, removesL s.data.toList ((X.take gone).map (·.1)) L)) := hide (by
    unfold dropP
    dsimp only
    rw [e, ← List.map_drop, ← List.map_take, List.map_map]
    rfl)
  have HD := hide hD
  have HP0 := hide h.prow
  have HB0 := hide h.cells
  have HAP := hide hap
  have HN := hide hN
  have HE := hide e
  have HLX := hide hlowX
  have HGO := hide hg
  have c2 : w.cell? ⟨l, 2, none⟩ = some (.slice (some ⟨gS, 0, none⟩) N cS) := h.cells.cell 2
  have c3 : w.cell? ⟨l, 3, none⟩ = some (.int .i64 (nx : Int)) := h.cells.cell 3
  have hll := cell_lt c2
  clear hD h hap hXe hat hr hlow hlowX hi1 hi2 hN e hcell hsl hin hX hnil hg
  subst hgN
  go_enter Try.func17, Try.ntmps17
  go_wp2_with fail
  refine HRE.out.mono ?_
  rintro e w1 ⟨rfl, d1, rfl⟩
  have kd1 : Below w.heap.size w (w.drewN d1) := below_drewN (Below.refl _ _) d1
  obtain ⟨w1, hw1e⟩ : ∃ z, z = w.drewN d1 := ⟨_, rfl⟩
  rw [← hw1e] at kd1 ⊢
  have p2 := (kd1.cell (p := ⟨l, 2, none⟩) hll).trans c2
  have p3 := (kd1.cell (p := ⟨l, 3, none⟩) hll).trans c3
  have KD := hide kd1
  clear hw1e kd1 c2 c3
  go_wp2_with fail
  have K2 := KD
  have B3 := hide (HB0.out.turn (Turn.of_below (fun _ => False) K2.out) id)
  have R3 := hide (HP0.out.below K2.out)
  have D3 := hide (HD.out.below K2.out)
  refine (pfirstsO_any _ (some ⟨gS, 0, none⟩) gone cS (X.take gone) (by rw [List.length_take, ← HN.out]; omega) (by omega) (by have h9 := R3.out.cellsO 0 gone; rw [List.drop_zero, Nat.zero_mul] at h9; exact h9) (by omega) (fun x hx => R3.out.forms x (List.mem_of_mem_take hx))).mono ?_
  rintro e w4 ⟨u4, rfl, o4, k4⟩
  have k4 : Below w1.heap.size w1 w4 := ⟨k4.os, k4.tape, k4.output, k4.size, k4.block⟩
  have B4 := hide (B3.out.turn (Turn.of_below (fun _ => False) k4) id)
  have R4 := hide (R3.out.below k4)
  have D4 := hide (D3.out.below k4)
  have o4 : OwnN w4 w1.heap.size u4 (((X.take gone).map (·.1)).map fun n : Nat => (n : Int)) := by rw [List.map_map]; exact o4
  have O4 := hide o4
  have K4 := hide k4
  have hm4 : Hid (((X.take gone).map (·.1)).length ≤ 1073741824) := hide (by rw [List.length_map, List.length_take]; omega)
  clear o4 k4 p2 p3
  go_wp2_with fail
  refine (premove_any _ F G dp l room s ⟨X.map segP, nx⟩ L u4 w1.heap.size ((X.take gone).map (·.1)) ⟨D4.out, ⟨_, X, rfl, R4.out.log B4.out HGL.out (fun q hq => by have := HGW.out q hq; have := K2.out.size; have := K4.out.size; omega)⟩, HAP.out⟩ hs O4.out (fun q hq hf => by have := (World.ownsRow.lt O4.out q hq).1; have := D3.out.low q hf; omega) (fun n hn => by obtain ⟨x, hx, rfl⟩ := List.mem_map.1 hn; exact HLX.out x (List.mem_of_mem_take hx)) hm4.out).mono ?_
  rintro e w5 ⟨rfl, F5, b5, n5⟩
  have hnl5 : ¬ F l := fun hf => HAP.out l hf HGL.out
  have B5 := hide (B4.out.turn n5.turn hnl5)
  have R5 := hide (R4.out.turn n5.turn (fun q hg hf => HAP.out q hf hg))
  have D5 := hide b5.disk
  have AP5 := hide b5.apart
  have T5 : Hid (Turn (fun k => F k ∨ G k) w w5) := hide (((Turn.of_below _ K2.out).then (Turn.of_below (fun _ => False) K4.out) (fun _ => False.elim)).then n5.turn (fun q hq => .inl (.inl hq)))
  have FF5 := hide (fun q (hq : F5 q) => (n5.foot q hq).elim (fun h => Or.inl h) (fun h => Or.inr (show w.heap.size ≤ q by have := K2.out.size; have := K4.out.size; omega)))
  have z2 : w5.cell? ⟨l, 2, none⟩ = some (.slice (some ⟨gS, 0, none⟩) gone cS) := B5.out.cell 2
  have hl5 := cell_lt z2
  clear b5 n5 hnl5
  go_wp2_with fail
  obtain ⟨M, hM⟩ : ∃ M, M = gone - gone := ⟨_, rfl⟩
  have hown : w5.ownsRow 0 60 3 (.slice (some ⟨gS, 0, none⟩) gone cS) gone (cellsP X) := by have h9 := R5.out.row; rw [← HN.out] at h9; exact h9
  refine (del_segs_front gS gone cS gone M X _ hown (cellsP_ones X R5.out.each) hN1 (by omega) hM hlc hc63).mono ?_
  rintro e w6 ⟨rfl, o6, g6⟩
  have hl6 : (X.drop gone).length = M := by rw [List.length_drop, ← HN.out, hM]
  rw [← hl6] at o6
  have t6 : Turn (fun q => q = gS) w5 w6 := (Turn.of_grown g6).mono (fun q e => Option.some.inj e)
  have hgl : ¬ l = gS := fun e => ownsRow_notIn R5.out.row B5.out (by decide) (by rw [e]; rfl)
  have R6 := hide (show PRow w6 G (.slice (some ⟨gS, 0, none⟩) M cS) (X.drop gone) from by have h9 := R5.out.sub o6 g6 (List.drop_sublist _ _); rw [hl6] at h9; exact h9)
  have B6 := hide (B5.out.turn t6 hgl)
  have D6 := hide (D5.out.turn t6 (fun q hf e => AP5.out q hf (by rw [e]; exact R5.out.mine gS rfl)))
  have T6 := hide (T5.out.then t6 (fun q e => .inl (.inr (by rw [e]; exact R5.out.mine gS rfl))))
  clear o6 g6 t6 hown hl6 hM
  have y2 : w6.cell? ⟨l, 2, none⟩ = some (.slice (some ⟨gS, 0, none⟩) gone cS) := B6.out.cell 2
  have yf := B6.out.frozen 2
  have hl6 := cell_lt y2
  clear z2
  go_wp2_with fail
  obtain ⟨wE, hwE⟩ : ∃ z, z = w6.setCell ⟨l, 2, none⟩ (.slice (some ⟨gS, 0, none⟩) M cS) := ⟨_, rfl⟩
  rw [← hwE]
  have tE : Turn (fun q => q = l) w6 wE := by
    rw [hwE]
    exact (Turn.of_grown (grown_set w6 l _ _)).mono (fun q e => Option.some.inj e)
  have BE := B6.out.stored 2 (.slice (some ⟨gS, 0, none⟩) M cS)
  rw [← hwE] at BE
  have PE := R6.out.off tE (fun q e => by rw [e]; exact blk_off B6.out)
  have DE := D6.out.turn tE (fun q hf e => AP5.out q hf (e ▸ HGL.out))
  have TE := T6.out.then tE (fun q e => .inl (.inr (e ▸ HGL.out)))
  go_ret
  refine ⟨_, rfl, rfl, F5, ?_, TE, FF5.out⟩
  rw [HDR.out]
  exact ⟨DE, ⟨_, X.drop gone, rfl, PE.log BE HGL.out (fun q hq => by have := HGW.out q hq; have := TE.size; omega)⟩, AP5.out⟩
set_option maxRecDepth 100000 in
set_option maxHeartbeats 3200000 in
theorem pdrop_none (w : World) (F G : Nat → Prop) (dp l room : Nat) (s : ByteArray) (P : PLog) (L : DiskL) (i gone : Nat) (h : PBoth w F G dp l room s P L) (hs : s.size ≤ 64) (hi1 : firstP P ≤ i) (hi2 : i ≤ P.next) (hnx : P.next ≤ 1099511627776)
    (hsl : P.segs.length ≤ 1073741824) (hr : ∀ a b (ha : a < P.segs.length) (hb : b < P.segs.length), a < b → P.segs[a].1 < P.segs[b].1) (hlow : ∀ x ∈ P.segs, x.1 ≤ 1099511627776) (hin : i < P.next) (j : Nat) (hj1 : j ≤ P.segs.length) (hj0 : j = 1) (hc : ∀ q (hq : q < P.segs.length), q < j ↔ (P.segs[q].1 : Int) < (i : Int) + 1) (hg : gone = 0) :
    Calls Try.prog 17 #[.pointer (some ⟨l, 0, none⟩), .int .i64 (i : Int)] w fun e w' => ∃ R : PLog × DiskL, R = dropP s.data.toList gone P L ∧ e = .returned (.int .i64 0) ∧ ∃ F', PBoth w' F' G dp l room s R.1 R.2 ∧ Turn (fun k => F k ∨ G k) w w' ∧ ∀ k, F' k → F k ∨ w.heap.size ≤ k := by
  obtain ⟨segs, nx⟩ := P
  obtain ⟨hD, ⟨vS, X, e, h⟩, hap⟩ := h
  simp only at e h hi1 hi2 hnx hsl hr hlow hin hj1 hc
  have hXe : segs.length = X.length := by rw [e, List.length_map]
  have hat : ∀ j (hj : j < X.length), segs[j]'(by omega) = segP X[j] := fun j hj => by simp only [e, List.getElem_map]
  have HRE := preaches_any w G l dp s ⟨segs, nx⟩ (i : Int) ⟨vS, X, e, h⟩
  dsimp only at HRE
  rw [decide_eq_true (by omega)] at HRE
  have HRE := hide HRE
  have hrX : ∀ a b (ha : a < X.length) (hb : b < X.length), a < b → X[a].1 < X[b].1 := fun a b ha hb hab => by
    have := hr a b (by omega) (by omega) hab
    rw [hat a ha, hat b hb] at this
    exact this
  have hcX : ∀ q (hq : q < X.length), q < j ↔ (X[q].1 : Int) < (i : Int) + 1 := fun q hq => by
    have := hc q (by omega)
    rw [hat q hq] at this
    exact this
  have HAH := hide (show ∀ (W : World), Below w.heap.size w W → Calls Try.prog 34 #[.pointer (some ⟨l, 0, none⟩), .int .i64 ((i : Int) + 1)] W fun e w' => e = .returned (.int .i64 (j : Int)) ∧ Below W.heap.size W w' from fun W k => (pahead_any W G l dp s _ X nx ((i : Int) + 1) (h.below k) (by omega) hrX).mono (fun e w' => by
    rintro ⟨i2, rfl, h1, h2, h3⟩
    exact ⟨by rw [ahead_uni h1 (by omega) h2 hcX], h3⟩))
  obtain ⟨AS, cS, eS, hlc, hc63, hnil, hcell⟩ := rowP_form h.row
  subst eS
  obtain ⟨N, hN⟩ : ∃ N, N = X.length := ⟨_, rfl⟩
  have hNl : N ≤ 1073741824 := by omega
  rw [← hN] at hlc h
  have hlowX : ∀ x ∈ X, x.1 ≤ 1099511627776 := fun x hx => hlow (segP x) (by rw [e]; exact List.mem_map.2 ⟨x, hx, rfl⟩)
  obtain ⟨gS, eA, -, -⟩ := hcell 0 (by omega)
  subst eA
  have hN1 : 0 < N := by omega
  have hz : (i : Int) < (nx : Int) := by omega
  have hw1 : IntKind.i64.wrap ((i : Int) + 1) = (i : Int) + 1 := by rw [IntKind.wrap_i64]; omega
  have hms : (j : Int) - 1 = (gone : Int) := by omega
  have hgw : IntKind.i64.wrap (gone : Int) = (gone : Int) := by rw [IntKind.wrap_i64]; omega
  have hgN : gone ≤ N := by omega
  have HGL : Hid (G l) := hide h.own
  have HGW : Hid (∀ q, G q → q < w.heap.size) := hide h.low
  have HDR : Hid (dropP s.data.toList gone ⟨segs, nx⟩ L = (⟨(X.drop gone).map segP, nx⟩, removesL s.data.toList ((X.take gone).map (·.1)) L)) := hide (by
    unfold dropP
    dsimp only
    rw [e, ← List.map_drop, ← List.map_take, List.map_map]
    rfl)
  have HD := hide hD
  have HP0 := hide h.prow
  have HB0 := hide h.cells
  have HAP := hide hap
  have HN := hide hN
  have HE := hide e
  have HLX := hide hlowX
  have HGO := hide hg
  have c2 : w.cell? ⟨l, 2, none⟩ = some (.slice (some ⟨gS, 0, none⟩) N cS) := h.cells.cell 2
  have c3 : w.cell? ⟨l, 3, none⟩ = some (.int .i64 (nx : Int)) := h.cells.cell 3
  have hll := cell_lt c2
  have HG0 : Hid ((gone : Int) = 0) := hide (by omega)
  clear hD h hap hXe hat hr hlow hlowX hi1 hi2 hN e hcell hsl hin hj1 hc hrX hcX hnil hg hj0
  go_enter Try.func17, Try.ntmps17
  go_wp2_with fail
  refine HRE.out.mono ?_
  rintro e w1 ⟨rfl, d1, rfl⟩
  have kd1 : Below w.heap.size w (w.drewN d1) := below_drewN (Below.refl _ _) d1
  obtain ⟨w1, hw1e⟩ : ∃ z, z = w.drewN d1 := ⟨_, rfl⟩
  rw [← hw1e] at kd1 ⊢
  have p2 := (kd1.cell (p := ⟨l, 2, none⟩) hll).trans c2
  have p3 := (kd1.cell (p := ⟨l, 3, none⟩) hll).trans c3
  have KD := hide kd1
  clear hw1e kd1 c2 c3
  go_wp2_with fail
  refine (HAH.out _ KD.out).mono ?_
  rintro e w2 ⟨rfl, k2⟩
  have K2 := hide (below_step KD.out k2)
  have p2 := (k2.cell (p := ⟨l, 2, none⟩) (cell_lt p2)).trans p2
  have p3 := (k2.cell (p := ⟨l, 3, none⟩) (cell_lt p3)).trans p3
  have hg0 : (0 : Int) ≤ (gone : Int) := by omega
  have hgc : (gone : Int) ≤ (cS : Int) := by omega
  clear k2
  go_wp2_with fail
  have B3 := hide (HB0.out.turn (Turn.of_below (fun _ => False) K2.out) id)
  have R3 := hide (HP0.out.below K2.out)
  have D3 := hide (HD.out.below K2.out)
  refine (pfirstsO_any _ (some ⟨gS, 0, none⟩) gone cS (X.take gone) (by rw [List.length_take, ← HN.out]; omega) (by omega) (by have h9 := R3.out.cellsO 0 gone; rw [List.drop_zero, Nat.zero_mul] at h9; exact h9) (by omega) (fun x hx => R3.out.forms x (List.mem_of_mem_take hx))).mono ?_
  rintro e w4 ⟨u4, rfl, o4, k4⟩
  have k4 : Below w2.heap.size w2 w4 := ⟨k4.os, k4.tape, k4.output, k4.size, k4.block⟩
  have B4 := hide (B3.out.turn (Turn.of_below (fun _ => False) k4) id)
  have R4 := hide (R3.out.below k4)
  have D4 := hide (D3.out.below k4)
  have o4 : OwnN w4 w2.heap.size u4 (((X.take gone).map (·.1)).map fun n : Nat => (n : Int)) := by rw [List.map_map]; exact o4
  have O4 := hide o4
  have K4 := hide k4
  have hm4 : Hid (((X.take gone).map (·.1)).length ≤ 1073741824) := hide (by rw [List.length_map, List.length_take]; omega)
  clear o4 k4 p2 p3
  go_wp2_with fail
  refine (premove_any _ F G dp l room s ⟨X.map segP, nx⟩ L u4 w2.heap.size ((X.take gone).map (·.1)) ⟨D4.out, ⟨_, X, rfl, R4.out.log B4.out HGL.out (fun q hq => by have := HGW.out q hq; have := K2.out.size; have := K4.out.size; omega)⟩, HAP.out⟩ hs O4.out (fun q hq hf => by have := (World.ownsRow.lt O4.out q hq).1; have := D3.out.low q hf; omega) (fun n hn => by obtain ⟨x, hx, rfl⟩ := List.mem_map.1 hn; exact HLX.out x (List.mem_of_mem_take hx)) hm4.out).mono ?_
  rintro e w5 ⟨rfl, F5, b5, n5⟩
  have hnl5 : ¬ F l := fun hf => HAP.out l hf HGL.out
  have B5 := hide (B4.out.turn n5.turn hnl5)
  have R5 := hide (R4.out.turn n5.turn (fun q hg hf => HAP.out q hf hg))
  have D5 := hide b5.disk
  have AP5 := hide b5.apart
  have T5 : Hid (Turn (fun k => F k ∨ G k) w w5) := hide (((Turn.of_below _ K2.out).then (Turn.of_below (fun _ => False) K4.out) (fun _ => False.elim)).then n5.turn (fun q hq => .inl (.inl hq)))
  have FF5 := hide (fun q (hq : F5 q) => (n5.foot q hq).elim (fun h => Or.inl h) (fun h => Or.inr (show w.heap.size ≤ q by have := K2.out.size; have := K4.out.size; omega)))
  have z2 : w5.cell? ⟨l, 2, none⟩ = some (.slice (some ⟨gS, 0, none⟩) N cS) := B5.out.cell 2
  have hl5 := cell_lt z2
  clear b5 n5 hnl5
  go_wp2_with fail
  rw [show ((gone : Nat) : Int) = 0 from HG0.out]
  refine (del_segs_zero (some ⟨gS, 0, none⟩) N cS _ hlc hc63 (fun h => by cases h) (fun a h => ⟨gS, (Option.some.inj h).symm⟩)).mono ?_
  rintro e w6 ⟨rfl, k6⟩
  have hX0 : X.drop gone = X := (by have h9 := HG0.out; rw [show gone = 0 by omega]; rfl)
  have R6 := hide (show PRow w6 G (.slice (some ⟨gS, 0, none⟩) N cS) (X.drop gone) from by rw [hX0]; exact R5.out.below k6)
  have B6 := hide (B5.out.turn (Turn.of_below (fun _ => False) k6) id)
  have D6 := hide (D5.out.below k6)
  have T6 := hide (T5.out.then (Turn.of_below (fun _ => False) k6) (fun _ => False.elim))
  clear k6
  have y2 : w6.cell? ⟨l, 2, none⟩ = some (.slice (some ⟨gS, 0, none⟩) N cS) := B6.out.cell 2
  have yf := B6.out.frozen 2
  have hl6 := cell_lt y2
  clear z2
  go_wp2_with fail
  obtain ⟨wE, hwE⟩ : ∃ z, z = w6.setCell ⟨l, 2, none⟩ (.slice (some ⟨gS, 0, none⟩) N cS) := ⟨_, rfl⟩
  rw [← hwE]
  have tE : Turn (fun q => q = l) w6 wE := by
    rw [hwE]
    exact (Turn.of_grown (grown_set w6 l _ _)).mono (fun q e => Option.some.inj e)
  have BE := B6.out.stored 2 (.slice (some ⟨gS, 0, none⟩) N cS)
  rw [← hwE] at BE
  have PE := R6.out.off tE (fun q e => by rw [e]; exact blk_off B6.out)
  have DE := D6.out.turn tE (fun q hf e => AP5.out q hf (e ▸ HGL.out))
  have TE := T6.out.then tE (fun q e => .inl (.inr (e ▸ HGL.out)))
  go_ret
  refine ⟨_, rfl, rfl, F5, ?_, TE, FF5.out⟩
  rw [HDR.out]
  exact ⟨DE, ⟨_, X.drop gone, rfl, PE.log BE HGL.out (fun q hq => by have := HGW.out q hq; have := TE.size; omega)⟩, AP5.out⟩
set_option maxRecDepth 100000 in
set_option maxHeartbeats 3200000 in
theorem pdrop_some (w : World) (F G : Nat → Prop) (dp l room : Nat) (s : ByteArray) (P : PLog) (L : DiskL) (i gone : Nat) (h : PBoth w F G dp l room s P L) (hs : s.size ≤ 64) (hi1 : firstP P ≤ i) (hi2 : i ≤ P.next) (hnx : P.next ≤ 1099511627776)
    (hsl : P.segs.length ≤ 1073741824) (hr : ∀ a b (ha : a < P.segs.length) (hb : b < P.segs.length), a < b → P.segs[a].1 < P.segs[b].1) (hlow : ∀ x ∈ P.segs, x.1 ≤ 1099511627776) (hin : i < P.next) (j : Nat) (hj1 : j ≤ P.segs.length) (hj0 : 1 < j) (hc : ∀ q (hq : q < P.segs.length), q < j ↔ (P.segs[q].1 : Int) < (i : Int) + 1) (hg : gone = j - 1) :
    Calls Try.prog 17 #[.pointer (some ⟨l, 0, none⟩), .int .i64 (i : Int)] w fun e w' => ∃ R : PLog × DiskL, R = dropP s.data.toList gone P L ∧ e = .returned (.int .i64 0) ∧ ∃ F', PBoth w' F' G dp l room s R.1 R.2 ∧ Turn (fun k => F k ∨ G k) w w' ∧ ∀ k, F' k → F k ∨ w.heap.size ≤ k := by
  obtain ⟨segs, nx⟩ := P
  obtain ⟨hD, ⟨vS, X, e, h⟩, hap⟩ := h
  simp only at e h hi1 hi2 hnx hsl hr hlow hin hj1 hc
  have hXe : segs.length = X.length := by rw [e, List.length_map]
  have hat : ∀ j (hj : j < X.length), segs[j]'(by omega) = segP X[j] := fun j hj => by simp only [e, List.getElem_map]
  have HRE := preaches_any w G l dp s ⟨segs, nx⟩ (i : Int) ⟨vS, X, e, h⟩
  dsimp only at HRE
  rw [decide_eq_true (by omega)] at HRE
  have HRE := hide HRE
  have hrX : ∀ a b (ha : a < X.length) (hb : b < X.length), a < b → X[a].1 < X[b].1 := fun a b ha hb hab => by
    have := hr a b (by omega) (by omega) hab
    rw [hat a ha, hat b hb] at this
    exact this
  have hcX : ∀ q (hq : q < X.length), q < j ↔ (X[q].1 : Int) < (i : Int) + 1 := fun q hq => by
    have := hc q (by omega)
    rw [hat q hq] at this
    exact this
  have HAH := hide (show ∀ (W : World), Below w.heap.size w W → Calls Try.prog 34 #[.pointer (some ⟨l, 0, none⟩), .int .i64 ((i : Int) + 1)] W fun e w' => e = .returned (.int .i64 (j : Int)) ∧ Below W.heap.size W w' from fun W k => (pahead_any W G l dp s _ X nx ((i : Int) + 1) (h.below k) (by omega) hrX).mono (fun e w' => by
    rintro ⟨i2, rfl, h1, h2, h3⟩
    exact ⟨by rw [ahead_uni h1 (by omega) h2 hcX], h3⟩))
  obtain ⟨AS, cS, eS, hlc, hc63, hnil, hcell⟩ := rowP_form h.row
  subst eS
  obtain ⟨N, hN⟩ : ∃ N, N = X.length := ⟨_, rfl⟩
  have hNl : N ≤ 1073741824 := by omega
  rw [← hN] at hlc h
  have hlowX : ∀ x ∈ X, x.1 ≤ 1099511627776 := fun x hx => hlow (segP x) (by rw [e]; exact List.mem_map.2 ⟨x, hx, rfl⟩)
  obtain ⟨gS, eA, -, -⟩ := hcell 0 (by omega)
  subst eA
  have hN1 : 0 < N := by omega
  have hz : (i : Int) < (nx : Int) := by omega
  have hw1 : IntKind.i64.wrap ((i : Int) + 1) = (i : Int) + 1 := by rw [IntKind.wrap_i64]; omega
  have hms : (j : Int) - 1 = (gone : Int) := by omega
  have hgw : IntKind.i64.wrap (gone : Int) = (gone : Int) := by rw [IntKind.wrap_i64]; omega
  have hgN : gone ≤ N := by omega
  have HGL : Hid (G l) := hide h.own
  have HGW : Hid (∀ q, G q → q < w.heap.size) := hide h.low
  have HDR : Hid (dropP s.data.toList gone ⟨segs, nx⟩ L = (⟨(X.drop gone).map segP, nx⟩, removesL s.data.toList ((X.take gone).map (·.1)) L)) := hide (by
    unfold dropP
    dsimp only
    rw [e, ← List.map_drop, ← List.map_take, List.map_map]
    rfl)
  have HD := hide hD
  have HP0 := hide h.prow
  have HB0 := hide h.cells
  have HAP := hide hap
  have HN := hide hN
  have HE := hide e
  have HLX := hide hlowX
  have HGO := hide hg
  have c2 : w.cell? ⟨l, 2, none⟩ = some (.slice (some ⟨gS, 0, none⟩) N cS) := h.cells.cell 2
  have c3 : w.cell? ⟨l, 3, none⟩ = some (.int .i64 (nx : Int)) := h.cells.cell 3
  have hll := cell_lt c2
  have HG1 : Hid (0 < gone) := hide (by omega)
  clear hD h hap hXe hat hr hlow hlowX hi1 hi2 hN e hcell hsl hin hj1 hc hrX hcX hnil hg hj0
  go_enter Try.func17, Try.ntmps17
  go_wp2_with fail
  refine HRE.out.mono ?_
  rintro e w1 ⟨rfl, d1, rfl⟩
  have kd1 : Below w.heap.size w (w.drewN d1) := below_drewN (Below.refl _ _) d1
  obtain ⟨w1, hw1e⟩ : ∃ z, z = w.drewN d1 := ⟨_, rfl⟩
  rw [← hw1e] at kd1 ⊢
  have p2 := (kd1.cell (p := ⟨l, 2, none⟩) hll).trans c2
  have p3 := (kd1.cell (p := ⟨l, 3, none⟩) hll).trans c3
  have KD := hide kd1
  clear hw1e kd1 c2 c3
  go_wp2_with fail
  refine (HAH.out _ KD.out).mono ?_
  rintro e w2 ⟨rfl, k2⟩
  have K2 := hide (below_step KD.out k2)
  have p2 := (k2.cell (p := ⟨l, 2, none⟩) (cell_lt p2)).trans p2
  have p3 := (k2.cell (p := ⟨l, 3, none⟩) (cell_lt p3)).trans p3
  have hg0 : (0 : Int) ≤ (gone : Int) := by omega
  have hgc : (gone : Int) ≤ (cS : Int) := by omega
  clear k2
  go_wp2_with fail
  have B3 := hide (HB0.out.turn (Turn.of_below (fun _ => False) K2.out) id)
  have R3 := hide (HP0.out.below K2.out)
  have D3 := hide (HD.out.below K2.out)
  refine (pfirstsO_any _ (some ⟨gS, 0, none⟩) gone cS (X.take gone) (by rw [List.length_take, ← HN.out]; omega) (by omega) (by have h9 := R3.out.cellsO 0 gone; rw [List.drop_zero, Nat.zero_mul] at h9; exact h9) (by omega) (fun x hx => R3.out.forms x (List.mem_of_mem_take hx))).mono ?_
  rintro e w4 ⟨u4, rfl, o4, k4⟩
  have k4 : Below w2.heap.size w2 w4 := ⟨k4.os, k4.tape, k4.output, k4.size, k4.block⟩
  have B4 := hide (B3.out.turn (Turn.of_below (fun _ => False) k4) id)
  have R4 := hide (R3.out.below k4)
  have D4 := hide (D3.out.below k4)
  have o4 : OwnN w4 w2.heap.size u4 (((X.take gone).map (·.1)).map fun n : Nat => (n : Int)) := by rw [List.map_map]; exact o4
  have O4 := hide o4
  have K4 := hide k4
  have hm4 : Hid (((X.take gone).map (·.1)).length ≤ 1073741824) := hide (by rw [List.length_map, List.length_take]; omega)
  clear o4 k4 p2 p3
  go_wp2_with fail
  refine (premove_any _ F G dp l room s ⟨X.map segP, nx⟩ L u4 w2.heap.size ((X.take gone).map (·.1)) ⟨D4.out, ⟨_, X, rfl, R4.out.log B4.out HGL.out (fun q hq => by have := HGW.out q hq; have := K2.out.size; have := K4.out.size; omega)⟩, HAP.out⟩ hs O4.out (fun q hq hf => by have := (World.ownsRow.lt O4.out q hq).1; have := D3.out.low q hf; omega) (fun n hn => by obtain ⟨x, hx, rfl⟩ := List.mem_map.1 hn; exact HLX.out x (List.mem_of_mem_take hx)) hm4.out).mono ?_
  rintro e w5 ⟨rfl, F5, b5, n5⟩
  have hnl5 : ¬ F l := fun hf => HAP.out l hf HGL.out
  have B5 := hide (B4.out.turn n5.turn hnl5)
  have R5 := hide (R4.out.turn n5.turn (fun q hg hf => HAP.out q hf hg))
  have D5 := hide b5.disk
  have AP5 := hide b5.apart
  have T5 : Hid (Turn (fun k => F k ∨ G k) w w5) := hide (((Turn.of_below _ K2.out).then (Turn.of_below (fun _ => False) K4.out) (fun _ => False.elim)).then n5.turn (fun q hq => .inl (.inl hq)))
  have FF5 := hide (fun q (hq : F5 q) => (n5.foot q hq).elim (fun h => Or.inl h) (fun h => Or.inr (show w.heap.size ≤ q by have := K2.out.size; have := K4.out.size; omega)))
  have z2 : w5.cell? ⟨l, 2, none⟩ = some (.slice (some ⟨gS, 0, none⟩) N cS) := B5.out.cell 2
  have hl5 := cell_lt z2
  clear b5 n5 hnl5
  go_wp2_with fail
  obtain ⟨M, hM⟩ : ∃ M, M = N - gone := ⟨_, rfl⟩
  have hown : w5.ownsRow 0 60 3 (.slice (some ⟨gS, 0, none⟩) N cS) N (cellsP X) := by have h9 := R5.out.row; rw [← HN.out] at h9; exact h9
  refine (del_segs_front gS N cS gone M X _ hown (cellsP_ones X R5.out.each) HG1.out (by omega) hM hlc hc63).mono ?_
  rintro e w6 ⟨rfl, o6, g6⟩
  have hl6 : (X.drop gone).length = M := by rw [List.length_drop, ← HN.out, hM]
  rw [← hl6] at o6
  have t6 : Turn (fun q => q = gS) w5 w6 := (Turn.of_grown g6).mono (fun q e => Option.some.inj e)
  have hgl : ¬ l = gS := fun e => ownsRow_notIn R5.out.row B5.out (by decide) (by rw [e]; rfl)
  have R6 := hide (show PRow w6 G (.slice (some ⟨gS, 0, none⟩) M cS) (X.drop gone) from by have h9 := R5.out.sub o6 g6 (List.drop_sublist _ _); rw [hl6] at h9; exact h9)
  have B6 := hide (B5.out.turn t6 hgl)
  have D6 := hide (D5.out.turn t6 (fun q hf e => AP5.out q hf (by rw [e]; exact R5.out.mine gS rfl)))
  have T6 := hide (T5.out.then t6 (fun q e => .inl (.inr (by rw [e]; exact R5.out.mine gS rfl))))
  clear o6 g6 t6 hown hl6 hM
  have y2 : w6.cell? ⟨l, 2, none⟩ = some (.slice (some ⟨gS, 0, none⟩) N cS) := B6.out.cell 2
  have yf := B6.out.frozen 2
  have hl6 := cell_lt y2
  clear z2
  go_wp2_with fail
  obtain ⟨wE, hwE⟩ : ∃ z, z = w6.setCell ⟨l, 2, none⟩ (.slice (some ⟨gS, 0, none⟩) M cS) := ⟨_, rfl⟩
  rw [← hwE]
  have tE : Turn (fun q => q = l) w6 wE := by
    rw [hwE]
    exact (Turn.of_grown (grown_set w6 l _ _)).mono (fun q e => Option.some.inj e)
  have BE := B6.out.stored 2 (.slice (some ⟨gS, 0, none⟩) M cS)
  rw [← hwE] at BE
  have PE := R6.out.off tE (fun q e => by rw [e]; exact blk_off B6.out)
  have DE := D6.out.turn tE (fun q hf e => AP5.out q hf (e ▸ HGL.out))
  have TE := T6.out.then tE (fun q e => .inl (.inr (e ▸ HGL.out)))
  go_ret
  refine ⟨_, rfl, rfl, F5, ?_, TE, FF5.out⟩
  rw [HDR.out]
  exact ⟨DE, ⟨_, X.drop gone, rfl, PE.log BE HGL.out (fun q hq => by have := HGW.out q hq; have := TE.size; omega)⟩, AP5.out⟩
end Go.Proofs.Ytaoplofhogenmaa
