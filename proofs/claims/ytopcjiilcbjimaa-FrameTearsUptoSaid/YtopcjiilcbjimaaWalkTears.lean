/- The walk of the law FrameTears: it returns true for any records and any place, and writes nothing that was there. Condition: no record is longer than 2 to the 40 bytes. -/
import Derived.Test.YtopcjiilcbjimaaTears
import Derived.Test.YtopcjiilcbjimaaInts
namespace Go.Proofs.Ytopcjiilcbjimaa
open Go.RowKit
/-- The ends of the records, one behind the other. -/
def ends (xss : List (List Nat)) (k : Nat) : List Nat := (List.range k).map fun j => upto xss (j + 1)
theorem ends_len (xss : List (List Nat)) (k : Nat) : (ends xss k).length = k := by unfold ends; simp
theorem ends_step (xss : List (List Nat)) (k : Nat) : ends xss (k + 1) = ends xss k ++ [upto xss (k + 1)] := by unfold ends; rw [List.range_succ, List.map_append]; rfl
theorem ends_get (xss : List (List Nat)) (k j : Nat) (h : j < k) : (ends xss k).getD j 0 = upto xss (j + 1) := by unfold ends; simp [h]
theorem row_at {w : World} {A : Option Addr} {n : Nat} {vs : List Value} {xss : List (List Nat)} (hA : RdV w A vs) (hn : vs.length = n) (hB : IsBs w vs xss) (k : Nat) (hk : k < n) :
    ∃ b off A1 c1, A = some ⟨b, off, none⟩ ∧ w.cell? ⟨b, off + k, none⟩ = some (.slice A1 (xss.getD k []).length c1) ∧ IsB w (.slice A1 (xss.getD k []).length c1) (xss.getD k []) := by
  obtain ⟨b, off, e, hc⟩ := hA (by intro e; rw [e] at hn; simp at hn; omega)
  have ck := hc k (by omega)
  obtain ⟨A1, c1, e1, r⟩ := hB.2 k (by omega)
  rw [e1] at ck
  exact ⟨b, off, A1, c1, e, ck, A1, c1, rfl, r⟩
theorem RdV.take {w : World} {A : Option Addr} {vs : List Value} (h : RdV w A vs) (k : Nat) : RdV w A (vs.take k) := by
  intro hne
  obtain ⟨b, off, e, hc⟩ := h (by intro e; rw [e] at hne; simp at hne)
  refine ⟨b, off, e, fun i hi => ?_⟩
  rw [List.length_take] at hi
  rw [hc i (by omega)]
  congr 1
  simp only [List.getD_eq_getElem?_getD]
  rw [List.getElem?_take, if_pos (by omega)]
theorem IsBs.take {w : World} {vs : List Value} {xss : List (List Nat)} (h : IsBs w vs xss) (k : Nat) : IsBs w (vs.take k) (xss.take k) := by
  refine ⟨by rw [List.length_take, List.length_take, h.1], fun i hi => ?_⟩
  rw [List.length_take] at hi
  have := h.2 i (by omega)
  simp only [List.getD_eq_getElem?_getD] at this ⊢
  rw [List.getElem?_take, if_pos (by omega), List.getElem?_take, if_pos (by omega)]
  exact this
set_option maxHeartbeats 6400000 in
theorem frameTears_core (len cap : Nat) (M : Option Addr) (vs : List Value) (xss : List (List Nat)) (cut : Int) (w : World) (hl : vs.length = len) (hR : RdV w M vs) (hB : IsBs w vs xss)
    (hby : ∀ xs ∈ xss, ∀ x ∈ xs, x < 256) (hsz : ∀ xs ∈ xss, xs.length ≤ 1099511627776) (ln : len ≤ cap ∧ cap ≤ 9223372036854775807) :
    Calls Try.prog 7 #[.slice M len cap, .int .i64 cut] w fun e w' => e = .returned (.bool true) ∧ Below w.heap.size w w' := by
  have HL := hide hl
  have HXL : Hid (xss.length = len) := by unfold Hid; rw [← hB.1, hl]
  have HR := hide hR
  have HB := hide hB
  have HBY := hide hby
  have HSZ := hide hsz
  obtain ⟨lnc, lcm⟩ := ln
  clear hl hR hB hby hsz
  go_enter Try.func7, Try.ntmps7
  go_wp2_with fail
  go_loop [5, 6] (fun s i => ∃ k : Nat, k ≤ len ∧ i = .int .i64 (k : Int) ∧ s = .int .i64 (upto xss k : Nat) ∧ Hid (upto xss k ≤ 2199023255552)) (fun _ i => len - (intOf i).toNat)
  case atStart => exact ⟨0, Nat.zero_le _, rfl, rfl, by unfold Hid; rw [upto_zero]; decide⟩
  case round =>
    obtain ⟨k, hk, rfl, rfl, hU⟩ := hrel
    have hstep := upto_step xss k
    obtain ⟨u, hu⟩ : ∃ u, u = upto xss k := ⟨_, rfl⟩
    rw [← hu] at hU hstep ⊢
    have hU' := hU.out
    have HUU := hide hu
    clear hu
    by_cases hlt : k < len
    · by_cases h4 : u ≤ 4000
      · obtain ⟨b, off, A1, c1, rfl, ck, _⟩ := row_at (n := len) HR.out HL.out HB.out k hlt
        have hst := hstep (by rw [HXL.out]; exact hlt)
        have hb := HSZ.out (xss.getD k []) (by
          have hh : k < xss.length := by rw [HXL.out]; exact hlt
          have e : xss.getD k [] = xss[k] := by simp [hh]
          rw [e]; exact List.getElem_mem hh)
        obtain ⟨m, hm⟩ : ∃ m, m = (xss.getD k []).length := ⟨_, rfl⟩
        rw [← hm] at ck hst hb
        have HST := hide hst
        clear hm hst hstep hU hU'
        go_wp2_with fail
        go_round
        case rel => exact ⟨k + 1, by omega, by go_num, by rw [HST.out]; go_num, by unfold Hid; rw [HST.out]; omega⟩
        case measure => simp [intOf]; omega
      · clear hstep hU
        have h4' : ¬ ((u : Int) ≤ 4000) := by omega
        go_wp2_with fail
        go_ret
        exact ⟨rfl, Below.refl _ _⟩
    · by_cases h4 : u ≤ 4000
      · obtain rfl : len = k := by omega
        clear hstep hU hlt hU'
        have HSM : Hid (∀ j, j < len → (xss.getD j []).length ≤ 4000 ∧ upto xss (j + 1) ≤ 4000) := by
          intro j hj
          have h1 := upto_step xss j (by rw [HXL.out]; exact hj)
          have h2 := upto_mono xss (j + 1) len (by omega)
          have := HUU.out
          omega
        have HLL : Hid (8 * len ≤ u) := by
          have h : ∀ j, j ≤ len → 8 * j ≤ upto xss j := by
            intro j
            induction j with
            | zero => intro _; omega
            | succ j ih =>
              intro hj
              have h1 := upto_step xss j (by rw [HXL.out]; omega)
              have := ih (by omega)
              omega
          rw [HUU.out]
          exact h len (Nat.le_refl _)
        have hL5 : len ≤ 500 := by have := HLL.out; omega
        go_wp2_with fail
        go_loopw [7, 8, 9] (fun b e i wr => ∃ j : Nat, j ≤ len ∧ i = .int .i64 (j : Int) ∧ Hid (Own wr w.heap.size b (flatF (xss.take j))) ∧ Hid (OwnI wr w.heap.size e (ends xss j)) ∧ Hid (Below w.heap.size w wr)) (fun _ _ i _ => len - (intOf i).toNat)
        case atStart => exact ⟨0, Nat.zero_le _, rfl, World.ownsRow_nil _ _ _ _, OwnI.nil _ _, Below.refl _ _⟩
        case round =>
          obtain ⟨j, hj, rfl, hO, hE, hbel⟩ := hrel
          by_cases hlt : j < len
          · obtain ⟨b, off, A1, c1, rfl, ck, hI⟩ := row_at (n := len) (HR.out.below hbel.out) HL.out (HB.out.below hbel.out) j hlt
            have hsm := HSM.out j hlt
            have HBX : Hid (∀ x ∈ xss.getD j [], x < 256) := by
              have hh : j < xss.length := by rw [HXL.out]; exact hlt
              have e : xss.getD j [] = xss[j] := by simp [hh]
              rw [e]
              exact HBY.out _ (List.getElem_mem hh)
            have HFS := hide (flatF_step xss j (by rw [HXL.out]; exact hlt))
            have HES := hide (ends_step xss j)
            have HUJ : Hid ((flatF (xss.take (j + 1))).length = upto xss (j + 1)) := by unfold Hid; rfl
            have HUJ0 : Hid ((flatF (xss.take j)).length ≤ 4000) := by
              unfold Hid
              have h1 := upto_mono xss j (j + 1) (by omega)
              unfold upto at h1 hsm
              omega
            obtain ⟨m, hm⟩ : ∃ m, m = (xss.getD j []).length := ⟨_, rfl⟩
            rw [← hm] at ck hI hsm
            obtain ⟨u2, hu2⟩ : ∃ u2, u2 = upto xss (j + 1) := ⟨_, rfl⟩
            rw [← hu2] at HES HUJ hsm
            obtain ⟨hm1, hm2⟩ := hsm
            have HM := hide hm
            have HI := hide hI
            clear hm hu2 hI
            go_wp2_with fail
            refine (encode_any A1 m c1 (xss.getD j []) _ HI.out HM.out.symm HBX.out (by omega)).mono ?_
            rintro e w1 ⟨s1, rfl, o1, k1⟩
            have I1 := hide o1.isB
            have O1 := hide (hO.out.keep k1)
            have E1 := hide (hE.out.keep k1)
            have K1 := hide (below_step hbel.out k1)
            clear o1 k1 hO hE hbel
            go_wp2_with (at_builtin; refine halt ?_)
            refine ⟨?_⟩
            refine wpList_append_bytes_g rfl (.tmp 54) (.tmp 55) rfl w.heap.size _ _ rfl O1.out _ _ rfl I1.out (by rw [frame_len, HM.out.symm]; have := HUJ0.out; omega) K1.out.size ?_
            intro s2 w2 o2 k2 g2
            rw [← HFS.out] at o2
            have E2 := hide (show OwnI w2 w.heap.size _ (ends xss j) from row_apart E1.out O1.out (by decide) g2)
            have O2 := hide o2
            have K2 := hide (K1.out.trans k2)
            obtain ⟨A2, c2, rfl, i2, _, _⟩ := o2.isB.form HUJ.out
            clear o2 k2 g2 I1 O1 E1 K1 i2
            go_wp2_with (at_builtin; refine halt ?_)
            refine ⟨?_⟩
            have nb : Below w2.heap.size w2 (w2.alloc (.cells #[.int .i64 (u2 : Int)] 3)) := (Below.refl _ _).alloc (Nat.le_refl _) _
            refine wpList_append_int rfl (.tmp 57) (.tmp 60) rfl w.heap.size _ _ rfl (E2.out.keep nb) w2.heap.size u2 rfl (cell_new _ _ _) (by rw [ends_len]; omega) (Nat.le_trans K2.out.size nb.size) ?_
            intro s3 w3 o3 k3 g3
            rw [← HES.out] at o3
            have E3 := hide o3
            have O3 := hide (show Own w3 w.heap.size _ (flatF (xss.take (j + 1))) from row_apart (O2.out.keep nb) (E2.out.keep nb) (by decide) g3)
            have K3 := hide ((K2.out.alloc K2.out.size _).trans k3)
            clear nb o3 k3 g3 E2 O2 K2
            go_wp2_with fail
            go_roundw
            case rel => exact ⟨j + 1, by omega, by go_num, O3, E3, K3⟩
            case measure => simp [intOf]; omega
          · obtain rfl : len = j := by omega
            have ef : xss.take len = xss := List.take_of_length_le (by rw [HXL.out]; exact Nat.le_refl _)
            have HUF : Hid ((flatF xss).length = u) := by unfold Hid; rw [HUU.out]; unfold upto; rw [ef]
            rw [ef] at hO
            clear ef hlt
            obtain ⟨A2, c2, rfl, i2, l2, m2⟩ := hO.out.isB.form HUF.out
            obtain ⟨A3, c3, rfl, _, hcells⟩ := hE.out.form (n := len) (ends_len xss len)
            have I2 := hide i2
            have HC := hide hcells
            clear i2 hcells hO hE
            obtain ⟨kk, hkk, hat⟩ := place cut (u + 1) (by omega)
            obtain ⟨want, g1, g2, g3, g4, g5, g6⟩ := scan_torn xss (fun x hx => by
              obtain ⟨j, hj, e⟩ := List.getElem_of_mem hx
              have h1 := (HSM.out j (by rw [← HXL.out]; exact hj)).1
              have e2 : xss.getD j [] = xss[j] := by simp [hj]
              rw [e2, e] at h1
              omega) kk (by rw [HUF.out]; omega)
            rw [HXL.out] at g1 g3
            have HG3 := hide g3
            have G4 := hide g4
            have hsc := scan_any A2 kk c2 ((flatF xss).take kk)
            obtain ⟨a, ha⟩ : ∃ a, a = upto xss want := ⟨_, rfl⟩
            rw [← ha] at g2 g5 g6
            rw [g5] at hsc
            obtain ⟨se, hse⟩ : ∃ se, se = (scanL ((flatF xss).take kk)).2.2 := ⟨_, rfl⟩
            rw [← hse] at hsc g6
            rw [g4] at hsc
            have HSC := hide hsc
            have HA := hide ha
            obtain ⟨U, hU⟩ : ∃ U, U = u + 1 := ⟨_, rfl⟩
            rw [← hU] at hat
            have q1 : (u : Int) + 1 = (U : Int) := by omega
            have q2 : (kk : Int) - (U : Int) + (u : Int) = (kk : Int) - 1 := by omega
            have q3 : kk ≤ u := by omega
            have q4 : (U : Int) ≠ 0 := by omega
            have q5 : kk < U := by omega
            have q6 : U ≤ 4001 := by omega
            have IT := hide (I2.out.take kk q3)
            have LT : Hid (((flatF xss).take kk).length = kk) := by unfold Hid; rw [List.length_take, HUF.out]; omega
            have BT : Hid (∀ x ∈ (flatF xss).take kk, x < 256) := by
              intro x hx
              have hx2 := List.mem_of_mem_take hx
              unfold flatF at hx2
              rw [List.mem_flatten] at hx2
              obtain ⟨l, hl, hxl⟩ := hx2
              rw [List.mem_map] at hl
              obtain ⟨y, hy, rfl⟩ := hl
              exact frameL_byte (HBY.out y hy) x hxl
            clear g3 g4 g5 hsc hse ha hU hkk
            rcases hat with hat | hat
            all_goals
              go_wp2_with fail
              refine (HSC.out _ IT.out LT.out BT.out (by omega)).mono ?_
              rintro e w4 ⟨s4, us, rfl, V4, Q4, k4⟩
              obtain ⟨A5, c5, rfl, r5, hc5⟩ := V4.form (n := want) (by rw [Q4.1, List.length_take, HXL.out]; omega)
              have R5 := hide r5
              have Q5 := hide Q4
              have LU : Hid (us.length = want) := by unfold Hid; rw [Q4.1, List.length_take, HXL.out]; omega
              have K4 := hide (below_step hbel.out k4)
              have HC4 : Hid (∀ j, j < len → ∃ b off, A3 = some ⟨b, off, none⟩ ∧ w4.cell? ⟨b, off + j, none⟩ = some (.int .i64 (((ends xss len).getD j 0 : Nat) : Int))) := by
                intro j hj
                obtain ⟨b, off, e, ce⟩ := HC.out j hj
                exact ⟨b, off, e, (k4.cell (cell_lt ce)).trans ce⟩
              clear V4 Q4 k4 r5 hbel HC I2
              go_wp2_with fail
              go_loop [16] (fun s => ∃ j : Nat, j ≤ want ∧ s = .int .i64 (j : Int)) (fun s => want - (intOf s).toNat)
              case atStart => exact ⟨0, Nat.zero_le _, rfl⟩
              case round =>
                obtain ⟨j, hj, rfl⟩ := hrel
                by_cases hjw : j < want
                · obtain ⟨b, off, rfl, ce⟩ := HC4.out j (by omega)
                  rw [ends_get xss len j (by omega)] at ce
                  have hm := upto_mono xss (j + 1) want (by omega)
                  rw [← HA.out] at hm
                  obtain ⟨t, ht⟩ : ∃ t, t = upto xss (j + 1) := ⟨_, rfl⟩
                  rw [← ht] at ce hm
                  clear ht
                  have hjl : j < len := by omega
                  have htk : (t : Int) ≤ (kk : Int) := by omega
                  go_wp2_with fail
                  go_round
                  case rel => exact ⟨j + 1, by omega, by go_num⟩
                  case measure => simp [intOf]; omega
                · obtain rfl : want = j := by omega
                  have hwc : (want : Int) ≤ (cap : Int) := by omega
                  have hwl : want < len ∧ (∃ t : Nat, ¬ ((t : Int) ≤ (kk : Int)) ∧ Hid (∃ b off, A3 = some ⟨b, off, none⟩ ∧ w4.cell? ⟨b, off + want, none⟩ = some (.int .i64 (t : Int)))) ∨ ¬ want < len := by
                    by_cases hh : want < len
                    · left
                      refine ⟨hh, upto xss (want + 1), by have := HG3.out hh; omega, ?_⟩
                      have := HC4.out want hh
                      rw [ends_get xss len want hh] at this
                      exact this
                    · exact .inr hh
                  have hwz : ¬ 0 < want ∧ a = 0 ∨ 0 < want ∧ (∃ p : Nat, (want : Int) - 1 = (p : Int) ∧ p < len ∧ Hid (∃ b off, A3 = some ⟨b, off, none⟩ ∧ w4.cell? ⟨b, off + p, none⟩ = some (.int .i64 (a : Int)))) := by
                    by_cases hh : 0 < want
                    · right
                      refine ⟨hh, want - 1, by omega, by omega, ?_⟩
                      have := HC4.out (want - 1) (by omega)
                      rw [ends_get xss len (want - 1) (by omega), show want - 1 + 1 = want by omega, ← HA.out] at this
                      exact this
                    · left
                      refine ⟨hh, ?_⟩
                      rw [HA.out, show want = 0 by omega]
                      exact upto_zero xss
                  have hse : ((se : Int) == 0) = true ∧ a = kk ∨ ((se : Int) == 0) = false ∧ ((se : Int) == 2) = true ∧ a < kk := by
                    rcases g6 with ⟨h1, h2⟩ | ⟨h1, h2⟩
                    · exact .inl ⟨by simp [h1], h2⟩
                    · exact .inr ⟨by simp [h1], by simp [h1], h2⟩
                  clear g6 HG3 HC4 hj hjw
                  rcases hwz with ⟨z1, z2⟩ | ⟨z1, p, z2, z3, z4⟩
                  · have e0 : ((a : Int) == 0) = true := by simp [z2]
                    rcases hse with ⟨y1, y9⟩ | ⟨y1, y2, y3⟩ <;> rcases hwl with ⟨x1, t, x2, x3⟩ | x1
                    all_goals
                      first
                        | (have e1 : ((0 : Int) == (kk : Int)) = true := by simp; omega)
                        | (have e1 : ((0 : Int) == (kk : Int)) = false := by simp; omega)
                      first
                        | (obtain ⟨b, off, rfl, ce⟩ := x3.out)
                        | skip
                      try clear y9
                      clear z2
                      go_wp2_with fail
                      refine (rows_any A5 M want c5 cap us (vs.take want) (xss.take want) _ R5.out ((HR.out.below K4.out).take want) LU.out Q5.out.isBs ((HB.out.below K4.out).take want) hc5).mono ?_
                      rintro e w5 ⟨rfl, d5, rfl⟩
                      go_wp2_with fail
                      refine (known_any _).mono ?_
                      rintro e w7 ⟨rfl, k7⟩
                      go_wp2_with fail
                      go_ret
                      exact ⟨rfl, below_step (below_draw K4.out d5) k7⟩
                  · have e0 : ((a : Int) == (a : Int)) = true := by simp
                    obtain ⟨b0, off0, hb0, ce0⟩ := z4.out
                    subst hb0
                    rcases hse with ⟨y1, y9⟩ | ⟨y1, y2, y3⟩ <;> rcases hwl with ⟨x1, t, x2, x3⟩ | x1
                    all_goals
                      first
                        | (have e1 : ((a : Int) == (kk : Int)) = true := by simp; omega)
                        | (have e1 : ((a : Int) == (kk : Int)) = false := by simp; omega)
                      first
                        | (obtain ⟨b, off, eb, ce⟩ := x3.out; cases eb)
                        | skip
                      try clear y9
                      go_wp2_with fail
                      refine (rows_any A5 M want c5 cap us (vs.take want) (xss.take want) _ R5.out ((HR.out.below K4.out).take want) LU.out Q5.out.isBs ((HB.out.below K4.out).take want) hc5).mono ?_
                      rintro e w5 ⟨rfl, d5, rfl⟩
                      go_wp2_with fail
                      refine (known_any _).mono ?_
                      rintro e w7 ⟨rfl, k7⟩
                      go_wp2_with fail
                      go_ret
                      exact ⟨rfl, below_step (below_draw K4.out d5) k7⟩
      · clear hstep hU
        have h4' : ¬ ((u : Int) ≤ 4000) := by omega
        go_wp2_with fail
        go_ret
        exact ⟨rfl, Below.refl _ _⟩
end Go.Proofs.Ytopcjiilcbjimaa
