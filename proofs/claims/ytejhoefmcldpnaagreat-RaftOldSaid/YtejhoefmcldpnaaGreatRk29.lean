/- The program's Append. Condition: fewer than 2 to the 30 segments and entries. -/
import Derived.Test.YtejhoefmcldpnaaGreatRk27
import Derived.Test.YtejhoefmcldpnaaGreatRk28
import Derived.Test.YtejhoefmcldpnaaGreatRk7
import Derived.Test.YtejhoefmcldpnaaGreatRk5
import Derived.Test.YtejhoefmcldpnaaGreatRk22
namespace Go.Proofs.YtejhoefmcldpnaaGreat
open Go.RowKit Go.Maps
theorem PBoth.below {w w' : World} {F G : Nat → Prop} {dp l room : Nat} {s : ByteArray} {P : PLog} {L : DiskL} (h : PBoth w F G dp l room s P L) (k : Below w.heap.size w w') : PBoth w' F G dp l room s P L := ⟨h.disk.below k, h.log.below k, h.apart⟩
theorem isB_turnP {S : Nat → Prop} {w w' : World} {v : Value} {xs : List Nat} (h : IsB w v xs) (t : Turn S w w') (ho : xs ≠ [] → ∀ b, v.ownBlock = some b → ¬ S b) : IsB w' v xs := by
  rcases xs with _ | ⟨x, r⟩
  · obtain ⟨A, c, e, _, hn⟩ := h
    exact ⟨A, c, e, fun q => absurd rfl q, hn⟩
  · exact h.turn t (ho (by simp))
theorem turn_cell {S : Nat → Prop} {w w' : World} {b i : Nat} {v : Value} (t : Turn S w w') (hc : w.cell? ⟨b, i, none⟩ = some v) (hn : ¬ S b) : w'.cell? ⟨b, i, none⟩ = some v := by
  rw [World.cell?_of_block (t.block b (cell_lt hc) hn)]
  exact hc
theorem PRow.ne {w : World} {G : Nat → Prop} {g n c : Nat} {X : List Sgp} (h : PRow w G (.slice (some ⟨g, 0, none⟩) n c) X) {x : Sgp} (hx : x ∈ X) : x.2.1.ownBlock ≠ some g := fun e => by
  obtain ⟨us, _, h2, _⟩ := h.each x hx
  obtain ⟨cur, hc⟩ := row_typed h2 e
  obtain ⟨cur2, hc2⟩ := row_typed h.row rfl
  rw [hc] at hc2
  simp only [Option.some.injEq, Obj.cells.injEq] at hc2
  exact absurd hc2.2.1 (by decide)
theorem SegE.ne {w : World} {G : Nat → Prop} {v : Value} {f l : Nat} {es : List (List Nat)} {vs : List Value} (h : SegE G w v f es) (hb : Blk w 0 122 l vs) : v.ownBlock ≠ some l := by
  obtain ⟨us, _, h2, _⟩ := h
  exact ownsRow_notIn h2 hb (by decide)
theorem recs_ge : ∀ (es : List (List Nat)) (f : Nat), es.length ≤ (recsL f es).length := by
  intro es
  induction es with
  | nil => intro f; exact Nat.le_refl _
  | cons p r ih =>
    intro f
    have h1 := ih (f + 1)
    have h2 := rec_len f p
    show r.length + 1 ≤ (recL f p ++ recsL (f + 1) r).length
    rw [List.length_append]
    omega
/-- What stands while an entry is laid. -/
structure AddC (w W : World) (F G : Nat → Prop) (dp l room : Nat) (s : ByteArray) (vS : Value) (nx : Nat) (L : DiskL) (vR : Value) (rc : List Nat) (vP : Value) (p : List Nat) : Prop where
  cells : Blk W 0 122 l [.pointer (some ⟨dp, 0, none⟩), .string s, vS, .int .i64 (nx : Int)]
  disk : DiskAt W F dp room L
  rcd : IsB W vR rc
  arg : IsB W vP p
  turn : Turn (fun k => F k ∨ G k) w W
  offR : ∀ b, vR.ownBlock = some b → w.heap.size ≤ b
  offP : p ≠ [] → ∀ g, vP.ownBlock = some g → ¬ F g ∧ ¬ G g
  apart : ∀ k, F k → ¬ G k
  lowG : ∀ k, G k → k < w.heap.size
  lowF : ∀ k, F k → k < w.heap.size
  own : G l
theorem AddC.step {S : Nat → Prop} {w W W' : World} {F G : Nat → Prop} {dp l room : Nat} {s : ByteArray} {vS : Value} {nx : Nat} {L : DiskL} {vR : Value} {rc : List Nat} {vP : Value} {p : List Nat} (h : AddC w W F G dp l room s vS nx L vR rc vP p) (t : Turn S W W') (hS : ∀ q, S q → G q ∧ q ≠ l) : AddC w W' F G dp l room s vS nx L vR rc vP p :=
  ⟨h.cells.turn t (fun e => (hS l e).2 rfl), h.disk.turn t (fun q hq e => h.apart q hq (hS q e).1), h.rcd.turn t (fun q hq e => by have := h.offR q hq; have := h.lowG q (hS q e).1; omega), isB_turnP h.arg t (fun hne q hq e => (h.offP hne q hq).2 (hS q e).1), h.turn.then t (fun q e => .inl (.inr (hS q e).1)), h.offR, h.offP, h.apart, h.lowG, h.lowF, h.own⟩
theorem AddC.below {w W W' : World} {F G : Nat → Prop} {dp l room : Nat} {s : ByteArray} {vS : Value} {nx : Nat} {L : DiskL} {vR : Value} {rc : List Nat} {vP : Value} {p : List Nat} (h : AddC w W F G dp l room s vS nx L vR rc vP p) (k : Below W.heap.size W W') : AddC w W' F G dp l room s vS nx L vR rc vP p :=
  h.step (S := fun _ => False) (Turn.of_below _ k) (fun _ => False.elim)
theorem app_bad {room : Nat} {n : Str} {p : List Nat} {L : DiskL} (h : (appL room n p L).2 ≠ 0) : (appL room n p L).1 = L := by
  unfold appL at h ⊢
  split
  · rfl
  · next h1 =>
    rw [if_neg h1] at h
    split
    · rfl
    · next h2 =>
      rw [if_neg h2] at h
      exact absurd rfl h
set_option maxRecDepth 100000 in
set_option maxHeartbeats 12800000 in
theorem padd_none (w : World) (F G : Nat → Prop) (dp l room : Nat) (s : ByteArray) (P : PLog) (L : DiskL) (A0 : Option Addr) (m cp : Nat) (p : List Nat) (h : PBoth w F G dp l room s P L) (hs : s.size ≤ 64)
    (hP : IsB w (.slice A0 m cp) p) (hm : p.length = m) (hb : ∀ x ∈ p, x < 256) (hmr : m ≤ 1048566) (hPo : p ≠ [] → ∀ g, (Value.slice A0 m cp).ownBlock = some g → ¬ F g ∧ ¬ G g)
    (hnx : P.next < 99999999) (hsl : P.segs.length < 1073741824) (hl : P.segs = []) :
    Calls Tryz.prog 87 #[.pointer (some ⟨l, 0, none⟩), .slice A0 m cp] w fun e w' => ∃ R : (PLog × DiskL) × Nat × Nat, R = addP room s.data.toList p P L ∧ e = .returned (.tuple #[.int .i64 (R.2.1 : Int), .int .i64 (R.2.2 : Int)]) ∧ ∃ F' G', PBoth w' F' G' dp l room s R.1.1 R.1.2 ∧
      Turn (fun k => F k ∨ G k) w w' ∧ (∀ k, F' k → F k ∨ w.heap.size ≤ k) ∧ (∀ k, G' k → G k ∨ w.heap.size ≤ k) := by
  obtain ⟨segs, nx⟩ := P
  obtain ⟨hD, ⟨vS, X, e, h⟩, hap⟩ := h
  simp only at e h hnx hsl hl
  have c0 : w.cell? ⟨l, 0, none⟩ = some (.pointer (some ⟨dp, 0, none⟩)) := h.cells.cell 0
  have c1 : w.cell? ⟨l, 1, none⟩ = some (.string s) := h.cells.cell 1
  have c2 : w.cell? ⟨l, 2, none⟩ = some vS := h.cells.cell 2
  have c3 : w.cell? ⟨l, 3, none⟩ = some (.int .i64 (nx : Int)) := h.cells.cell 3
  have hll := cell_lt c0
  obtain ⟨AS, cS, eS, hlc, hc63, hnil, hcell⟩ := rowP_form h.row
  subst eS
  have hXe : segs.length = X.length := by rw [e, List.length_map]
  obtain ⟨N, hN⟩ : ∃ N, N = X.length := ⟨_, rfl⟩
  have hNl : N < 1073741824 := by omega
  rw [← hN] at c2 hlc h
  have hN0 : N = 0 := by rw [hN, ← hXe, hl]; rfl
  have hz0 : ((N : Int) == 0) = true := by rw [hN0]; rfl
  have hfr : freshP ⟨segs, nx⟩ = true := by unfold freshP; rw [hl]; rfl
  have hz2 : (m : Int) ≤ 1048566 := by omega
  have hz3 : ((99999999 : Int) ≤ (nx : Int)) = False := eq_false (by omega)
  have hu : IntKind.u64.wrap (nx : Int) = (nx : Int) := by rw [IntKind.wrap_u64]; omega
  have hf : nx ≤ 1099511627776 := by omega
  have HNX := hide hnx
  have HD := hide hD
  have HP := hide hP
  have HPM := hide hm
  have HPB := hide hb
  have HPO := hide hPo
  have HH := hide h
  have HAP := hide hap
  have EE := hide e
  have HNN := hide hN
  have HNL := hide hNl
  have HFR := hide hfr
  have HLL := hide hl
  have HNIL := hide hnil
  have HN0 := hide hN0
  clear hN0
  clear hD h hap hN e hnil hP hm hb hPo hnx hXe hl hcell hfr hsl
  go_enter Tryz.func87, Tryz.ntmps87
  go_wp2_with fail
  refine (uvarint_any nx w (by omega)).mono ?_
  rintro e w1 ⟨v1, rfl, o1, k1⟩
  obtain ⟨A1, c1', rfl, i1, l1, m1⟩ := o1.isB.form (n := (uvl nx).length) rfl
  have hP1 := HP.out.keep k1
  have r0 := (k1.cell (p := ⟨l, 0, none⟩) hll).trans c0
  have r1 := (k1.cell (p := ⟨l, 1, none⟩) hll).trans c1
  have r2 := (k1.cell (p := ⟨l, 2, none⟩) hll).trans c2
  have r3 := (k1.cell (p := ⟨l, 3, none⟩) hll).trans c3
  have I1 := hide i1
  have K1 := hide k1
  have P1 := hide hP1
  have HUL := hide (uvl_ten (i := nx) (by have := HNX.out; omega))
  clear o1 i1 k1 hP1
  go_wp2_with fail
  have nb : Below w1.heap.size w1 (w1.alloc (.cells #[.slice A1 (uvl nx).length c1', .slice A0 m cp] 32)) := (Below.refl _ _).alloc (Nat.le_refl _) _
  have hfl : [uvl nx, p].flatten = uvl nx ++ p := by simp
  refine (concat_any _ 2 2 [.slice A1 (uvl nx).length c1', .slice A0 m cp] [uvl nx, p] _ (rdV_new w1 _ _ _ _ rfl rfl) rfl (IsBs.two (I1.out.keep nb) (P1.out.keep nb)) (by rw [hfl, List.length_append]; have := HUL.out; have := HPM.out; omega) (by decide)).mono ?_
  rintro e w2 ⟨s2, rfl, o2, k2⟩
  rw [hfl] at o2
  obtain ⟨lr, hlr⟩ : ∃ lr, lr = (uvl nx ++ p).length := ⟨_, rfl⟩
  have hlr2 : lr ≤ 1048576 := by rw [hlr, List.length_append]; have := HUL.out; have := HPM.out; omega
  obtain ⟨A2, c2', rfl, i2, l2, m2⟩ := o2.isB.form (n := lr) hlr.symm
  have K2 := hide (K1.out.trans ((nb.trans (k2.mono nb.size)).mono K1.out.size))
  have I2 := hide i2
  have HLR := hide hlr
  clear nb o2 i2 k2 hfl hlr r0 r1 r2 r3
  go_wp2_with fail
  refine (encode_any A2 lr c2' (uvl nx ++ p) _ I2.out HLR.out.symm (fun x hx => (List.mem_append.1 hx).elim (uvl_byte nx x) (HPB.out x)) hlr2).mono ?_
  rintro e w3 ⟨v3, rfl, o3, k3⟩
  have o3 : Own w3 w2.heap.size v3 (recL nx p) := o3
  obtain ⟨rn, hrn⟩ : ∃ rn, rn = (recL nx p).length := ⟨_, rfl⟩
  obtain ⟨A3, c3', rfl, i3, l3, m3⟩ := o3.isB.form (n := rn) hrn.symm
  have hrn2 : rn ≤ 1048600 := by have := rec_len nx p; rw [hrn, this]; have := HUL.out; have := HPM.out; omega
  have k13 := K2.out.trans (k3.mono K2.out.size)
  have r0 := (k13.cell (p := ⟨l, 0, none⟩) hll).trans c0
  have r1 := (k13.cell (p := ⟨l, 1, none⟩) hll).trans c1
  have r2 := (k13.cell (p := ⟨l, 2, none⟩) hll).trans c2
  have r3 := (k13.cell (p := ⟨l, 3, none⟩) hll).trans c3
  have K3 := hide k13
  have I3 := hide i3
  have HRN := hide hrn
  have HRB := hide (show ∀ x ∈ recL nx p, x < 256 from frameL_byte (fun x hx => (List.mem_append.1 hx).elim (uvl_byte nx x) (HPB.out x)))
  have hoff : ∀ b, (Value.slice A3 rn c3').ownBlock = some b → w.heap.size ≤ b := fun b hb => by have := (o3.lt b hb).1; have := K2.out.size; omega
  have C3 := hide (show AddC w w3 F G dp l room s (.slice AS N cS) nx L (.slice A3 rn c3') (recL nx p) (.slice A0 m cp) p from ⟨(HH.out.below k13).cells, HD.out.below k13, i3, HP.out.keep k13, Turn.of_below _ k13, hoff, HPO.out, HAP.out, HH.out.low, HD.out.low, HH.out.own⟩)
  have Q3 := hide (HH.out.below k13).prow
  clear o3 i3 k3 k13 hrn c0 c1 c2 c3 hoff
  go_wp2_with (at_builtin; refine halt ?_)
  refine ⟨wpList_of_step (fun K hK => ?_)⟩
  have nb1 := below_alloc w3 (.cells #[.int .i64 (nx : Int), .slice none 0 0, .bool false] 127)
  have mB := Blk.new (B := 0) w3 127 #[.int .i64 (nx : Int), .slice none 0 0, .bool false] (Nat.zero_le _)
  obtain ⟨w4, hw4⟩ : ∃ z, z = w3.alloc (.cells #[.int .i64 (nx : Int), .slice none 0 0, .bool false] 127) := ⟨_, rfl⟩
  rw [← hw4] at nb1 mB ⊢
  have C4 := hide (C3.out.below nb1)
  have Q4 := hide (Q3.out.below nb1)
  have hs0 := C3.out.turn.size
  clear nb1 hw4
  refine step_append_sgm rfl (.tmp 54) (.tmp 60) rfl G (.slice AS N cS) X rfl Q4.out w3.heap.size nx (.slice none 0 0) false [] rfl (mB.cell 0) (mB.cell 1) (mB.cell 2) (SegE.nil _ _ _) (fun _ _ _ _ e => by cases e) (by rw [← HNN.out]; omega) ?_
  rintro v8 w5 p5 q5 g5 -
  obtain ⟨kY, hkY⟩ : ∃ k, k = X.length := ⟨_, rfl⟩
  obtain ⟨g8, c8, e8, h81, h82, hg8, y0, y1, y2, y3⟩ := rowP_last p5.row hkY.symm
  subst e8
  obtain ⟨nn, hnn⟩ : ∃ n, n = kY + 1 := ⟨_, rfl⟩
  rw [← hnn] at p5 h81 ⊢
  have C5 := hide (C4.out.step (Turn.of_grown g5) (fun q e => ⟨Q4.out.mine q e.symm, fun e2 => ownsRow_notIn Q4.out.row C4.out.cells (by decide) (by rw [← e2]; exact e.symm)⟩))
  have hw0 := C4.out.turn.size
  have P8 := hide (p5.mono (G' := fun q => G q ∨ (w.heap.size ≤ q ∧ q < w5.heap.size)) (fun q hq h => h.elim .inl (fun e => .inr ⟨by omega, hq⟩)))
  refine hK.out _ _ ?_
  clear hK
  simp only [Act.put, List.setIfInBounds_toArray, List.set_cons_zero, List.set_cons_succ]
  have Q8 := hide q5
  have HKY := hide (show kY = X.length from hkY)
  have hs8 : (nn : Int) - 1 = (kY : Int) := by omega
  have hk8 : kY < nn := by omega
  have hk30 : kY < 1073741824 := by rw [hkY, ← HNN.out]; exact HNL.out
  clear p5 q5 mB g5 hw0 hs0 hkY hnn C4 Q4
  have HSN : Hid (nx = nx + (([] : List (List Nat))).length) := hide (by simp)
  have hsz5 := C5.out.turn.size
  have hs64 : s.size ≤ 1099511627776 := by omega
  have r0 : w5.cell? ⟨l, 0, none⟩ = some (.pointer (some ⟨dp, 0, none⟩)) := C5.out.cells.cell 0
  have r1 : w5.cell? ⟨l, 1, none⟩ = some (.string s) := C5.out.cells.cell 1
  have r3 : w5.cell? ⟨l, 3, none⟩ = some (.int .i64 (nx : Int)) := C5.out.cells.cell 3
  have hll5 := cell_lt r0
  have r1d : w5.drew.cell? ⟨l, 1, none⟩ = some (.string s) := r1
  have hnl : Hid (¬ F l) := hide (fun hk => C5.out.apart l hk C5.out.own)
  have hG8 : Hid (∀ q, (G q ∨ (w.heap.size ≤ q ∧ q < w5.heap.size)) → ¬ F q) := hide (fun q hq hf => hq.elim (fun h => C5.out.apart q hf h) (fun h => by have := C5.out.lowF q hf; omega))
  have hng8 : Hid (¬ F g8) := hide (hG8.out g8 (P8.out.mine g8 rfl))
  obtain ⟨ae, hae⟩ : ∃ e, e = (appL room (nameL s.data.toList nx) (recL nx p) L).2 := ⟨_, rfl⟩
  have HAE := hide hae
  have Y0 := hide y0
  have Y1 := hide y1
  have Y2 := hide y2
  have Y3 := hide y3
  clear hae y1 y2 y3
  go_wp2_with fail
  go_region_held3 (fun W' => W'.cell? ⟨l, 0, none⟩ = some (.pointer (some ⟨dp, 0, none⟩)) ∧ W'.cell? ⟨g8, kY * 3, none⟩ = some (.int .i64 (nx : Int))) (go_keep)
    (first
      | (go_at_call 77; refine (pname_any l s nx _ r1d hs64 (by omega)).mono ?_; rintro e w6 ⟨t, rfl, htl, kn⟩; have kn2 : Below w5.heap.size w5 w6 := (by exact ⟨kn.os, kn.tape, kn.output, kn.size, kn.block⟩); have C6 := hide (C5.out.below kn2); have K6 := hide kn2; have x0 : w6.cell? ⟨l, 0, none⟩ = some (.pointer (some ⟨dp, 0, none⟩)) := C6.out.cells.cell 0; have x1 : w6.cell? ⟨g8, kY * 3, none⟩ = some (.int .i64 (nx : Int)) := (kn2.cell (p := ⟨g8, kY * 3, none⟩) hg8).trans Y0.out; have TL := hide htl; have TS : t.size ≤ 1099511627776 := (by have h1 : t.data.toList.length = t.size := rfl; have h2 := name_len s.data.toList nx; have h3 : s.data.toList.length = s.size := rfl; rw [htl, h2, h3] at h1; omega); clear htl kn kn2)
      | (go_at_call 113; refine (append_any F dp room L t A3 rn c3' (recL nx p) w6 C6.out.disk TS C6.out.rcd HRN.out.symm HRB.out (by omega)).mono ?_; rintro e w7 ⟨rfl, F1, d7, n7⟩; rw [TL.out] at d7 ⊢; rw [← HAE.out]; have N7 := hide n7; have D7 := hide d7; have x0 : w7.cell? ⟨l, 0, none⟩ = some (.pointer (some ⟨dp, 0, none⟩)) := (n7.far (i := 0) (cell_lt x0) hnl.out).trans x0; have x1 : w7.cell? ⟨g8, kY * 3, none⟩ = some (.int .i64 (nx : Int)) := (n7.far (i := kY * 3) (cell_lt x1) hng8.out).trans x1; clear n7 d7))
  have hTF : Hid (Turn (fun k => F k) w5 w7) := hide ((Turn.of_below _ K6.out).trans N7.out.turn)
  have hF1 : Hid (∀ q, F1 q → F q ∨ w5.heap.size ≤ q) := hide (fun q hq => (N7.out.foot q hq).imp id (fun h => by have := K6.out.size; omega))
  have HT7 : Hid (Turn (fun k => F k ∨ G k) w w7) := hide (C5.out.turn.then hTF.out (fun q hq => .inl (.inl hq)))
  have HF7 : Hid (∀ q, F1 q → F q ∨ w.heap.size ≤ q) := hide (fun q hq => (hF1.out q hq).imp id (fun h => by omega))
  have HB7 := hide (C5.out.cells.turn hTF.out hnl.out)
  have HQ7 := hide (Q8.out.turn hTF.out (fun q hg hf => C5.out.apart q hf hg))
  have HAP1 : Hid (∀ q, F1 q → ¬ G q) := hide (fun q hq hg => (hF1.out q hq).elim (fun h => C5.out.apart q h hg) (fun h => by have := C5.out.lowG q hg; omega))
  by_cases hz : ae = 0
  · have hza : ((ae : Int) != 0) = false := by rw [hz]; rfl
    have hd7low := D7.out.low
    have hs7 := hTF.out.size
    have hGp : Hid (∀ q, (G q ∨ (w.heap.size ≤ q ∧ ¬ F1 q)) → ¬ F1 q) := hide (fun q hq hf => hq.elim (fun h => HAP1.out q hf h) (fun h => h.2 hf))
    have hGpF : Hid (∀ q, (G q ∨ (w.heap.size ≤ q ∧ ¬ F1 q)) → ¬ F q) := hide (fun q hq hf => hq.elim (fun h => C5.out.apart q hf h) (fun h => by have := C5.out.lowF q hf; omega))
    have P7 := hide ((P8.out.mono (G' := fun q => G q ∨ (w.heap.size ≤ q ∧ ¬ F1 q)) (fun q hq h => h.imp id (fun h => ⟨h.1, fun hf => (hF1.out q hf).elim (fun h2 => by have := C5.out.lowF q h2; omega) (fun h2 => by omega)⟩))).turn hTF.out hGpF.out)
    have A7 := hide (isB_turnP C5.out.arg hTF.out (fun hne q hq hf => (C5.out.offP hne q hq).1 hf))
    have z1 := turn_cell hTF.out Y1.out hng8.out
    have z2 := turn_cell hTF.out Y2.out hng8.out
    have z3 : Hid (∀ j, w7.frozen? ⟨g8, j, none⟩ = false) := hide (fun j => (World.frozen?_of_block (hTF.out.block g8 hg8 hng8.out)).trans (Y3.out j))
    have hg87 : g8 < w7.heap.size := by omega
    have hl7 : l < w7.heap.size := by omega
    clear x0 x1 hd7low
    go_wp2_with fail
    refine (clone_any A0 m cp p _ A7.out HPM.out (by omega)).mono ?_
    rintro e w8 ⟨u8, rfl, o8, k8⟩
    have P9 := hide (P7.out.below k8)
    have B9 := hide (HB7.out.turn (Turn.of_below (fun _ => False) k8) id)
    have D9 := hide (D7.out.below k8)
    have z1 := (k8.cell (p := ⟨g8, kY * 3 + 1, none⟩) hg87).trans z1
    have z2 := (k8.cell (p := ⟨g8, kY * 3 + 2, none⟩) hg87).trans z2
    have z3 : Hid (∀ j, w8.frozen? ⟨g8, j, none⟩ = false) := hide (fun j => (k8.frozen (p := ⟨g8, j, none⟩) hg87).trans (z3.out j))
    have U8 := hide (o8.rowU (G := fun q => G q ∨ (w.heap.size ≤ q ∧ ¬ F1 q)) (fun q h1 h2 => .inr ⟨by omega, fun hf => by have := D7.out.low q hf; omega⟩))
    have K8 := hide k8
    have hs8w := k8.size
    obtain ⟨Au, cu, rfl, -⟩ := o8.isB.form (n := m) HPM.out
    clear o8 k8
    go_wp2_with fail
    have HE9 := P9.out.each (nx, Value.slice none 0 0, false, ([] : List (List Nat))) (by simp)
    have hne9 := P9.out.ne (x := (nx, Value.slice none 0 0, false, ([] : List (List Nat)))) (by simp)
    refine (play_any w8 _ g8 (kY * 3) (Value.slice none 0 0) (.bool false) nx rn (([] : List (List Nat))) (.slice Au m cu) p z1 z2 z3.out hne9 HE9 U8.out (by rw [← HSN.out]; exact HRN.out) (by simp [recsL]; omega) (by simp)).mono ?_
    rintro e w10 ⟨rfl, v9, w9, h0, rfl, hE9, hh0, hT9, hv9⟩
    have B10 := B9.out.turn hT9 (fun e => HE9.ne B9.out e.symm)
    have P10 := P9.out.laid (b' := true) (es' := ([] : List (List Nat)) ++ [p]) (v' := v9) hT9 hE9 (fun q _ h => .inl h) (fun q hq => hv9.elim (fun e => .inl (by rw [← e]; exact hq)) (fun e => by rw [e] at hq; exact .inr (by cases hq; exact hh0)))
    rw [← HKY.out] at P10
    have hgl : ¬ l = g8 := fun e => ownsRow_notIn P9.out.row B9.out (by decide) (by rw [e]; rfl)
    obtain ⟨w10, hw10⟩ : ∃ z, z = (w9.setCell ⟨g8, kY * 3 + 1, none⟩ v9).setCell ⟨g8, kY * 3 + 2, none⟩ (.bool true) := ⟨_, rfl⟩
    have t10 : Turn (fun q => q = g8) w9 w10 := by
      rw [hw10]
      exact ((Turn.of_grown (grown_set w9 g8 _ v9)).mono (fun q e => Option.some.inj e)).trans ((Turn.of_grown (grown_set _ g8 _ (.bool true))).mono (fun q e => Option.some.inj e))
    rw [← hw10] at P10 ⊢
    have B10 := B10.turn t10 hgl
    have hGg8 : G g8 ∨ (w.heap.size ≤ g8 ∧ ¬ F1 g8) := P9.out.mine g8 rfl
    have hT10 : Turn (fun q => G q ∨ (w.heap.size ≤ q ∧ ¬ F1 q)) w8 w10 := (hT9.mono (fun q e => HE9.own q e.symm)).trans (t10.mono (fun q e => by rw [e]; exact hGg8))
    have D10 := hide (D9.out.turn hT10 (fun q hf h => hGp.out q h hf))
    have s3 : w10.cell? ⟨l, 3, none⟩ = some (.int .i64 (nx : Int)) := B10.cell 3
    have s2 : w10.cell? ⟨l, 2, none⟩ = some (.slice AS N cS) := B10.cell 2
    have f2 := B10.frozen 2
    have f3 := B10.frozen 3
    have hl10 := cell_lt s3
    have P10 := hide P10
    have B10 := hide B10
    have T10 := hide hT10
    have hs10 := hT10.size
    clear hw10 t10 hE9 hT9 hT10 HE9 hne9 z1 z2
    go_wp2_with fail
    obtain ⟨wE, hwE⟩ : ∃ z, z = (w10.setCell ⟨l, 2, none⟩ (.slice (some ⟨g8, 0, none⟩) nn c8)).setCell ⟨l, 3, none⟩ (.int .i64 ((nx : Int) + 1)) := ⟨_, rfl⟩
    rw [← hwE]
    have tE : Turn (fun q => q = l) w10 wE := by
      rw [hwE]
      exact ((Turn.of_grown (grown_set w10 l _ _)).mono (fun q e => Option.some.inj e)).trans ((Turn.of_grown (grown_set _ l _ _)).mono (fun q e => Option.some.inj e))
    have BE := (B10.out.stored 2 (.slice (some ⟨g8, 0, none⟩) nn c8)).stored 3 (.int .i64 ((nx : Int) + 1))
    rw [← hwE] at BE
    have hcast : (nx : Int) + 1 = ((nx + 1 : Nat) : Int) := by omega
    rw [hcast] at BE
    have hsE := tE.size
    have hGl : G l := C5.out.own
    have PE := P10.out.off tE (fun q e => by rw [e]; exact blk_off B10.out)
    have DE := D10.out.turn tE (fun q hf e => HAP1.out q hf (e ▸ hGl))
    have PE2 := PE.mono (G' := fun q => G q ∨ (w.heap.size ≤ q ∧ q < wE.heap.size ∧ ¬ F1 q)) (fun q hq h => h.elim (fun h => h.imp id (fun h => ⟨h.1, hq, h.2⟩)) (fun e => .inr ⟨by omega, hq, fun hf => by have := D7.out.low q hf; omega⟩))
    have TE : Turn (fun k => F k ∨ G k) w wE := ((HT7.out.then (Turn.of_below (fun _ => False) K8.out) (fun _ => False.elim)).then T10.out (fun q h => h.elim (fun h => .inl (.inr h)) (fun h => .inr h.1))).then tE (fun q e => .inl (.inr (e ▸ hGl)))
    refine bodyPost_ret (v := .tuple #[.int .i64 (nx : Int), .int .i64 0]) (by simp [results, Tryz.results87, go_sem]) rfl ?_
    have hR : addP room s.data.toList p ⟨segs, nx⟩ L = ((⟨(X ++ [(nx, v9, true, ([] : List (List Nat)) ++ [p])]).map segP, nx + 1⟩, (appL room (nameL s.data.toList nx) (recL nx p) L).1), nx, 0) := by
      unfold addP
      dsimp only
      have hw : whereP ⟨segs, nx⟩ = nx := by unfold whereP; rw [if_pos HFR.out]
      have hla : laidP (if freshP ⟨segs, nx⟩ = true then segs ++ [(nx, [], false)] else segs) p = (X ++ [(nx, v9, true, ([] : List (List Nat)) ++ [p])]).map segP := by rw [if_pos HFR.out, EE.out]; unfold laidP; rw [List.getLast?_concat]; simp [segP]
      rw [if_neg (by have := HPM.out; omega), if_neg (by have := HNX.out; omega), hw, ← HAE.out, if_neg (by rw [hz]; simp), hla]
    refine ⟨_, rfl, by rw [hR]; rfl, F1, fun q => G q ∨ (w.heap.size ≤ q ∧ q < wE.heap.size ∧ ¬ F1 q), ?_, TE, HF7.out, fun q hq => hq.imp id (fun h => h.1)⟩
    rw [hR]
    exact ⟨DE, ⟨_, _, rfl, PE2.log BE (.inl hGl) (fun q hq => hq.elim (fun h => by have := C5.out.lowG q h; have := TE.size; omega) (fun h => h.2.1))⟩, fun q hf hq => hq.elim (HAP1.out q hf) (fun h => h.2.2 hf)⟩
  · have hza : ((ae : Int) != 0) = true := by simp; exact hz
    have hbad := hide (app_bad (by rw [← HAE.out]; exact hz))
    have hR : Hid (addP room s.data.toList p ⟨segs, nx⟩ L = ((⟨segs, nx⟩, L), 0, ae)) := hide (by
      unfold addP
      dsimp only
      have hw : whereP ⟨segs, nx⟩ = nx := by unfold whereP; rw [if_pos HFR.out]
      rw [if_neg (by have := HPM.out; omega), if_neg (by have := HNX.out; omega), hw, ← HAE.out, if_pos hz])
    clear x0 x1
    go_wp2_with fail
    refine bodyPost_ret (v := .tuple #[.int .i64 0, .int .i64 (ae : Int)]) (by simp [results, Tryz.results87, go_sem]) rfl ?_
    refine ⟨_, rfl, by rw [hR.out]; rfl, F1, G, ?_, HT7.out, HF7.out, fun _ => .inl⟩
    rw [hR.out]
    have hd := D7.out
    rw [hbad.out] at hd
    exact ⟨hd, ⟨_, X, EE.out, HQ7.out.log HB7.out C5.out.own (fun q hq => by have := C5.out.lowG q hq; have := HT7.out.size; omega)⟩, HAP1.out⟩
set_option maxRecDepth 100000 in
set_option maxHeartbeats 12800000 in
theorem padd_big (w : World) (F G : Nat → Prop) (dp l room : Nat) (s : ByteArray) (P : PLog) (L : DiskL) (A0 : Option Addr) (m cp : Nat) (p : List Nat) (h : PBoth w F G dp l room s P L) (hs : s.size ≤ 64)
    (hP : IsB w (.slice A0 m cp) p) (hm : p.length = m) (hb : ∀ x ∈ p, x < 256) (hmr : m ≤ 1048566) (hPo : p ≠ [] → ∀ g, (Value.slice A0 m cp).ownBlock = some g → ¬ F g ∧ ¬ G g)
    (hnx : P.next < 99999999) (hsl : P.segs.length < 1073741824) (x : Sgf) (hl : P.segs.getLast? = some x) (hx : 1024 ≤ (recsL x.1 x.2.1).length) (hxm : (recsL x.1 x.2.1).length ≤ 1099511627776) :
    Calls Tryz.prog 87 #[.pointer (some ⟨l, 0, none⟩), .slice A0 m cp] w fun e w' => ∃ R : (PLog × DiskL) × Nat × Nat, R = addP room s.data.toList p P L ∧ e = .returned (.tuple #[.int .i64 (R.2.1 : Int), .int .i64 (R.2.2 : Int)]) ∧ ∃ F' G', PBoth w' F' G' dp l room s R.1.1 R.1.2 ∧
      Turn (fun k => F k ∨ G k) w w' ∧ (∀ k, F' k → F k ∨ w.heap.size ≤ k) ∧ (∀ k, G' k → G k ∨ w.heap.size ≤ k) := by
  obtain ⟨segs, nx⟩ := P
  obtain ⟨hD, ⟨vS, X, e, h⟩, hap⟩ := h
  simp only at e h hnx hsl hl
  have c0 : w.cell? ⟨l, 0, none⟩ = some (.pointer (some ⟨dp, 0, none⟩)) := h.cells.cell 0
  have c1 : w.cell? ⟨l, 1, none⟩ = some (.string s) := h.cells.cell 1
  have c2 : w.cell? ⟨l, 2, none⟩ = some vS := h.cells.cell 2
  have c3 : w.cell? ⟨l, 3, none⟩ = some (.int .i64 (nx : Int)) := h.cells.cell 3
  have hll := cell_lt c0
  obtain ⟨AS, cS, eS, hlc, hc63, hnil, hcell⟩ := rowP_form h.row
  subst eS
  have hXe : segs.length = X.length := by rw [e, List.length_map]
  obtain ⟨N, hN⟩ : ∃ N, N = X.length := ⟨_, rfl⟩
  have hNl : N < 1073741824 := by omega
  rw [← hN] at c2 hlc h
  have hXx : ∃ Y y, X = Y ++ [y] ∧ segP y = x := by
    rcases List.eq_nil_or_concat X with q | ⟨Y, y, q⟩
    · rw [e, q] at hl
      cases hl
    · rw [List.concat_eq_append] at q
      rw [e, q, List.map_append, List.map_cons, List.map_nil, List.getLast?_concat] at hl
      exact ⟨Y, y, q, Option.some.inj hl⟩
  obtain ⟨Y0, y0, hXY, hy0⟩ := hXx
  have hNY : N = Y0.length + 1 := by rw [hN, hXY]; simp
  have hz0 : ((N : Int) == 0) = false := by simp; omega
  obtain ⟨gS, eA, -, hgS, q0, q1, q2, qf⟩ := hcell Y0.length (by omega)
  subst eA
  have hXl : X[Y0.length]'(by omega) = y0 := by simp only [hXY]; rw [List.getElem_append_right (Nat.le_refl _)]; simp
  rw [hXl] at q0 q1 q2
  have hE0 := h.each y0 (by rw [hXY]; simp)
  have hyr : (recsL y0.1 y0.2.2.2).length = (recsL x.1 x.2.1).length := by rw [← hy0]; rfl
  have hsub : (N : Int) - 1 = (Y0.length : Int) := by omega
  obtain ⟨rl, hrl⟩ : ∃ rl, rl = (recsL y0.1 y0.2.2.2).length := ⟨_, rfl⟩
  have hz1 : ((1024 : Int) ≤ (rl : Int)) = True := eq_true (by omega)
  have hfr : freshP ⟨segs, nx⟩ = true := by unfold freshP; rw [hl]; simp; exact hx
  have hrm : (recsL y0.1 y0.2.2.2).length ≤ 1099511627776 := by omega
  have HSZ := hide (fun (W : World) (k : Below w.heap.size w W) => psize_any W G gS (Y0.length * 3) y0.2.1 y0.1 y0.2.2.2 ((k.cell (p := ⟨gS, Y0.length * 3 + 1, none⟩) hgS).trans q1) (hE0.turn (Turn.of_below (fun _ => False) k) (fun _ _ => id) (fun _ _ _ => id)) hrm)
  rw [← hrl] at HSZ
  have hz2 : (m : Int) ≤ 1048566 := by omega
  have hz3 : ((99999999 : Int) ≤ (nx : Int)) = False := eq_false (by omega)
  have hu : IntKind.u64.wrap (nx : Int) = (nx : Int) := by rw [IntKind.wrap_u64]; omega
  have hf : nx ≤ 1099511627776 := by omega
  have HNX := hide hnx
  have HD := hide hD
  have HP := hide hP
  have HPM := hide hm
  have HPB := hide hb
  have HPO := hide hPo
  have HH := hide h
  have HAP := hide hap
  have EE := hide e
  have HNN := hide hN
  have HNL := hide hNl
  have HFR := hide hfr
  have HLL := hide hl
  have HNIL := hide hnil
  have HXY := hide hXY
  have HY0 := hide hy0
  have HNY := hide hNY
  have HX := hide hx
  have hgSl := hgS
  clear hXY hy0 hNY hx hXl hE0 hyr hrl q0 q1 q2 qf hrm hxm
  clear hD h hap hN e hnil hP hm hb hPo hnx hXe hl hcell hfr hsl
  go_enter Tryz.func87, Tryz.ntmps87
  go_wp2_with fail
  refine (uvarint_any nx w (by omega)).mono ?_
  rintro e w1 ⟨v1, rfl, o1, k1⟩
  obtain ⟨A1, c1', rfl, i1, l1, m1⟩ := o1.isB.form (n := (uvl nx).length) rfl
  have hP1 := HP.out.keep k1
  have r0 := (k1.cell (p := ⟨l, 0, none⟩) hll).trans c0
  have r1 := (k1.cell (p := ⟨l, 1, none⟩) hll).trans c1
  have r2 := (k1.cell (p := ⟨l, 2, none⟩) hll).trans c2
  have r3 := (k1.cell (p := ⟨l, 3, none⟩) hll).trans c3
  have I1 := hide i1
  have K1 := hide k1
  have P1 := hide hP1
  have HUL := hide (uvl_ten (i := nx) (by have := HNX.out; omega))
  clear o1 i1 k1 hP1
  go_wp2_with fail
  have nb : Below w1.heap.size w1 (w1.alloc (.cells #[.slice A1 (uvl nx).length c1', .slice A0 m cp] 32)) := (Below.refl _ _).alloc (Nat.le_refl _) _
  have hfl : [uvl nx, p].flatten = uvl nx ++ p := by simp
  refine (concat_any _ 2 2 [.slice A1 (uvl nx).length c1', .slice A0 m cp] [uvl nx, p] _ (rdV_new w1 _ _ _ _ rfl rfl) rfl (IsBs.two (I1.out.keep nb) (P1.out.keep nb)) (by rw [hfl, List.length_append]; have := HUL.out; have := HPM.out; omega) (by decide)).mono ?_
  rintro e w2 ⟨s2, rfl, o2, k2⟩
  rw [hfl] at o2
  obtain ⟨lr, hlr⟩ : ∃ lr, lr = (uvl nx ++ p).length := ⟨_, rfl⟩
  have hlr2 : lr ≤ 1048576 := by rw [hlr, List.length_append]; have := HUL.out; have := HPM.out; omega
  obtain ⟨A2, c2', rfl, i2, l2, m2⟩ := o2.isB.form (n := lr) hlr.symm
  have K2 := hide (K1.out.trans ((nb.trans (k2.mono nb.size)).mono K1.out.size))
  have I2 := hide i2
  have HLR := hide hlr
  clear nb o2 i2 k2 hfl hlr r0 r1 r2 r3
  go_wp2_with fail
  refine (encode_any A2 lr c2' (uvl nx ++ p) _ I2.out HLR.out.symm (fun x hx => (List.mem_append.1 hx).elim (uvl_byte nx x) (HPB.out x)) hlr2).mono ?_
  rintro e w3 ⟨v3, rfl, o3, k3⟩
  have o3 : Own w3 w2.heap.size v3 (recL nx p) := o3
  obtain ⟨rn, hrn⟩ : ∃ rn, rn = (recL nx p).length := ⟨_, rfl⟩
  obtain ⟨A3, c3', rfl, i3, l3, m3⟩ := o3.isB.form (n := rn) hrn.symm
  have hrn2 : rn ≤ 1048600 := by have := rec_len nx p; rw [hrn, this]; have := HUL.out; have := HPM.out; omega
  have k13 := K2.out.trans (k3.mono K2.out.size)
  have r0 := (k13.cell (p := ⟨l, 0, none⟩) hll).trans c0
  have r1 := (k13.cell (p := ⟨l, 1, none⟩) hll).trans c1
  have r2 := (k13.cell (p := ⟨l, 2, none⟩) hll).trans c2
  have r3 := (k13.cell (p := ⟨l, 3, none⟩) hll).trans c3
  have K3 := hide k13
  have I3 := hide i3
  have HRN := hide hrn
  have HRB := hide (show ∀ x ∈ recL nx p, x < 256 from frameL_byte (fun x hx => (List.mem_append.1 hx).elim (uvl_byte nx x) (HPB.out x)))
  have hoff : ∀ b, (Value.slice A3 rn c3').ownBlock = some b → w.heap.size ≤ b := fun b hb => by have := (o3.lt b hb).1; have := K2.out.size; omega
  have C3 := hide (show AddC w w3 F G dp l room s (.slice (some ⟨gS, 0, none⟩) N cS) nx L (.slice A3 rn c3') (recL nx p) (.slice A0 m cp) p from ⟨(HH.out.below k13).cells, HD.out.below k13, i3, HP.out.keep k13, Turn.of_below _ k13, hoff, HPO.out, HAP.out, HH.out.low, HD.out.low, HH.out.own⟩)
  have Q3 := hide (HH.out.below k13).prow
  clear o3 i3 k3 k13 hrn c0 c1 c2 c3 hoff
  go_wp2_with fail
  refine (HSZ.out _ K3.out).mono ?_
  rintro e w3b ⟨rfl, d3, rfl⟩
  have kd3 : Below w3.heap.size w3 (w3.drewN d3) := ⟨rfl, rfl, rfl, Nat.le_refl _, fun _ _ => rfl⟩
  obtain ⟨w3b, hw3b⟩ : ∃ z, z = w3.drewN d3 := ⟨_, rfl⟩
  rw [← hw3b] at kd3 ⊢
  have CB := hide (C3.out.below kd3)
  have QB := hide (Q3.out.below kd3)
  have hwb := kd3.size
  have r0 : w3b.cell? ⟨l, 0, none⟩ = some (.pointer (some ⟨dp, 0, none⟩)) := CB.out.cells.cell 0
  have r1 : w3b.cell? ⟨l, 1, none⟩ = some (.string s) := CB.out.cells.cell 1
  have r3 : w3b.cell? ⟨l, 3, none⟩ = some (.int .i64 (nx : Int)) := CB.out.cells.cell 3
  clear kd3 hw3b
  go_wp2_with (at_builtin; refine halt ?_)
  refine ⟨wpList_of_step (fun K hK => ?_)⟩
  have nb1 := below_alloc w3b (.cells #[.int .i64 (nx : Int), .slice none 0 0, .bool false] 127)
  have mB := Blk.new (B := 0) w3b 127 #[.int .i64 (nx : Int), .slice none 0 0, .bool false] (Nat.zero_le _)
  obtain ⟨w4, hw4⟩ : ∃ z, z = w3b.alloc (.cells #[.int .i64 (nx : Int), .slice none 0 0, .bool false] 127) := ⟨_, rfl⟩
  rw [← hw4] at nb1 mB ⊢
  have C4 := hide (CB.out.below nb1)
  have Q4 := hide (QB.out.below nb1)
  have hs0 := C3.out.turn.size
  clear nb1 hw4
  refine step_append_sgm rfl (.tmp 54) (.tmp 60) rfl G (.slice (some ⟨gS, 0, none⟩) N cS) X rfl Q4.out w3b.heap.size nx (.slice none 0 0) false [] rfl (mB.cell 0) (mB.cell 1) (mB.cell 2) (SegE.nil _ _ _) (fun _ _ _ _ e => by cases e) (by rw [← HNN.out]; omega) ?_
  rintro v8 w5 p5 q5 g5 -
  obtain ⟨kY, hkY⟩ : ∃ k, k = X.length := ⟨_, rfl⟩
  obtain ⟨g8, c8, e8, h81, h82, hg8, y0, y1, y2, y3⟩ := rowP_last p5.row hkY.symm
  subst e8
  obtain ⟨nn, hnn⟩ : ∃ n, n = kY + 1 := ⟨_, rfl⟩
  rw [← hnn] at p5 h81 ⊢
  have C5 := hide (C4.out.step (Turn.of_grown g5) (fun q e => ⟨Q4.out.mine q e.symm, fun e2 => ownsRow_notIn Q4.out.row C4.out.cells (by decide) (by rw [← e2]; exact e.symm)⟩))
  have hw0 := C4.out.turn.size
  have P8 := hide (p5.mono (G' := fun q => G q ∨ (w.heap.size ≤ q ∧ q < w5.heap.size)) (fun q hq h => h.elim .inl (fun e => .inr ⟨by omega, hq⟩)))
  refine hK.out _ _ ?_
  clear hK
  simp only [Act.put, List.setIfInBounds_toArray, List.set_cons_zero, List.set_cons_succ]
  have Q8 := hide q5
  have HKY := hide (show kY = X.length from hkY)
  have hs8 : (nn : Int) - 1 = (kY : Int) := by omega
  have hk8 : kY < nn := by omega
  have hk30 : kY < 1073741824 := by rw [hkY, ← HNN.out]; exact HNL.out
  clear p5 q5 mB g5 hw0 hs0 hkY hnn C4 Q4
  have HSN : Hid (nx = nx + (([] : List (List Nat))).length) := hide (by simp)
  have hsz5 := C5.out.turn.size
  have hs64 : s.size ≤ 1099511627776 := by omega
  have r0 : w5.cell? ⟨l, 0, none⟩ = some (.pointer (some ⟨dp, 0, none⟩)) := C5.out.cells.cell 0
  have r1 : w5.cell? ⟨l, 1, none⟩ = some (.string s) := C5.out.cells.cell 1
  have r3 : w5.cell? ⟨l, 3, none⟩ = some (.int .i64 (nx : Int)) := C5.out.cells.cell 3
  have hll5 := cell_lt r0
  have r1d : w5.drew.cell? ⟨l, 1, none⟩ = some (.string s) := r1
  have hnl : Hid (¬ F l) := hide (fun hk => C5.out.apart l hk C5.out.own)
  have hG8 : Hid (∀ q, (G q ∨ (w.heap.size ≤ q ∧ q < w5.heap.size)) → ¬ F q) := hide (fun q hq hf => hq.elim (fun h => C5.out.apart q hf h) (fun h => by have := C5.out.lowF q hf; omega))
  have hng8 : Hid (¬ F g8) := hide (hG8.out g8 (P8.out.mine g8 rfl))
  obtain ⟨ae, hae⟩ : ∃ e, e = (appL room (nameL s.data.toList nx) (recL nx p) L).2 := ⟨_, rfl⟩
  have HAE := hide hae
  have Y0 := hide y0
  have Y1 := hide y1
  have Y2 := hide y2
  have Y3 := hide y3
  clear hae y1 y2 y3
  go_wp2_with fail
  go_region_held3 (fun W' => W'.cell? ⟨l, 0, none⟩ = some (.pointer (some ⟨dp, 0, none⟩)) ∧ W'.cell? ⟨g8, kY * 3, none⟩ = some (.int .i64 (nx : Int))) (go_keep)
    (first
      | (go_at_call 77; refine (pname_any l s nx _ r1d hs64 (by omega)).mono ?_; rintro e w6 ⟨t, rfl, htl, kn⟩; have kn2 : Below w5.heap.size w5 w6 := (by exact ⟨kn.os, kn.tape, kn.output, kn.size, kn.block⟩); have C6 := hide (C5.out.below kn2); have K6 := hide kn2; have x0 : w6.cell? ⟨l, 0, none⟩ = some (.pointer (some ⟨dp, 0, none⟩)) := C6.out.cells.cell 0; have x1 : w6.cell? ⟨g8, kY * 3, none⟩ = some (.int .i64 (nx : Int)) := (kn2.cell (p := ⟨g8, kY * 3, none⟩) hg8).trans Y0.out; have TL := hide htl; have TS : t.size ≤ 1099511627776 := (by have h1 : t.data.toList.length = t.size := rfl; have h2 := name_len s.data.toList nx; have h3 : s.data.toList.length = s.size := rfl; rw [htl, h2, h3] at h1; omega); clear htl kn kn2)
      | (go_at_call 113; refine (append_any F dp room L t A3 rn c3' (recL nx p) w6 C6.out.disk TS C6.out.rcd HRN.out.symm HRB.out (by omega)).mono ?_; rintro e w7 ⟨rfl, F1, d7, n7⟩; rw [TL.out] at d7 ⊢; rw [← HAE.out]; have N7 := hide n7; have D7 := hide d7; have x0 : w7.cell? ⟨l, 0, none⟩ = some (.pointer (some ⟨dp, 0, none⟩)) := (n7.far (i := 0) (cell_lt x0) hnl.out).trans x0; have x1 : w7.cell? ⟨g8, kY * 3, none⟩ = some (.int .i64 (nx : Int)) := (n7.far (i := kY * 3) (cell_lt x1) hng8.out).trans x1; clear n7 d7))
  have hTF : Hid (Turn (fun k => F k) w5 w7) := hide ((Turn.of_below _ K6.out).trans N7.out.turn)
  have hF1 : Hid (∀ q, F1 q → F q ∨ w5.heap.size ≤ q) := hide (fun q hq => (N7.out.foot q hq).imp id (fun h => by have := K6.out.size; omega))
  have HT7 : Hid (Turn (fun k => F k ∨ G k) w w7) := hide (C5.out.turn.then hTF.out (fun q hq => .inl (.inl hq)))
  have HF7 : Hid (∀ q, F1 q → F q ∨ w.heap.size ≤ q) := hide (fun q hq => (hF1.out q hq).imp id (fun h => by omega))
  have HB7 := hide (C5.out.cells.turn hTF.out hnl.out)
  have HQ7 := hide (Q8.out.turn hTF.out (fun q hg hf => C5.out.apart q hf hg))
  have HAP1 : Hid (∀ q, F1 q → ¬ G q) := hide (fun q hq hg => (hF1.out q hq).elim (fun h => C5.out.apart q h hg) (fun h => by have := C5.out.lowG q hg; omega))
  by_cases hz : ae = 0
  · have hza : ((ae : Int) != 0) = false := by rw [hz]; rfl
    have hd7low := D7.out.low
    have hs7 := hTF.out.size
    have hGp : Hid (∀ q, (G q ∨ (w.heap.size ≤ q ∧ ¬ F1 q)) → ¬ F1 q) := hide (fun q hq hf => hq.elim (fun h => HAP1.out q hf h) (fun h => h.2 hf))
    have hGpF : Hid (∀ q, (G q ∨ (w.heap.size ≤ q ∧ ¬ F1 q)) → ¬ F q) := hide (fun q hq hf => hq.elim (fun h => C5.out.apart q hf h) (fun h => by have := C5.out.lowF q hf; omega))
    have P7 := hide ((P8.out.mono (G' := fun q => G q ∨ (w.heap.size ≤ q ∧ ¬ F1 q)) (fun q hq h => h.imp id (fun h => ⟨h.1, fun hf => (hF1.out q hf).elim (fun h2 => by have := C5.out.lowF q h2; omega) (fun h2 => by omega)⟩))).turn hTF.out hGpF.out)
    have A7 := hide (isB_turnP C5.out.arg hTF.out (fun hne q hq hf => (C5.out.offP hne q hq).1 hf))
    have z1 := turn_cell hTF.out Y1.out hng8.out
    have z2 := turn_cell hTF.out Y2.out hng8.out
    have z3 : Hid (∀ j, w7.frozen? ⟨g8, j, none⟩ = false) := hide (fun j => (World.frozen?_of_block (hTF.out.block g8 hg8 hng8.out)).trans (Y3.out j))
    have hg87 : g8 < w7.heap.size := by omega
    have hl7 : l < w7.heap.size := by omega
    clear x0 x1 hd7low
    go_wp2_with fail
    refine (clone_any A0 m cp p _ A7.out HPM.out (by omega)).mono ?_
    rintro e w8 ⟨u8, rfl, o8, k8⟩
    have P9 := hide (P7.out.below k8)
    have B9 := hide (HB7.out.turn (Turn.of_below (fun _ => False) k8) id)
    have D9 := hide (D7.out.below k8)
    have z1 := (k8.cell (p := ⟨g8, kY * 3 + 1, none⟩) hg87).trans z1
    have z2 := (k8.cell (p := ⟨g8, kY * 3 + 2, none⟩) hg87).trans z2
    have z3 : Hid (∀ j, w8.frozen? ⟨g8, j, none⟩ = false) := hide (fun j => (k8.frozen (p := ⟨g8, j, none⟩) hg87).trans (z3.out j))
    have U8 := hide (o8.rowU (G := fun q => G q ∨ (w.heap.size ≤ q ∧ ¬ F1 q)) (fun q h1 h2 => .inr ⟨by omega, fun hf => by have := D7.out.low q hf; omega⟩))
    have K8 := hide k8
    have hs8w := k8.size
    obtain ⟨Au, cu, rfl, -⟩ := o8.isB.form (n := m) HPM.out
    clear o8 k8
    go_wp2_with fail
    have HE9 := P9.out.each (nx, Value.slice none 0 0, false, ([] : List (List Nat))) (by simp)
    have hne9 := P9.out.ne (x := (nx, Value.slice none 0 0, false, ([] : List (List Nat)))) (by simp)
    refine (play_any w8 _ g8 (kY * 3) (Value.slice none 0 0) (.bool false) nx rn (([] : List (List Nat))) (.slice Au m cu) p z1 z2 z3.out hne9 HE9 U8.out (by rw [← HSN.out]; exact HRN.out) (by simp [recsL]; omega) (by simp)).mono ?_
    rintro e w10 ⟨rfl, v9, w9, h0, rfl, hE9, hh0, hT9, hv9⟩
    have B10 := B9.out.turn hT9 (fun e => HE9.ne B9.out e.symm)
    have P10 := P9.out.laid (b' := true) (es' := ([] : List (List Nat)) ++ [p]) (v' := v9) hT9 hE9 (fun q _ h => .inl h) (fun q hq => hv9.elim (fun e => .inl (by rw [← e]; exact hq)) (fun e => by rw [e] at hq; exact .inr (by cases hq; exact hh0)))
    rw [← HKY.out] at P10
    have hgl : ¬ l = g8 := fun e => ownsRow_notIn P9.out.row B9.out (by decide) (by rw [e]; rfl)
    obtain ⟨w10, hw10⟩ : ∃ z, z = (w9.setCell ⟨g8, kY * 3 + 1, none⟩ v9).setCell ⟨g8, kY * 3 + 2, none⟩ (.bool true) := ⟨_, rfl⟩
    have t10 : Turn (fun q => q = g8) w9 w10 := by
      rw [hw10]
      exact ((Turn.of_grown (grown_set w9 g8 _ v9)).mono (fun q e => Option.some.inj e)).trans ((Turn.of_grown (grown_set _ g8 _ (.bool true))).mono (fun q e => Option.some.inj e))
    rw [← hw10] at P10 ⊢
    have B10 := B10.turn t10 hgl
    have hGg8 : G g8 ∨ (w.heap.size ≤ g8 ∧ ¬ F1 g8) := P9.out.mine g8 rfl
    have hT10 : Turn (fun q => G q ∨ (w.heap.size ≤ q ∧ ¬ F1 q)) w8 w10 := (hT9.mono (fun q e => HE9.own q e.symm)).trans (t10.mono (fun q e => by rw [e]; exact hGg8))
    have D10 := hide (D9.out.turn hT10 (fun q hf h => hGp.out q h hf))
    have s3 : w10.cell? ⟨l, 3, none⟩ = some (.int .i64 (nx : Int)) := B10.cell 3
    have s2 : w10.cell? ⟨l, 2, none⟩ = some (.slice (some ⟨gS, 0, none⟩) N cS) := B10.cell 2
    have f2 := B10.frozen 2
    have f3 := B10.frozen 3
    have hl10 := cell_lt s3
    have P10 := hide P10
    have B10 := hide B10
    have T10 := hide hT10
    have hs10 := hT10.size
    clear hw10 t10 hE9 hT9 hT10 HE9 hne9 z1 z2
    go_wp2_with fail
    obtain ⟨wE, hwE⟩ : ∃ z, z = (w10.setCell ⟨l, 2, none⟩ (.slice (some ⟨g8, 0, none⟩) nn c8)).setCell ⟨l, 3, none⟩ (.int .i64 ((nx : Int) + 1)) := ⟨_, rfl⟩
    rw [← hwE]
    have tE : Turn (fun q => q = l) w10 wE := by
      rw [hwE]
      exact ((Turn.of_grown (grown_set w10 l _ _)).mono (fun q e => Option.some.inj e)).trans ((Turn.of_grown (grown_set _ l _ _)).mono (fun q e => Option.some.inj e))
    have BE := (B10.out.stored 2 (.slice (some ⟨g8, 0, none⟩) nn c8)).stored 3 (.int .i64 ((nx : Int) + 1))
    rw [← hwE] at BE
    have hcast : (nx : Int) + 1 = ((nx + 1 : Nat) : Int) := by omega
    rw [hcast] at BE
    have hsE := tE.size
    have hGl : G l := C5.out.own
    have PE := P10.out.off tE (fun q e => by rw [e]; exact blk_off B10.out)
    have DE := D10.out.turn tE (fun q hf e => HAP1.out q hf (e ▸ hGl))
    have PE2 := PE.mono (G' := fun q => G q ∨ (w.heap.size ≤ q ∧ q < wE.heap.size ∧ ¬ F1 q)) (fun q hq h => h.elim (fun h => h.imp id (fun h => ⟨h.1, hq, h.2⟩)) (fun e => .inr ⟨by omega, hq, fun hf => by have := D7.out.low q hf; omega⟩))
    have TE : Turn (fun k => F k ∨ G k) w wE := ((HT7.out.then (Turn.of_below (fun _ => False) K8.out) (fun _ => False.elim)).then T10.out (fun q h => h.elim (fun h => .inl (.inr h)) (fun h => .inr h.1))).then tE (fun q e => .inl (.inr (e ▸ hGl)))
    refine bodyPost_ret (v := .tuple #[.int .i64 (nx : Int), .int .i64 0]) (by simp [results, Tryz.results87, go_sem]) rfl ?_
    have hR : addP room s.data.toList p ⟨segs, nx⟩ L = ((⟨(X ++ [(nx, v9, true, ([] : List (List Nat)) ++ [p])]).map segP, nx + 1⟩, (appL room (nameL s.data.toList nx) (recL nx p) L).1), nx, 0) := by
      unfold addP
      dsimp only
      have hw : whereP ⟨segs, nx⟩ = nx := by unfold whereP; rw [if_pos HFR.out]
      have hla : laidP (if freshP ⟨segs, nx⟩ = true then segs ++ [(nx, [], false)] else segs) p = (X ++ [(nx, v9, true, ([] : List (List Nat)) ++ [p])]).map segP := by rw [if_pos HFR.out, EE.out]; unfold laidP; rw [List.getLast?_concat]; simp [segP]
      rw [if_neg (by have := HPM.out; omega), if_neg (by have := HNX.out; omega), hw, ← HAE.out, if_neg (by rw [hz]; simp), hla]
    refine ⟨_, rfl, by rw [hR]; rfl, F1, fun q => G q ∨ (w.heap.size ≤ q ∧ q < wE.heap.size ∧ ¬ F1 q), ?_, TE, HF7.out, fun q hq => hq.imp id (fun h => h.1)⟩
    rw [hR]
    exact ⟨DE, ⟨_, _, rfl, PE2.log BE (.inl hGl) (fun q hq => hq.elim (fun h => by have := C5.out.lowG q h; have := TE.size; omega) (fun h => h.2.1))⟩, fun q hf hq => hq.elim (HAP1.out q hf) (fun h => h.2.2 hf)⟩
  · have hza : ((ae : Int) != 0) = true := by simp; exact hz
    have hbad := hide (app_bad (by rw [← HAE.out]; exact hz))
    have hR : Hid (addP room s.data.toList p ⟨segs, nx⟩ L = ((⟨segs, nx⟩, L), 0, ae)) := hide (by
      unfold addP
      dsimp only
      have hw : whereP ⟨segs, nx⟩ = nx := by unfold whereP; rw [if_pos HFR.out]
      rw [if_neg (by have := HPM.out; omega), if_neg (by have := HNX.out; omega), hw, ← HAE.out, if_pos hz])
    clear x0 x1
    go_wp2_with fail
    refine bodyPost_ret (v := .tuple #[.int .i64 0, .int .i64 (ae : Int)]) (by simp [results, Tryz.results87, go_sem]) rfl ?_
    refine ⟨_, rfl, by rw [hR.out]; rfl, F1, G, ?_, HT7.out, HF7.out, fun _ => .inl⟩
    rw [hR.out]
    have hd := D7.out
    rw [hbad.out] at hd
    exact ⟨hd, ⟨_, X, EE.out, HQ7.out.log HB7.out C5.out.own (fun q hq => by have := C5.out.lowG q hq; have := HT7.out.size; omega)⟩, HAP1.out⟩
set_option maxRecDepth 100000 in
set_option maxHeartbeats 12800000 in
theorem padd_more (w : World) (F G : Nat → Prop) (dp l room : Nat) (s : ByteArray) (P : PLog) (L : DiskL) (A0 : Option Addr) (m cp : Nat) (p : List Nat) (h : PBoth w F G dp l room s P L) (hs : s.size ≤ 64)
    (hP : IsB w (.slice A0 m cp) p) (hm : p.length = m) (hb : ∀ x ∈ p, x < 256) (hmr : m ≤ 1048566) (hPo : p ≠ [] → ∀ g, (Value.slice A0 m cp).ownBlock = some g → ¬ F g ∧ ¬ G g)
    (hnx : P.next < 99999999) (hsl : P.segs.length < 1073741824) (x : Sgf) (hl : P.segs.getLast? = some x) (hx : (recsL x.1 x.2.1).length < 1024) (hch : P.next = x.1 + x.2.1.length) :
    Calls Tryz.prog 87 #[.pointer (some ⟨l, 0, none⟩), .slice A0 m cp] w fun e w' => ∃ R : (PLog × DiskL) × Nat × Nat, R = addP room s.data.toList p P L ∧ e = .returned (.tuple #[.int .i64 (R.2.1 : Int), .int .i64 (R.2.2 : Int)]) ∧ ∃ F' G', PBoth w' F' G' dp l room s R.1.1 R.1.2 ∧
      Turn (fun k => F k ∨ G k) w w' ∧ (∀ k, F' k → F k ∨ w.heap.size ≤ k) ∧ (∀ k, G' k → G k ∨ w.heap.size ≤ k) := by
  obtain ⟨segs, nx⟩ := P
  obtain ⟨hD, ⟨vS, X, e, h⟩, hap⟩ := h
  simp only at e h hnx hsl hl hch
  have c0 : w.cell? ⟨l, 0, none⟩ = some (.pointer (some ⟨dp, 0, none⟩)) := h.cells.cell 0
  have c1 : w.cell? ⟨l, 1, none⟩ = some (.string s) := h.cells.cell 1
  have c2 : w.cell? ⟨l, 2, none⟩ = some vS := h.cells.cell 2
  have c3 : w.cell? ⟨l, 3, none⟩ = some (.int .i64 (nx : Int)) := h.cells.cell 3
  have hll := cell_lt c0
  obtain ⟨AS, cS, eS, hlc, hc63, hnil, hcell⟩ := rowP_form h.row
  subst eS
  have hXe : segs.length = X.length := by rw [e, List.length_map]
  obtain ⟨N, hN⟩ : ∃ N, N = X.length := ⟨_, rfl⟩
  have hNl : N < 1073741824 := by omega
  rw [← hN] at c2 hlc h
  have hXx : ∃ Y y, X = Y ++ [y] ∧ segP y = x := by
    rcases List.eq_nil_or_concat X with q | ⟨Y, y, q⟩
    · rw [e, q] at hl
      cases hl
    · rw [List.concat_eq_append] at q
      rw [e, q, List.map_append, List.map_cons, List.map_nil, List.getLast?_concat] at hl
      exact ⟨Y, y, q, Option.some.inj hl⟩
  obtain ⟨Y0, y0, hXY, hy0⟩ := hXx
  have hNY : N = Y0.length + 1 := by rw [hN, hXY]; simp
  have hz0 : ((N : Int) == 0) = false := by simp; omega
  obtain ⟨gS, eA, -, hgS, q0, q1, q2, qf⟩ := hcell Y0.length (by omega)
  subst eA
  have hXl : X[Y0.length]'(by omega) = y0 := by simp only [hXY]; rw [List.getElem_append_right (Nat.le_refl _)]; simp
  rw [hXl] at q0 q1 q2
  have hE0 := h.each y0 (by rw [hXY]; simp)
  have hyr : (recsL y0.1 y0.2.2.2).length = (recsL x.1 x.2.1).length := by rw [← hy0]; rfl
  have hsub : (N : Int) - 1 = (Y0.length : Int) := by omega
  obtain ⟨rl, hrl⟩ : ∃ rl, rl = (recsL y0.1 y0.2.2.2).length := ⟨_, rfl⟩
  have hz1 : ((1024 : Int) ≤ (rl : Int)) = False := eq_false (by omega)
  have hfr : freshP ⟨segs, nx⟩ = false := by unfold freshP; rw [hl]; simp; exact hx
  have hrm : (recsL y0.1 y0.2.2.2).length ≤ 1099511627776 := by omega
  have HSZ := hide (fun (W : World) (k : Below w.heap.size w W) => psize_any W G gS (Y0.length * 3) y0.2.1 y0.1 y0.2.2.2 ((k.cell (p := ⟨gS, Y0.length * 3 + 1, none⟩) hgS).trans q1) (hE0.turn (Turn.of_below (fun _ => False) k) (fun _ _ => id) (fun _ _ _ => id)) hrm)
  rw [← hrl] at HSZ
  have hz2 : (m : Int) ≤ 1048566 := by omega
  have hz3 : ((99999999 : Int) ≤ (nx : Int)) = False := eq_false (by omega)
  have hu : IntKind.u64.wrap (nx : Int) = (nx : Int) := by rw [IntKind.wrap_u64]; omega
  have hf : nx ≤ 1099511627776 := by omega
  have HNX := hide hnx
  have HD := hide hD
  have HP := hide hP
  have HPM := hide hm
  have HPB := hide hb
  have HPO := hide hPo
  have HH := hide h
  have HAP := hide hap
  have EE := hide e
  have HNN := hide hN
  have HNL := hide hNl
  have HFR := hide hfr
  have HLL := hide hl
  have HNIL := hide hnil
  have HXY := hide hXY
  have HY0 := hide hy0
  have HNY := hide hNY
  have HX := hide hx
  have HCH := hide hch
  clear hch
  have hgSl := hgS
  clear hXY hy0 hNY hx hXl hE0 hyr hrl q0 q1 q2 qf hrm
  clear hD h hap hN e hnil hP hm hb hPo hnx hXe hl hcell hfr hsl
  go_enter Tryz.func87, Tryz.ntmps87
  go_wp2_with fail
  refine (uvarint_any nx w (by omega)).mono ?_
  rintro e w1 ⟨v1, rfl, o1, k1⟩
  obtain ⟨A1, c1', rfl, i1, l1, m1⟩ := o1.isB.form (n := (uvl nx).length) rfl
  have hP1 := HP.out.keep k1
  have r0 := (k1.cell (p := ⟨l, 0, none⟩) hll).trans c0
  have r1 := (k1.cell (p := ⟨l, 1, none⟩) hll).trans c1
  have r2 := (k1.cell (p := ⟨l, 2, none⟩) hll).trans c2
  have r3 := (k1.cell (p := ⟨l, 3, none⟩) hll).trans c3
  have I1 := hide i1
  have K1 := hide k1
  have P1 := hide hP1
  have HUL := hide (uvl_ten (i := nx) (by have := HNX.out; omega))
  clear o1 i1 k1 hP1
  go_wp2_with fail
  have nb : Below w1.heap.size w1 (w1.alloc (.cells #[.slice A1 (uvl nx).length c1', .slice A0 m cp] 32)) := (Below.refl _ _).alloc (Nat.le_refl _) _
  have hfl : [uvl nx, p].flatten = uvl nx ++ p := by simp
  refine (concat_any _ 2 2 [.slice A1 (uvl nx).length c1', .slice A0 m cp] [uvl nx, p] _ (rdV_new w1 _ _ _ _ rfl rfl) rfl (IsBs.two (I1.out.keep nb) (P1.out.keep nb)) (by rw [hfl, List.length_append]; have := HUL.out; have := HPM.out; omega) (by decide)).mono ?_
  rintro e w2 ⟨s2, rfl, o2, k2⟩
  rw [hfl] at o2
  obtain ⟨lr, hlr⟩ : ∃ lr, lr = (uvl nx ++ p).length := ⟨_, rfl⟩
  have hlr2 : lr ≤ 1048576 := by rw [hlr, List.length_append]; have := HUL.out; have := HPM.out; omega
  obtain ⟨A2, c2', rfl, i2, l2, m2⟩ := o2.isB.form (n := lr) hlr.symm
  have K2 := hide (K1.out.trans ((nb.trans (k2.mono nb.size)).mono K1.out.size))
  have I2 := hide i2
  have HLR := hide hlr
  clear nb o2 i2 k2 hfl hlr r0 r1 r2 r3
  go_wp2_with fail
  refine (encode_any A2 lr c2' (uvl nx ++ p) _ I2.out HLR.out.symm (fun x hx => (List.mem_append.1 hx).elim (uvl_byte nx x) (HPB.out x)) hlr2).mono ?_
  rintro e w3 ⟨v3, rfl, o3, k3⟩
  have o3 : Own w3 w2.heap.size v3 (recL nx p) := o3
  obtain ⟨rn, hrn⟩ : ∃ rn, rn = (recL nx p).length := ⟨_, rfl⟩
  obtain ⟨A3, c3', rfl, i3, l3, m3⟩ := o3.isB.form (n := rn) hrn.symm
  have hrn2 : rn ≤ 1048600 := by have := rec_len nx p; rw [hrn, this]; have := HUL.out; have := HPM.out; omega
  have k13 := K2.out.trans (k3.mono K2.out.size)
  have r0 := (k13.cell (p := ⟨l, 0, none⟩) hll).trans c0
  have r1 := (k13.cell (p := ⟨l, 1, none⟩) hll).trans c1
  have r2 := (k13.cell (p := ⟨l, 2, none⟩) hll).trans c2
  have r3 := (k13.cell (p := ⟨l, 3, none⟩) hll).trans c3
  have K3 := hide k13
  have I3 := hide i3
  have HRN := hide hrn
  have HRB := hide (show ∀ x ∈ recL nx p, x < 256 from frameL_byte (fun x hx => (List.mem_append.1 hx).elim (uvl_byte nx x) (HPB.out x)))
  have hoff : ∀ b, (Value.slice A3 rn c3').ownBlock = some b → w.heap.size ≤ b := fun b hb => by have := (o3.lt b hb).1; have := K2.out.size; omega
  have C3 := hide (show AddC w w3 F G dp l room s (.slice (some ⟨gS, 0, none⟩) N cS) nx L (.slice A3 rn c3') (recL nx p) (.slice A0 m cp) p from ⟨(HH.out.below k13).cells, HD.out.below k13, i3, HP.out.keep k13, Turn.of_below _ k13, hoff, HPO.out, HAP.out, HH.out.low, HD.out.low, HH.out.own⟩)
  have Q3 := hide (HH.out.below k13).prow
  clear o3 i3 k3 k13 hrn c0 c1 c2 c3 hoff
  go_wp2_with fail
  refine (HSZ.out _ K3.out).mono ?_
  rintro e w3b ⟨rfl, d3, rfl⟩
  have kd3 : Below w3.heap.size w3 (w3.drewN d3) := ⟨rfl, rfl, rfl, Nat.le_refl _, fun _ _ => rfl⟩
  obtain ⟨w3b, hw3b⟩ : ∃ z, z = w3.drewN d3 := ⟨_, rfl⟩
  rw [← hw3b] at kd3 ⊢
  have CB := hide (C3.out.below kd3)
  have QB := hide (Q3.out.below kd3)
  have hwb := kd3.size
  have r0 : w3b.cell? ⟨l, 0, none⟩ = some (.pointer (some ⟨dp, 0, none⟩)) := CB.out.cells.cell 0
  have r1 : w3b.cell? ⟨l, 1, none⟩ = some (.string s) := CB.out.cells.cell 1
  have r3 : w3b.cell? ⟨l, 3, none⟩ = some (.int .i64 (nx : Int)) := CB.out.cells.cell 3
  clear kd3 hw3b
  obtain ⟨fE, vE, bE, eE⟩ := y0
  have HSM : Hid ((recsL fE eE).length < 1024) := hide (by have h1 := HX.out; rw [← HY0.out] at h1; exact h1)
  have HSN0 : Hid (nx = fE + eE.length) := hide (by have h1 := HCH.out; rw [← HY0.out] at h1; exact h1)
  have hfE : fE ≤ 1099511627776 := by have := HSN0.out; have := HNX.out; omega
  have p5 : PRow w3b G (.slice (some ⟨gS, 0, none⟩) N cS) (Y0 ++ [(fE, vE, bE, eE)]) := by
    have h1 := QB.out
    rw [HXY.out] at h1
    exact h1
  obtain ⟨g8, c8, e8, -, -, hg8, y0, y1, y2, y3⟩ := rowP_last p5.row rfl
  have eg : g8 = gS := by
    have := (Value.slice.inj e8).1
    simp only [Option.some.injEq, Addr.mk.injEq] at this
    exact this.1.symm
  have ec : c8 = cS := (Value.slice.inj e8).2.2.symm
  clear e8
  subst eg
  subst ec
  have P8 := hide (p5.mono (G' := fun q => G q ∨ (w.heap.size ≤ q ∧ q < w3b.heap.size)) (fun q _ h => .inl h))
  have C5 := CB
  have Q8 := QB
  have hk8 : Y0.length < N := by have := HNY.out; omega
  clear p5
  have HSN : Hid (nx = fE + (eE).length) := hide (by exact HSN0.out)
  have hsz5 := C5.out.turn.size
  have hs64 : s.size ≤ 1099511627776 := by omega
  have r0 : w3b.cell? ⟨l, 0, none⟩ = some (.pointer (some ⟨dp, 0, none⟩)) := C5.out.cells.cell 0
  have r1 : w3b.cell? ⟨l, 1, none⟩ = some (.string s) := C5.out.cells.cell 1
  have r3 : w3b.cell? ⟨l, 3, none⟩ = some (.int .i64 (nx : Int)) := C5.out.cells.cell 3
  have hll5 := cell_lt r0
  have r1d : w3b.drew.cell? ⟨l, 1, none⟩ = some (.string s) := r1
  have hnl : Hid (¬ F l) := hide (fun hk => C5.out.apart l hk C5.out.own)
  have hG8 : Hid (∀ q, (G q ∨ (w.heap.size ≤ q ∧ q < w3b.heap.size)) → ¬ F q) := hide (fun q hq hf => hq.elim (fun h => C5.out.apart q hf h) (fun h => by have := C5.out.lowF q hf; omega))
  have hng8 : Hid (¬ F g8) := hide (hG8.out g8 (P8.out.mine g8 rfl))
  obtain ⟨ae, hae⟩ : ∃ e, e = (appL room (nameL s.data.toList fE) (recL nx p) L).2 := ⟨_, rfl⟩
  have HAE := hide hae
  have YY0 := hide y0
  have YY1 := hide y1
  have YY2 := hide y2
  have YY3 := hide y3
  clear hae y1 y2 y3
  go_wp2_with fail
  go_region_held3 (fun W' => W'.cell? ⟨l, 0, none⟩ = some (.pointer (some ⟨dp, 0, none⟩)) ∧ W'.cell? ⟨g8, Y0.length * 3, none⟩ = some (.int .i64 (fE : Int))) (go_keep)
    (first
      | (go_at_call 77; refine (pname_any l s fE _ r1d hs64 hfE).mono ?_; rintro e w6 ⟨t, rfl, htl, kn⟩; have kn2 : Below w3b.heap.size w3b w6 := (by exact ⟨kn.os, kn.tape, kn.output, kn.size, kn.block⟩); have C6 := hide (C5.out.below kn2); have K6 := hide kn2; have x0 : w6.cell? ⟨l, 0, none⟩ = some (.pointer (some ⟨dp, 0, none⟩)) := C6.out.cells.cell 0; have x1 : w6.cell? ⟨g8, Y0.length * 3, none⟩ = some (.int .i64 (fE : Int)) := (kn2.cell (p := ⟨g8, Y0.length * 3, none⟩) hg8).trans YY0.out; have TL := hide htl; have TS : t.size ≤ 1099511627776 := (by have h1 : t.data.toList.length = t.size := rfl; have h2 := name_len s.data.toList fE; have h3 : s.data.toList.length = s.size := rfl; rw [htl, h2, h3] at h1; omega); clear htl kn kn2)
      | (go_at_call 113; refine (append_any F dp room L t A3 rn c3' (recL nx p) w6 C6.out.disk TS C6.out.rcd HRN.out.symm HRB.out (by omega)).mono ?_; rintro e w7 ⟨rfl, F1, d7, n7⟩; rw [TL.out] at d7 ⊢; rw [← HAE.out]; have N7 := hide n7; have D7 := hide d7; have x0 : w7.cell? ⟨l, 0, none⟩ = some (.pointer (some ⟨dp, 0, none⟩)) := (n7.far (i := 0) (cell_lt x0) hnl.out).trans x0; have x1 : w7.cell? ⟨g8, Y0.length * 3, none⟩ = some (.int .i64 (fE : Int)) := (n7.far (i := Y0.length * 3) (cell_lt x1) hng8.out).trans x1; clear n7 d7))
  have hTF : Hid (Turn (fun k => F k) w3b w7) := hide ((Turn.of_below _ K6.out).trans N7.out.turn)
  have hF1 : Hid (∀ q, F1 q → F q ∨ w3b.heap.size ≤ q) := hide (fun q hq => (N7.out.foot q hq).imp id (fun h => by have := K6.out.size; omega))
  have HT7 : Hid (Turn (fun k => F k ∨ G k) w w7) := hide (C5.out.turn.then hTF.out (fun q hq => .inl (.inl hq)))
  have HF7 : Hid (∀ q, F1 q → F q ∨ w.heap.size ≤ q) := hide (fun q hq => (hF1.out q hq).imp id (fun h => by omega))
  have HB7 := hide (C5.out.cells.turn hTF.out hnl.out)
  have HQ7 := hide (Q8.out.turn hTF.out (fun q hg hf => C5.out.apart q hf hg))
  have HAP1 : Hid (∀ q, F1 q → ¬ G q) := hide (fun q hq hg => (hF1.out q hq).elim (fun h => C5.out.apart q h hg) (fun h => by have := C5.out.lowG q hg; omega))
  by_cases hz : ae = 0
  · have hza : ((ae : Int) != 0) = false := by rw [hz]; rfl
    have hd7low := D7.out.low
    have hs7 := hTF.out.size
    have hGp : Hid (∀ q, (G q ∨ (w.heap.size ≤ q ∧ ¬ F1 q)) → ¬ F1 q) := hide (fun q hq hf => hq.elim (fun h => HAP1.out q hf h) (fun h => h.2 hf))
    have hGpF : Hid (∀ q, (G q ∨ (w.heap.size ≤ q ∧ ¬ F1 q)) → ¬ F q) := hide (fun q hq hf => hq.elim (fun h => C5.out.apart q hf h) (fun h => by have := C5.out.lowF q hf; omega))
    have P7 := hide ((P8.out.mono (G' := fun q => G q ∨ (w.heap.size ≤ q ∧ ¬ F1 q)) (fun q hq h => h.imp id (fun h => ⟨h.1, fun hf => (hF1.out q hf).elim (fun h2 => by have := C5.out.lowF q h2; omega) (fun h2 => by omega)⟩))).turn hTF.out hGpF.out)
    have A7 := hide (isB_turnP C5.out.arg hTF.out (fun hne q hq hf => (C5.out.offP hne q hq).1 hf))
    have z1 := turn_cell hTF.out YY1.out hng8.out
    have z2 := turn_cell hTF.out YY2.out hng8.out
    have z3 : Hid (∀ j, w7.frozen? ⟨g8, j, none⟩ = false) := hide (fun j => (World.frozen?_of_block (hTF.out.block g8 hg8 hng8.out)).trans (YY3.out j))
    have hg87 : g8 < w7.heap.size := by omega
    have hl7 : l < w7.heap.size := by omega
    clear x0 x1 hd7low
    go_wp2_with fail
    refine (clone_any A0 m cp p _ A7.out HPM.out (by omega)).mono ?_
    rintro e w8 ⟨u8, rfl, o8, k8⟩
    have P9 := hide (P7.out.below k8)
    have B9 := hide (HB7.out.turn (Turn.of_below (fun _ => False) k8) id)
    have D9 := hide (D7.out.below k8)
    have z1 := (k8.cell (p := ⟨g8, Y0.length * 3 + 1, none⟩) hg87).trans z1
    have z2 := (k8.cell (p := ⟨g8, Y0.length * 3 + 2, none⟩) hg87).trans z2
    have z3 : Hid (∀ j, w8.frozen? ⟨g8, j, none⟩ = false) := hide (fun j => (k8.frozen (p := ⟨g8, j, none⟩) hg87).trans (z3.out j))
    have U8 := hide (o8.rowU (G := fun q => G q ∨ (w.heap.size ≤ q ∧ ¬ F1 q)) (fun q h1 h2 => .inr ⟨by omega, fun hf => by have := D7.out.low q hf; omega⟩))
    have K8 := hide k8
    have hs8w := k8.size
    obtain ⟨Au, cu, rfl, -⟩ := o8.isB.form (n := m) HPM.out
    clear o8 k8
    go_wp2_with fail
    have HE9 := P9.out.each (fE, vE, bE, eE) (by simp)
    have hne9 := P9.out.ne (x := (fE, vE, bE, eE)) (by simp)
    refine (play_any w8 _ g8 (Y0.length * 3) (vE) (.bool bE) fE rn (eE) (.slice Au m cu) p z1 z2 z3.out hne9 HE9 U8.out (by rw [← HSN.out]; exact HRN.out) (by have h1 := HSM.out; omega) (by have h1 := HSM.out; have h2 := recs_ge eE fE; omega)).mono ?_
    rintro e w10 ⟨rfl, v9, w9, h0, rfl, hE9, hh0, hT9, hv9⟩
    have B10 := B9.out.turn hT9 (fun e => HE9.ne B9.out e.symm)
    have P10 := P9.out.laid (b' := true) (es' := eE ++ [p]) (v' := v9) hT9 hE9 (fun q _ h => .inl h) (fun q hq => hv9.elim (fun e => .inl (by rw [← e]; exact hq)) (fun e => by rw [e] at hq; exact .inr (by cases hq; exact hh0)))
    have hgl : ¬ l = g8 := fun e => ownsRow_notIn P9.out.row B9.out (by decide) (by rw [e]; rfl)
    obtain ⟨w10, hw10⟩ : ∃ z, z = (w9.setCell ⟨g8, Y0.length * 3 + 1, none⟩ v9).setCell ⟨g8, Y0.length * 3 + 2, none⟩ (.bool true) := ⟨_, rfl⟩
    have t10 : Turn (fun q => q = g8) w9 w10 := by
      rw [hw10]
      exact ((Turn.of_grown (grown_set w9 g8 _ v9)).mono (fun q e => Option.some.inj e)).trans ((Turn.of_grown (grown_set _ g8 _ (.bool true))).mono (fun q e => Option.some.inj e))
    rw [← hw10] at P10 ⊢
    have B10 := B10.turn t10 hgl
    have hGg8 : G g8 ∨ (w.heap.size ≤ g8 ∧ ¬ F1 g8) := P9.out.mine g8 rfl
    have hT10 : Turn (fun q => G q ∨ (w.heap.size ≤ q ∧ ¬ F1 q)) w8 w10 := (hT9.mono (fun q e => HE9.own q e.symm)).trans (t10.mono (fun q e => by rw [e]; exact hGg8))
    have D10 := hide (D9.out.turn hT10 (fun q hf h => hGp.out q h hf))
    have s3 : w10.cell? ⟨l, 3, none⟩ = some (.int .i64 (nx : Int)) := B10.cell 3
    have s2 : w10.cell? ⟨l, 2, none⟩ = some (.slice (some ⟨g8, 0, none⟩) N c8) := B10.cell 2
    have f2 := B10.frozen 2
    have f3 := B10.frozen 3
    have hl10 := cell_lt s3
    have P10 := hide P10
    have B10 := hide B10
    have T10 := hide hT10
    have hs10 := hT10.size
    clear hw10 t10 hE9 hT9 hT10 HE9 hne9 z1 z2
    go_wp2_with fail
    obtain ⟨wE, hwE⟩ : ∃ z, z = (w10.setCell ⟨l, 2, none⟩ (.slice (some ⟨g8, 0, none⟩) N c8)).setCell ⟨l, 3, none⟩ (.int .i64 ((nx : Int) + 1)) := ⟨_, rfl⟩
    rw [← hwE]
    have tE : Turn (fun q => q = l) w10 wE := by
      rw [hwE]
      exact ((Turn.of_grown (grown_set w10 l _ _)).mono (fun q e => Option.some.inj e)).trans ((Turn.of_grown (grown_set _ l _ _)).mono (fun q e => Option.some.inj e))
    have BE := (B10.out.stored 2 (.slice (some ⟨g8, 0, none⟩) N c8)).stored 3 (.int .i64 ((nx : Int) + 1))
    rw [← hwE] at BE
    have hcast : (nx : Int) + 1 = ((nx + 1 : Nat) : Int) := by omega
    rw [hcast] at BE
    have hsE := tE.size
    have hGl : G l := C5.out.own
    have PE := P10.out.off tE (fun q e => by rw [e]; exact blk_off B10.out)
    have DE := D10.out.turn tE (fun q hf e => HAP1.out q hf (e ▸ hGl))
    have PE2 := PE.mono (G' := fun q => G q ∨ (w.heap.size ≤ q ∧ q < wE.heap.size ∧ ¬ F1 q)) (fun q hq h => h.elim (fun h => h.imp id (fun h => ⟨h.1, hq, h.2⟩)) (fun e => .inr ⟨by omega, hq, fun hf => by have := D7.out.low q hf; omega⟩))
    have TE : Turn (fun k => F k ∨ G k) w wE := ((HT7.out.then (Turn.of_below (fun _ => False) K8.out) (fun _ => False.elim)).then T10.out (fun q h => h.elim (fun h => .inl (.inr h)) (fun h => .inr h.1))).then tE (fun q e => .inl (.inr (e ▸ hGl)))
    refine bodyPost_ret (v := .tuple #[.int .i64 (nx : Int), .int .i64 0]) (by simp [results, Tryz.results87, go_sem]) rfl ?_
    have hR : addP room s.data.toList p ⟨segs, nx⟩ L = ((⟨(Y0 ++ [(fE, v9, true, eE ++ [p])]).map segP, nx + 1⟩, (appL room (nameL s.data.toList fE) (recL nx p) L).1), nx, 0) := by
      unfold addP
      dsimp only
      have hw : whereP ⟨segs, nx⟩ = fE := by unfold whereP; rw [if_neg (by rw [HFR.out]; simp), HLL.out, ← HY0.out]; rfl
      have hla : laidP (if freshP ⟨segs, nx⟩ = true then segs ++ [(nx, [], false)] else segs) p = (Y0 ++ [(fE, v9, true, eE ++ [p])]).map segP := by rw [if_neg (by rw [HFR.out]; simp), EE.out, HXY.out]; unfold laidP; rw [List.map_append, List.map_cons, List.map_nil, List.getLast?_concat]; simp [segP]
      rw [if_neg (by have := HPM.out; omega), if_neg (by have := HNX.out; omega), hw, ← HAE.out, if_neg (by rw [hz]; simp), hla]
    refine ⟨_, rfl, by rw [hR]; rfl, F1, fun q => G q ∨ (w.heap.size ≤ q ∧ q < wE.heap.size ∧ ¬ F1 q), ?_, TE, HF7.out, fun q hq => hq.imp id (fun h => h.1)⟩
    rw [hR]
    exact ⟨DE, ⟨_, _, rfl, PE2.log BE (.inl hGl) (fun q hq => hq.elim (fun h => by have := C5.out.lowG q h; have := TE.size; omega) (fun h => h.2.1))⟩, fun q hf hq => hq.elim (HAP1.out q hf) (fun h => h.2.2 hf)⟩
  · have hza : ((ae : Int) != 0) = true := by simp; exact hz
    have hbad := hide (app_bad (by rw [← HAE.out]; exact hz))
    have hR : Hid (addP room s.data.toList p ⟨segs, nx⟩ L = ((⟨segs, nx⟩, L), 0, ae)) := hide (by
      unfold addP
      dsimp only
      have hw : whereP ⟨segs, nx⟩ = fE := by unfold whereP; rw [if_neg (by rw [HFR.out]; simp), HLL.out, ← HY0.out]; rfl
      rw [if_neg (by have := HPM.out; omega), if_neg (by have := HNX.out; omega), hw, ← HAE.out, if_pos hz])
    clear x0 x1
    go_wp2_with fail
    refine bodyPost_ret (v := .tuple #[.int .i64 0, .int .i64 (ae : Int)]) (by simp [results, Tryz.results87, go_sem]) rfl ?_
    refine ⟨_, rfl, by rw [hR.out]; rfl, F1, G, ?_, HT7.out, HF7.out, fun _ => .inl⟩
    rw [hR.out]
    have hd := D7.out
    rw [hbad.out] at hd
    exact ⟨hd, ⟨_, X, EE.out, HQ7.out.log HB7.out C5.out.own (fun q hq => by have := C5.out.lowG q hq; have := HT7.out.size; omega)⟩, HAP1.out⟩
set_option maxRecDepth 100000 in
theorem padd_long (w : World) (l : Nat) (A0 : Option Addr) (m cp : Nat) (hmr : ¬ m ≤ 1048566) :
    Calls Tryz.prog 87 #[.pointer (some ⟨l, 0, none⟩), .slice A0 m cp] w fun e w' => e = .returned (.tuple #[.int .i64 0, .int .i64 5]) ∧ Below w.heap.size w w' := by
  have hz2 : (1048566 : Int) < (m : Int) := by omega
  go_enter Tryz.func87, Tryz.ntmps87
  go_wp2_with fail
  refine bodyPost_ret (v := .tuple #[.int .i64 0, .int .i64 5]) (by simp [results, Tryz.results87, go_sem]) rfl ?_
  exact ⟨rfl, Below.refl _ _⟩
set_option maxRecDepth 100000 in
theorem padd_full (w : World) (l nx : Nat) (A0 : Option Addr) (m cp : Nat) (hmr : m ≤ 1048566) (hnx : 99999999 ≤ nx) (c3 : w.cell? ⟨l, 3, none⟩ = some (.int .i64 (nx : Int))) :
    Calls Tryz.prog 87 #[.pointer (some ⟨l, 0, none⟩), .slice A0 m cp] w fun e w' => e = .returned (.tuple #[.int .i64 0, .int .i64 6]) ∧ Below w.heap.size w w' := by
  have hz2 : (m : Int) ≤ 1048566 := by omega
  have hz3 : ((99999999 : Int) ≤ (nx : Int)) = True := eq_true (by omega)
  clear hnx hmr
  go_enter Tryz.func87, Tryz.ntmps87
  go_wp2_with fail
  refine bodyPost_ret (v := .tuple #[.int .i64 0, .int .i64 6]) (by simp [results, Tryz.results87, go_sem]) rfl ?_
  exact ⟨rfl, Below.refl _ _⟩
set_option maxRecDepth 100000 in
theorem padd_none_log (w : World) (A0 : Option Addr) (m cp : Nat) :
    Calls Tryz.prog 87 #[.pointer none, .slice A0 m cp] w fun e w' => e = .returned (.tuple #[.int .i64 0, .int .i64 1]) ∧ Below w.heap.size w w' := by
  go_enter Tryz.func87, Tryz.ntmps87
  go_wp2_with fail
  refine bodyPost_ret (v := .tuple #[.int .i64 0, .int .i64 1]) (by simp [results, Tryz.results87, go_sem]) rfl ?_
  exact ⟨rfl, Below.refl _ _⟩
theorem padd_any (w : World) (F G : Nat → Prop) (dp l room : Nat) (s : ByteArray) (P : PLog) (L : DiskL) (A0 : Option Addr) (m cp : Nat) (p : List Nat) (h : PBoth w F G dp l room s P L) (hs : s.size ≤ 64)
    (hP : IsB w (.slice A0 m cp) p) (hm : p.length = m) (hb : ∀ x ∈ p, x < 256) (hPo : p ≠ [] → ∀ g, (Value.slice A0 m cp).ownBlock = some g → ¬ F g ∧ ¬ G g)
    (hsl : P.segs.length < 1073741824) (hch : ∀ x, P.segs.getLast? = some x → P.next = x.1 + x.2.1.length) (hsz : ∀ x ∈ P.segs, (recsL x.1 x.2.1).length ≤ 1099511627776) :
    Calls Tryz.prog 87 #[.pointer (some ⟨l, 0, none⟩), .slice A0 m cp] w fun e w' => e = .returned (.tuple #[.int .i64 ((addP room s.data.toList p P L).2.1 : Int), .int .i64 ((addP room s.data.toList p P L).2.2 : Int)]) ∧ ∃ F' G', PBoth w' F' G' dp l room s (addP room s.data.toList p P L).1.1 (addP room s.data.toList p P L).1.2 ∧
      Turn (fun k => F k ∨ G k) w w' ∧ (∀ k, F' k → F k ∨ w.heap.size ≤ k) ∧ (∀ k, G' k → G k ∨ w.heap.size ≤ k) := by
  by_cases hmr : m ≤ 1048566
  · by_cases hnx : 99999999 ≤ P.next
    · have e : addP room s.data.toList p P L = ((P, L), 0, 6) := by unfold addP; rw [if_neg (by omega), if_pos hnx]
      rw [e]
      have c3 : w.cell? ⟨l, 3, none⟩ = some (.int .i64 (P.next : Int)) := by
        obtain ⟨vS, X, _, hW⟩ := h.log
        exact hW.cells.cell 3
      refine (padd_full w l P.next A0 m cp hmr hnx c3).mono ?_
      rintro e1 w1 ⟨rfl, k⟩
      exact ⟨rfl, F, G, h.below k, Turn.of_below _ k, fun _ => .inl, fun _ => .inl⟩
    · have hnx2 : P.next < 99999999 := by omega
      rcases hl : P.segs.getLast? with _ | x
      · refine (padd_none w F G dp l room s P L A0 m cp p h hs hP hm hb hmr hPo hnx2 hsl (List.getLast?_eq_none_iff.1 hl)).mono ?_
        rintro e1 w1 ⟨R, rfl, h1⟩
        exact h1
      · by_cases hx : 1024 ≤ (recsL x.1 x.2.1).length
        · refine (padd_big w F G dp l room s P L A0 m cp p h hs hP hm hb hmr hPo hnx2 hsl x hl hx (hsz x (List.mem_of_getLast? hl))).mono ?_
          rintro e1 w1 ⟨R, rfl, h1⟩
          exact h1
        · refine (padd_more w F G dp l room s P L A0 m cp p h hs hP hm hb hmr hPo hnx2 hsl x hl (by omega) (hch x hl)).mono ?_
          rintro e1 w1 ⟨R, rfl, h1⟩
          exact h1
  · have e : addP room s.data.toList p P L = ((P, L), 0, 5) := by unfold addP; rw [if_pos (by omega)]
    rw [e]
    refine (padd_long w l A0 m cp hmr).mono ?_
    rintro e1 w1 ⟨rfl, k⟩
    exact ⟨rfl, F, G, h.below k, Turn.of_below _ k, fun _ => .inl, fun _ => .inl⟩
end Go.Proofs.YtejhoefmcldpnaaGreat
