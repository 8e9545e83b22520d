/- The contract of wire.Encode. -/
import Derived.Test.YtjchpnmipmplkaaMsg
import Derived.Test.YtjchpnmipmplkaaIsI
namespace Go.Proofs.Ytjchpnmipmplkaa
open Go.RowKit
set_option maxHeartbeats 400000 in
theorem isNumber_yes (x : Int) (w : World) (h0 : 0 ≤ x) (h1 : x ≤ 2147483647) :
    Calls Try.prog 18 #[.int .i64 x] w fun e w' => e = .returned (.bool true) ∧ w = w' := by
  go_enter Try.func18, Try.ntmps18
  go_wp2
  go_ret
  exact ⟨rfl, rfl⟩
set_option maxHeartbeats 400000 in
theorem isNumber_no (x : Int) (w : World) (h0 : x < 0 ∨ 2147483647 < x) :
    Calls Try.prog 18 #[.int .i64 x] w fun e w' => e = .returned (.bool false) ∧ w = w' := by
  rcases h0 with h0 | h0
  · go_enter Try.func18, Try.ntmps18
    go_wp2
    go_ret
    exact ⟨rfl, rfl⟩
  · have hd : decide (x ≤ 2147483647) = false := by simp; omega
    go_enter Try.func18, Try.ntmps18
    go_wp2
    go_ret
    exact ⟨rfl, rfl⟩
/-- A message that lies at block g. -/
structure MsgAt (w : World) (g : Nat) (f t k : Int) (N D : Value) : Prop where
  c0 : w.cell? ⟨g, 0, none⟩ = some (.int .i64 f)
  c1 : w.cell? ⟨g, 1, none⟩ = some (.int .i64 t)
  c2 : w.cell? ⟨g, 2, none⟩ = some (.int .i64 k)
  c3 : w.cell? ⟨g, 3, none⟩ = some N
  c4 : w.cell? ⟨g, 4, none⟩ = some D
theorem MsgAt.keep {w w' : World} {g : Nat} {f t k : Int} {N D : Value} (h : MsgAt w g f t k N D) (hb : Below w.heap.size w w') : MsgAt w' g f t k N D :=
  ⟨(hb.cell (cell_lt h.c0)).trans h.c0, (hb.cell (cell_lt h.c1)).trans h.c1, (hb.cell (cell_lt h.c2)).trans h.c2, (hb.cell (cell_lt h.c3)).trans h.c3, (hb.cell (cell_lt h.c4)).trans h.c4⟩
theorem MsgAt.drewN {w : World} {g : Nat} {f t k : Int} {N D : Value} (h : MsgAt w g f t k N D) (d : Nat) : MsgAt (w.drewN d) g f t k N D := ⟨h.c0, h.c1, h.c2, h.c3, h.c4⟩
theorem msgAt_new (w : World) (e : TypeId) (f t k : Int) (N D : Value) : MsgAt (w.alloc (.cells #[.int .i64 f, .int .i64 t, .int .i64 k, N, D] e)) w.heap.size f t k N D := by
  have h := fun i => cell_of_row (w.alloc (.cells #[.int .i64 f, .int .i64 t, .int .i64 k, N, D] e)) w.heap.size i _ e (0, 0) (heap_alloc_new w _)
  exact ⟨h 0, h 1, h 2, h 3, h 4⟩
theorem flat_take {α : Type} (g : α → List Nat) (l : List α) (d : α) (j : Nat) (h : j < l.length) : ((l.take (j + 1)).map g).flatten = ((l.take j).map g).flatten ++ g (l.getD j d) := by
  rw [List.take_succ_eq_append_getElem h, List.map_append, List.flatten_append]
  have e : l.getD j d = l[j] := by simp [h]
  rw [e]
  simp
theorem Try.idx4_0 (a b c d : Value) (w : World) : (Instr.index 45 (.agg #[a, b, c, d]) (.int .i64 0)).run Try.prog w = .ok a w := by kernel_rfl
theorem Try.idx4_1 (a b c d : Value) (w : World) : (Instr.index 45 (.agg #[a, b, c, d]) (.int .i64 1)).run Try.prog w = .ok b w := by kernel_rfl
theorem Try.idx4_2 (a b c d : Value) (w : World) : (Instr.index 45 (.agg #[a, b, c, d]) (.int .i64 2)).run Try.prog w = .ok c w := by kernel_rfl
theorem Try.idx4_3 (a b c d : Value) (w : World) : (Instr.index 45 (.agg #[a, b, c, d]) (.int .i64 3)).run Try.prog w = .ok d w := by kernel_rfl
set_option maxHeartbeats 3200000 in
set_option maxRecDepth 100000 in
theorem wenc_ok (f t k : Nat) (A M : Option Addr) (n c len cap : Nat) (zs : List Int) (d : List Nat) (w : World) (hN : IsI w (.slice A n c) zs) (hD : IsB w (.slice M len cap) d) (hl : d.length = len) (hb : ∀ x ∈ d, x < 256) (hv : ValidM (f, t, k, zs, d)) :
    Calls Try.prog 9 #[.agg #[.int .i64 f, .int .i64 t, .int .i64 k, .slice A n c, .slice M len cap]] w fun e w' => ∃ s, e = .returned (.tuple #[s, .int .i64 0]) ∧ Own w' w.heap.size s (frameL (bodyL (f, t, k, zs, d))) ∧ Below w.heap.size w w' := by
  have hf : f ≤ 2147483647 := hv.f
  have ht : t ≤ 2147483647 := hv.t
  have hk : k ≤ 2147483647 := hv.k
  have hn : zs.length = n := hN.len
  have hn64 : n ≤ 64 := by have : zs.length ≤ 64 := hv.n; omega
  have hlen : len ≤ 1047552 := by have : d.length ≤ 1047552 := hv.d; omega
  have HZ : Hid (∀ z ∈ zs, -9223372036854775808 ≤ z ∧ z < 9223372036854775808) := hv.z
  have hbl := bodyL_len _ hv
  have hbb := bodyL_byte (f, t, k, zs, d) hb
  obtain ⟨p, hp⟩ : ∃ p, p = bodyL (f, t, k, zs, d) := ⟨_, rfl⟩
  rw [← hp] at hbl hbb ⊢
  have HBL := hide hbl
  have HBB := hide hbb
  have HP := hide hp
  clear hbl hbb hp
  have HN := hide hN
  have HD := hide hD
  have HL := hide hl
  have HNN := hide hn
  clear hN hD hl hn hb hv
  obtain ⟨vs, hvs⟩ : ∃ vs : List Nat, vs = [f, t, k, n] := ⟨_, rfl⟩
  have idx : ∀ (w : World) (j : Nat), j < 4 → (Instr.index 45 (.agg #[.int .i64 f, .int .i64 t, .int .i64 k, .int .i64 n]) (.int .i64 (j : Int))).run Try.prog w = .ok (.int .i64 ((vs.getD j 0 : Nat) : Int)) w := by
    intro w j hj
    subst hvs
    match j, hj with
    | 0, _ => exact Try.idx4_0 _ _ _ _ w
    | 1, _ => exact Try.idx4_1 _ _ _ _ w
    | 2, _ => exact Try.idx4_2 _ _ _ _ w
    | 3, _ => exact Try.idx4_3 _ _ _ _ w
  have IDX := hide idx
  have HVS : Hid (∀ j, vs.getD j 0 ≤ 2147483647) := by
    intro j
    subst hvs
    match j with
    | 0 => exact hf
    | 1 => exact ht
    | 2 => exact hk
    | 3 => show n ≤ 2147483647; omega
    | j + 4 => simp
  have HV4 : Hid (vs.length = 4) := by subst hvs; rfl
  have HE := hide hvs
  clear idx hvs
  have nb : Below w.heap.size w (w.alloc (.cells #[.int .i64 f, .int .i64 t, .int .i64 k, .slice A n c, .slice M len cap] 25)) := (Below.refl _ _).alloc (Nat.le_refl _) _
  have ma := msgAt_new w 25 f t k (.slice A n c) (.slice M len cap)
  obtain ⟨w1, hw1⟩ : ∃ w1, w1 = w.alloc (.cells #[.int .i64 f, .int .i64 t, .int .i64 k, .slice A n c, .slice M len cap] 25) := ⟨_, rfl⟩
  rw [← hw1] at nb ma
  have HW := hide hw1
  have IN := hide (HN.out.keep nb)
  have ID := hide (HD.out.keep nb)
  have NB := hide nb
  have MA := hide ma
  have c0 := ma.c0
  have c1 := ma.c1
  have c2 := ma.c2
  have c3 := ma.c3
  have c4 := ma.c4
  clear hw1 nb HN HD ma
  go_enter Try.func9, Try.ntmps9
  go_wp2_with fail
  rw [← HW.out]
  refine (isNumber_yes f _ (by omega) (by omega)).mono ?_
  rintro e w2 ⟨rfl, rfl⟩
  go_wp2_with fail
  refine (isNumber_yes t _ (by omega) (by omega)).mono ?_
  rintro e w2 ⟨rfl, rfl⟩
  go_wp2_with fail
  refine (isNumber_yes k _ (by omega) (by omega)).mono ?_
  rintro e w2 ⟨rfl, rfl⟩
  go_wp2_with fail
  go_loopw [4, 45] (fun s i wr => ∃ (j : Nat) (acc : List Nat), j ≤ 4 ∧ i = .int .i64 (j : Int) ∧ acc.length ≤ 10 * j ∧ Hid (acc = ((vs.take j).map uvl).flatten) ∧ Hid (Own wr w1.heap.size s acc) ∧ Hid (Below w1.heap.size w1 wr)) (fun _ i _ => 4 - (intOf i).toNat)
  case atStart => exact ⟨0, [], by decide, rfl, by decide, rfl, World.ownsRow_nil _ _ _ _, Below.refl _ _⟩
  case round =>
    obtain ⟨j, acc, hj, rfl, hacc, hs, hown, hbel⟩ := hrel
    by_cases hlt : j < 4
    · have hix := fun w => IDX.out w j hlt
      have hvl := HVS.out j
      have hst := flat_take uvl vs 0 j (by rw [HV4.out]; exact hlt)
      obtain ⟨v, hv⟩ : ∃ v, v = vs.getD j 0 := ⟨_, rfl⟩
      rw [← hv] at hix hvl hst
      rw [← hs.out] at hst
      have hul := uvl_len64 v (by omega)
      have HST := hide hst
      clear hst hv
      go_wp2_with fail
      refine (uvarint_any v _ (by omega)).mono ?_
      rintro e w3 ⟨s3, rfl, o3, k3⟩
      have I3 := hide o3.isB
      have O3 := hide (hown.out.keep k3)
      have K3 := hide (hbel.out.trans (k3.mono hbel.out.size))
      clear o3 k3
      go_wp2_with (at_builtin; refine halt ?_)
      refine ⟨?_⟩
      refine wpList_append_bytes rfl (.tmp 48) (.tmp 51) rfl w1.heap.size _ _ rfl O3.out _ _ rfl I3.out (by omega) K3.out.size ?_
      intro s4 w4 o4 k4
      have O4 := hide o4
      have K4 := hide (K3.out.trans k4)
      have H4 : Hid ((acc ++ uvl v).length ≤ 10 * (j + 1)) := by unfold Hid; rw [List.length_append]; omega
      clear o4 k4 O3 K3 I3
      go_wp2_with fail
      go_roundw
      case rel => exact ⟨j + 1, acc ++ uvl v, by omega, by go_num, H4.out, HST.out.symm, O4, K4⟩
      case measure => simp [intOf]; omega
    · obtain rfl : j = 4 := by omega
      have hacc4 : acc = uvl f ++ uvl t ++ uvl k ++ uvl n := by
        have e := hs.out
        rw [HE.out] at e
        simpa using e
      have HA4 := hide hacc4
      have c3 := (MA.out.keep hbel.out).c3
      have c4 := (MA.out.keep hbel.out).c4
      clear hacc4 hlt
      have HL0 : Hid (acc.length ≤ 40) := hacc
      clear hacc
      go_wp2_with fail
      go_loopw [4, 57] (fun s i w5 => ∃ (j : Nat) (ac : List Nat), j ≤ n ∧ i = .int .i64 (j : Int) ∧ ac.length ≤ 40 + 10 * j ∧ Hid (ac = acc ++ ((zs.take j).map fun z => uvl (zigS z).toNat).flatten) ∧ Hid (Own w5 w1.heap.size s ac) ∧ Hid (Below w1.heap.size w1 w5)) (fun _ i _ => n - (intOf i).toNat)
      case atStart => exact ⟨0, acc, by omega, rfl, by have := HL0.out; omega, (by unfold Hid; simp), hown, hbel⟩
      case round =>
        obtain ⟨j, ac, hj, rfl, hacc, hs2, hown, hbel⟩ := hrel
        by_cases hlt : j < n
        · obtain ⟨b, off, rfl, hc⟩ := (IN.out.keep hbel.out).rd (by intro e; have := HNN.out; rw [e] at this; simp at this; omega)
          have cj := hc j (by rw [HNN.out]; exact hlt)
          have hst := flat_take (fun z : Int => uvl (zigS z).toNat) zs 0 j (by rw [HNN.out]; exact hlt)
          have hzm : zs.getD j 0 ∈ zs := by
            have hj2 : j < zs.length := by rw [HNN.out]; exact hlt
            have e : zs.getD j 0 = zs[j] := by simp [hj2]
            rw [e]; exact List.getElem_mem hj2
          have hzb := HZ.out _ hzm
          obtain ⟨z, hz⟩ : ∃ z, z = zs.getD j 0 := ⟨_, rfl⟩
          rw [← hz] at cj hst hzb
          obtain ⟨q, hq⟩ : ∃ q : Nat, zigS z = (q : Int) := ⟨(zigS z).toNat, by have := (zig_wf z hzb).1; omega⟩
          have hqb : q < 18446744073709551616 := by have := (zig_wf z hzb).2; omega
          have hqq : (zigS z).toNat = q := by omega
          simp only [hqq] at hst
          have HQ := hide hq
          have HST : Hid (ac ++ uvl q = acc ++ ((zs.take (j + 1)).map fun z => uvl (zigS z).toNat).flatten) := by unfold Hid; rw [hs2.out, hst, List.append_assoc]
          have hul := uvl_len64 q hqb
          obtain ⟨hz0, hz1⟩ := hzb
          clear hst hz hq hqq hc hzm
          go_wp2_with fail
          refine (zig_any z _ hz0 hz1).mono ?_
          rintro e w6 ⟨rfl, rfl⟩
          rw [HQ.out]
          go_wp2_with fail
          refine (uvarint_any q _ hqb).mono ?_
          rintro e w3 ⟨s3, rfl, o3, k3⟩
          have I3 := hide o3.isB
          have O3 := hide (hown.out.keep k3)
          have K3 := hide (hbel.out.trans (k3.mono hbel.out.size))
          clear o3 k3
          go_wp2_with (at_builtin; refine halt ?_)
          refine ⟨?_⟩
          refine wpList_append_bytes rfl (.tmp 61) (.tmp 64) rfl w1.heap.size _ _ rfl O3.out _ _ rfl I3.out (by omega) K3.out.size ?_
          intro s4 w4 o4 k4
          have O4 := hide o4
          have K4 := hide (K3.out.trans k4)
          have H4 : Hid ((ac ++ uvl q).length ≤ 40 + 10 * (j + 1)) := by unfold Hid; rw [List.length_append]; omega
          clear o4 k4 O3 K3 I3
          go_wp2_with fail
          go_roundw
          case rel => first | exact ⟨j + 1, ac ++ uvl q, by omega, by go_num, H4.out, HST, O4, K4⟩ | exact ⟨_, _, _, _, _, _, _, _, _, _, _, _, ⟨j + 1, ac ++ uvl q, by omega, by go_num, H4.out, HST, O4, K4⟩, rfl⟩
          case measure => simp [intOf]; omega
        · obtain rfl : j = n := by omega
          have hac : ac = acc ++ (zs.map fun z => uvl (zigS z).toNat).flatten := by
            have e := hs2.out
            rw [List.take_of_length_le (by rw [HNN.out]; exact Nat.le_refl _)] at e
            exact e
          have HBE : Hid (ac ++ uvl len ++ d = p) := by
            unfold Hid
            rw [HP.out]
            unfold bodyL
            simp only [hac, HA4.out, HNN.out, HL.out]
          have c4 := (MA.out.keep hbel.out).c4
          have hul := uvl_len64 len (by omega)
          clear hac hlt hs2
          go_wp2_with fail
          refine (uvarint_any len _ (by omega)).mono ?_
          rintro e w3 ⟨s3, rfl, o3, k3⟩
          have I3 := hide o3.isB
          have O3 := hide (hown.out.keep k3)
          have K3 := hide (hbel.out.trans (k3.mono hbel.out.size))
          clear o3 k3
          go_wp2_with (at_builtin; refine halt ?_)
          refine ⟨?_⟩
          refine wpList_append_bytes rfl (.tmp 67) (.tmp 72) rfl w1.heap.size _ _ rfl O3.out _ _ rfl I3.out (by omega) K3.out.size ?_
          intro s4 w4 o4 k4
          have O4 := hide o4
          have K4 := hide (K3.out.trans k4)
          have c4 := (MA.out.keep K4.out).c4
          have H4 : Hid ((ac ++ uvl len).length ≤ 50 + 10 * 64) := by unfold Hid; rw [List.length_append]; omega
          clear o4 k4 O3 K3 I3
          go_wp2_with (at_builtin; refine halt ?_)
          refine ⟨?_⟩
          refine wpList_append_bytes rfl (.tmp 74) (.tmp 76) rfl w1.heap.size _ _ rfl O4.out _ d rfl (ID.out.keep K4.out) (by have := H4.out; rw [HL.out]; omega) K4.out.size ?_
          intro s5 w5 o5 k5
          rw [HBE.out] at o5
          have O5 := hide o5
          have K5 := hide (K4.out.trans k5)
          obtain ⟨m, hm⟩ : ∃ m, m = p.length := ⟨_, rfl⟩
          obtain ⟨A5, c5, rfl, i5, _, _⟩ := O5.out.isB.form (n := m) hm.symm
          have I5 := hide i5
          have HM := hide hm
          have HM2 : Hid (m ≤ 1048576) := by unfold Hid; rw [hm]; exact HBL.out
          clear o5 k5 O4 K4 c4 hm i5 HBE
          go_wp2_with fail
          refine (encode_any A5 m c5 p _ I5.out HM.out.symm HBB.out HM2.out).mono ?_
          rintro e w6 ⟨s6, rfl, o6, k6⟩
          have O6 : Hid (Own w6 w.heap.size s6 (frameL p)) := by
            have h := Nat.le_trans NB.out.size K5.out.size
            exact o6.more h
          have K6 := hide (below_step (below_step NB.out K5.out) k6)
          clear o6 k6
          go_wp2_with fail
          go_ret2
          exact ⟨_, rfl, O6.out, K6.out⟩
end Go.Proofs.Ytjchpnmipmplkaa
