/- The program's read of a segment's file. Condition: fewer than 2 to the 30 segments, a number of eight digits. -/
import Derived.Test.YtejhoefmcldpnaaGreatRk34
import Derived.Test.YtejhoefmcldpnaaGreatRk29
import Derived.Test.YtejhoefmcldpnaaGreatRk28
import Derived.Test.YtejhoefmcldpnaaGreatRk19
import Derived.Test.YtejhoefmcldpnaaGreatRk21
namespace Go.Proofs.YtejhoefmcldpnaaGreat
open Go.RowKit Go.Maps
theorem DiskAt.bytes10 {w : World} {F : Nat → Prop} {d room : Nat} {L : DiskL} (h : DiskAt w F d room L) (k : Str) : (∀ x ∈ (readL k L).1, x < 256) ∧ (readL k L).1.length ≤ 1073741824 := by
  unfold readL
  rcases e : getK k L with _ | a
  · exact ⟨fun x hx => absurd hx List.not_mem_nil, Nat.zero_le _⟩
  · show (∀ x ∈ a.1, x < 256) ∧ a.1.length ≤ 1073741824
    exact ⟨(h.facts.2.2.2.2.1 _ (getK_mem e)).2, h.sane.len e⟩
set_option maxRecDepth 100000 in
set_option maxHeartbeats 6000000 in
theorem pread_any (w : World) (F G : Nat → Prop) (dp l room : Nat) (s : ByteArray) (P : PLog) (L : DiskL) (n : Nat) (h : PBoth w F G dp l room s P L) (hs : s.size ≤ 64) (hn : n < 100000000) (hsl : P.segs.length < 1073741824) :
    Calls Tryz.prog 72 #[.pointer (some ⟨l, 0, none⟩), .int .i64 (n : Int)] w fun e w' => ∃ R : (PLog × DiskL) × Bool, R = readP s.data.toList n P L ∧ e = .returned (.bool R.2) ∧ ∃ F' G', PBoth w' F' G' dp l room s R.1.1 R.1.2 ∧ Turn (fun k => F k ∨ G k) w w' ∧ (∀ k, F' k → F k ∨ w.heap.size ≤ k) ∧ ∀ k, G' k → G k ∨ w.heap.size ≤ k := by
  obtain ⟨segs, nx⟩ := P
  obtain ⟨hD, ⟨vS, X, e, h⟩, hap⟩ := h
  simp only at e h hsl
  have hXe : segs.length = X.length := by rw [e, List.length_map]
  obtain ⟨AS, cS, eS, hlc, hc63, -, -⟩ := rowP_form h.row
  subst eS
  obtain ⟨N, hN⟩ : ∃ N, N = X.length := ⟨_, rfl⟩
  have hNl : N < 1073741824 := by omega
  rw [← hN] at hlc h
  obtain ⟨b, hbe⟩ : ∃ b, b = (readL (nameL s.data.toList n) L).1 := ⟨_, rfl⟩
  obtain ⟨re, hre⟩ : ∃ r, r = (readL (nameL s.data.toList n) L).2 := ⟨_, rfl⟩
  obtain ⟨hbb, hbl⟩ := hD.bytes10 (nameL s.data.toList n)
  rw [← hbe] at hbb hbl
  obtain ⟨es, hes⟩ : ∃ es, es = (segL b n).1 := ⟨_, rfl⟩
  obtain ⟨zz, hzz⟩ : ∃ z, z = (recsL n es).length := ⟨_, rfl⟩
  have hzb : zz ≤ b.length := by rw [hzz, hes]; exact (seg_sizes n hbb).2.2
  obtain ⟨m, hm⟩ : ∃ m, m = b.length := ⟨_, rfl⟩
  obtain ⟨ff, hff⟩ : ∃ f, f = followsP ⟨segs, nx⟩ n := ⟨_, rfl⟩
  have hRP : readP s.data.toList n ⟨segs, nx⟩ L = if ff = false ∨ (zz = 0 ∧ 0 < m) then ((⟨segs, nx⟩, (remL (nameL s.data.toList n) L).1), false)
      else if zz = m then ((⟨segs ++ [(n, es, true)], n + es.length⟩, L), true)
      else ((⟨segs ++ [(n, es, true)], n + es.length⟩, (cutL (nameL s.data.toList n) (zz : Int) L).1), false) := by
    unfold readP
    rw [← hbe, ← hff, ← hes, ← hzz, ← hm]
  have c0 : w.cell? ⟨l, 0, none⟩ = some (.pointer (some ⟨dp, 0, none⟩)) := h.cells.cell 0
  have c1 : w.cell? ⟨l, 1, none⟩ = some (.string s) := h.cells.cell 1
  have hll := cell_lt c0
  have hs64 : s.size ≤ 1099511627776 := by omega
  have hn40 : n ≤ 1099511627776 := by omega
  have HRP := hide hRP
  have HGL : Hid (G l) := hide h.own
  have HGW : Hid (∀ q, G q → q < w.heap.size) := hide h.low
  have HFW : Hid (∀ q, F q → q < w.heap.size) := hide hD.low
  have HD := hide hD
  have HP0 := hide h.prow
  have HB0 := hide h.cells
  have HAP := hide hap
  have HN := hide hN
  have HE := hide e
  have HXE := hide hXe
  have HBB := hide hbb
  have HBL := hide hbl
  have HBE := hide hbe
  have HRE := hide hre
  have HES := hide hes
  have HZZ := hide hzz
  have HZB := hide hzb
  have HM := hide hm
  have HFF := hide hff
  have hes30 : Hid (es.length ≤ 1073741824) := hide (by have := recs_ge es n; omega)
  have hml : m ≤ 1073741824 := by omega
  have hzm : zz ≤ m := by omega
  clear hRP h hD hap hN e hXe hbb hbl hbe hre hes hzz hzb hm hff hsl
  go_enter Tryz.func72, Tryz.ntmps72
  go_wp2_with fail
  refine (pname_any l s n w c1 hs64 hn40).mono ?_
  rintro e w1 ⟨t, rfl, htl, k1⟩
  have TS : t.size ≤ 1099511627776 := by
    have h1 : t.data.toList.length = t.size := rfl
    have h2 := name_len s.data.toList n
    have h3 : s.data.toList.length = s.size := rfl
    rw [htl, h2, h3] at h1
    omega
  have TL := hide htl
  have p0 := (k1.cell (p := ⟨l, 0, none⟩) hll).trans c0
  have K1 := hide k1
  clear htl k1 c0 c1
  go_wp2_with fail
  refine (read_any F dp room L t _ (HD.out.below K1.out) TS).mono ?_
  rintro e w2 ⟨v2, rfl, o2, k2⟩
  rw [TL.out, ← HBE.out] at o2
  rw [TL.out, ← HRE.out]
  obtain ⟨A2, c2, rfl, i2, l2, m2⟩ := o2.isB.form (n := m) HM.out.symm
  have I2 := hide i2
  have K2 := hide (below_step K1.out k2)
  clear o2 i2 k2 p0
  go_wp2_with fail
  refine (pscan_any A2 m c2 b n _ I2.out HM.out.symm HBB.out hml hn40).mono ?_
  rintro e w3 ⟨v3, rfl, s3, k3⟩
  rw [← HES.out] at s3
  have K3 := hide (below_step K2.out k3)
  have hs23 := k3.size
  have S3 : Hid (SegE (fun g => w2.heap.size ≤ g) w3 v3 n es) := hide s3
  obtain ⟨A3, c3, rfl, l3, m3, -⟩ := s3.form
  obtain ⟨ne, hne⟩ : ∃ q, q = es.length := ⟨_, rfl⟩
  rw [← hne] at S3 l3 ⊢
  have HNE := hide hne
  clear s3 k3 hne
  go_wp2_with fail
  obtain ⟨y, hy⟩ : ∃ y, y = w3.heap.size := ⟨_, rfl⟩
  have bk := Blk.new (B := 0) w3 127 #[.int .i64 (n : Int), .slice A3 ne c3, .bool true] (Nat.zero_le _)
  have ka := below_alloc w3 (.cells #[.int .i64 (n : Int), .slice A3 ne c3, .bool true] 127)
  obtain ⟨w4, hw4⟩ : ∃ z, z = w3.alloc (.cells #[.int .i64 (n : Int), .slice A3 ne c3, .bool true] 127) := ⟨_, rfl⟩
  rw [← hw4] at bk ka ⊢
  rw [← hy] at bk ⊢
  have K4 := hide (below_step K3.out ka)
  have BY := hide bk
  have S4 := hide (S3.out.turn (S := fun _ => False) (Turn.of_below _ ka) (fun _ _ => id) (fun _ _ _ => id))
  have HY : Hid (w.heap.size ≤ y ∧ y < w4.heap.size ∧ w2.heap.size ≤ y) := hide ⟨by have := K3.out.size; omega, by have h9 := bk.cell 0; exact cell_lt h9, by have := K3.out.size; omega⟩
  have B4 := hide (HB0.out.turn (Turn.of_below (fun _ => False) K4.out) id)
  have D4 := hide (HD.out.below K4.out)
  have P4 := hide (HP0.out.below K4.out)
  have W24 : Hid (w2.heap.size ≤ w4.heap.size ∧ w.heap.size ≤ w2.heap.size) := hide ⟨by have := ka.size; omega, K2.out.size⟩
  have x0 : w4.cell? ⟨l, 0, none⟩ = some (.pointer (some ⟨dp, 0, none⟩)) := B4.out.cell 0
  have x2 : w4.cell? ⟨l, 2, none⟩ = some (.slice AS N cS) := B4.out.cell 2
  have x3 : w4.cell? ⟨l, 3, none⟩ = some (.int .i64 (nx : Int)) := B4.out.cell 3
  have hl4 := cell_lt x0
  clear bk ka hw4 hy
  go_wp2_with fail
  refine (pfollows_any _ l N cS nx n AS ⟨segs, nx⟩ (by rw [HN.out, ← HXE.out]) rfl x2 x3).mono ?_
  rintro e w5 ⟨rfl, k5⟩
  rw [← HFF.out]
  have K5 := hide (below_step K4.out k5)
  have BY5 := hide (BY.out.turn (Turn.of_below (fun _ => False) k5) id)
  have S5 := hide (S4.out.turn (S := fun _ => False) (Turn.of_below _ k5) (fun _ _ => id) (fun _ _ _ => id))
  have B5 := hide (B4.out.turn (Turn.of_below (fun _ => False) k5) id)
  have D5 := hide (D4.out.below k5)
  have P5 := hide (P4.out.below k5)
  have hs45 := k5.size
  have z0 : w5.cell? ⟨l, 0, none⟩ = some (.pointer (some ⟨dp, 0, none⟩)) := B5.out.cell 0
  have z2 : w5.cell? ⟨l, 2, none⟩ = some (.slice AS N cS) := B5.out.cell 2
  have y0 : w5.cell? ⟨y, 0, none⟩ = some (.int .i64 (n : Int)) := BY5.out.cell 0
  have y1 : w5.cell? ⟨y, 1, none⟩ = some (.slice A3 ne c3) := BY5.out.cell 1
  have y2 : w5.cell? ⟨y, 2, none⟩ = some (.bool true) := BY5.out.cell 2
  have hl5 := cell_lt z0
  have hy5 := cell_lt y0
  have HPS := hide (show ∀ (W : World), Below w5.heap.size w5 W → Calls Tryz.prog 96 #[.pointer (some ⟨y, 0, none⟩)] W fun e w' => e = .returned (.int .i64 (zz : Int)) ∧ ∃ d, w' = W.drewN d from fun W k => by
    have h9 := psize_any W (fun g => w2.heap.size ≤ g) y 0 (.slice A3 ne c3) n es ((k.cell (p := ⟨y, 1, none⟩) hy5).trans y1) (S5.out.turn (S := fun _ => False) (Turn.of_below _ k) (fun _ _ => id) (fun _ _ _ => id)) (by rw [← HZZ.out]; omega)
    rw [← HZZ.out] at h9
    exact h9)
  clear k5 x0 x2 x3
  cases ff with
  | false =>
    have HR : Hid (readP s.data.toList n ⟨segs, nx⟩ L = ((⟨segs, nx⟩, (remL (nameL s.data.toList n) L).1), false)) := hide (by rw [HRP.out, if_pos (.inl rfl)])
    go_wp2_with fail
    have KW : Below w5.heap.size w5 w5 := Below.refl _ _
    refine (remove_any F dp room L t _ (D5.out.below KW) TS).mono ?_
    rintro e w7 ⟨rfl, F7, d7, n7⟩
    rw [TL.out] at d7
    have hnl : ¬ F l := fun hf => HAP.out l hf HGL.out
    have B7 := hide ((B5.out.turn (Turn.of_below (fun _ => False) KW) id).turn n7.turn hnl)
    have P7 := hide ((P5.out.below KW).turn n7.turn (fun q hg hf => HAP.out q hf hg))
    have D7 := hide d7
    have T7 : Hid (Turn (fun k => F k ∨ G k) w w7) := hide (((Turn.of_below _ K5.out).then (Turn.of_below (fun _ => False) KW) (fun _ => False.elim)).then n7.turn (fun q hq => .inl (.inl hq)))
    have F7W : Hid (∀ q, F7 q → F q ∨ w.heap.size ≤ q) := hide (fun q hq => (n7.foot q hq).imp id (fun h => by have := K5.out.size; have := KW.size; omega))
    have AP7 : Hid (∀ q, F7 q → ¬ G q) := hide (fun q hq hg => (F7W.out q hq).elim (fun h => HAP.out q h hg) (fun h => by have := HGW.out q hg; omega))
    clear d7 n7 hnl
    go_wp2_with fail
    go_ret
    refine ⟨_, rfl, by rw [HR.out]; rfl, F7, G, ?_, T7.out, F7W.out, fun _ => .inl⟩
    rw [HR.out]
    exact ⟨D7.out, ⟨_, X, HE.out, P7.out.log B7.out HGL.out (fun q hq => by have := HGW.out q hq; have := T7.out.size; omega)⟩, AP7.out⟩
  | true =>
    go_wp2_with fail
    refine (HPS.out _ (Below.refl _ _)).mono ?_
    rintro e w6 ⟨rfl, d6, rfl⟩
    obtain ⟨w6, hw6⟩ : ∃ z, z = w5.drewN d6 := ⟨_, rfl⟩
    have k6 : Below w5.heap.size w5 w6 := by rw [hw6]; exact ⟨rfl, rfl, rfl, Nat.le_refl _, fun _ _ => rfl⟩
    rw [← hw6]
    have K5 := hide (below_step K5.out k6)
    have BY5 := hide (BY5.out.turn (Turn.of_below (fun _ => False) k6) id)
    have S5 := hide (S5.out.turn (S := fun _ => False) (Turn.of_below _ k6) (fun _ _ => id) (fun _ _ _ => id))
    have B5 := hide (B5.out.turn (Turn.of_below (fun _ => False) k6) id)
    have D5 := hide (D5.out.below k6)
    have P5 := hide (P5.out.below k6)
    have hs56 := k6.size
    have z0 : w6.cell? ⟨l, 0, none⟩ = some (.pointer (some ⟨dp, 0, none⟩)) := B5.out.cell 0
    have z2 : w6.cell? ⟨l, 2, none⟩ = some (.slice AS N cS) := B5.out.cell 2
    have y0 : w6.cell? ⟨y, 0, none⟩ = some (.int .i64 (n : Int)) := BY5.out.cell 0
    have y1 : w6.cell? ⟨y, 1, none⟩ = some (.slice A3 ne c3) := BY5.out.cell 1
    have y2 : w6.cell? ⟨y, 2, none⟩ = some (.bool true) := BY5.out.cell 2
    have hl5 := cell_lt z0
    have hy5 := cell_lt y0
    have HPS := hide (fun (W : World) (k : Below w6.heap.size w6 W) => HPS.out W (k6.trans (k.mono k6.size)))
    have K6 := hide k6
    clear k6 hw6
    by_cases hz : zz = 0
    · have hzt : ((zz : Int) == 0) = true := by simp; omega
      by_cases hm0 : 0 < m
      · have hmt : (0 : Int) < (m : Int) := by omega
        have HR : Hid (readP s.data.toList n ⟨segs, nx⟩ L = ((⟨segs, nx⟩, (remL (nameL s.data.toList n) L).1), false)) := hide (by rw [HRP.out, if_pos (.inr ⟨hz, hm0⟩)])
        go_wp2_with fail
        have KW : Below w6.heap.size w6 w6 := Below.refl _ _
        refine (remove_any F dp room L t _ (D5.out.below KW) TS).mono ?_
        rintro e w7 ⟨rfl, F7, d7, n7⟩
        rw [TL.out] at d7
        have hnl : ¬ F l := fun hf => HAP.out l hf HGL.out
        have B7 := hide ((B5.out.turn (Turn.of_below (fun _ => False) KW) id).turn n7.turn hnl)
        have P7 := hide ((P5.out.below KW).turn n7.turn (fun q hg hf => HAP.out q hf hg))
        have D7 := hide d7
        have T7 : Hid (Turn (fun k => F k ∨ G k) w w7) := hide (((Turn.of_below _ K5.out).then (Turn.of_below (fun _ => False) KW) (fun _ => False.elim)).then n7.turn (fun q hq => .inl (.inl hq)))
        have F7W : Hid (∀ q, F7 q → F q ∨ w.heap.size ≤ q) := hide (fun q hq => (n7.foot q hq).imp id (fun h => by have := K5.out.size; have := KW.size; omega))
        have AP7 : Hid (∀ q, F7 q → ¬ G q) := hide (fun q hq hg => (F7W.out q hq).elim (fun h => HAP.out q h hg) (fun h => by have := HGW.out q hg; omega))
        clear d7 n7 hnl
        go_wp2_with fail
        go_ret
        refine ⟨_, rfl, by rw [HR.out]; rfl, F7, G, ?_, T7.out, F7W.out, fun _ => .inl⟩
        rw [HR.out]
        exact ⟨D7.out, ⟨_, X, HE.out, P7.out.log B7.out HGL.out (fun q hq => by have := HGW.out q hq; have := T7.out.size; omega)⟩, AP7.out⟩
      · have hmt : (m : Int) ≤ 0 := by omega
        have hzm2 : ((zz : Int) == (m : Int)) = true := by simp; omega
        have HR : Hid (readP s.data.toList n ⟨segs, nx⟩ L = ((⟨segs ++ [(n, es, true)], n + es.length⟩, L), true)) := hide (by rw [HRP.out, if_neg (by rintro (q | ⟨_, q⟩); cases q; exact hm0 q), if_pos (by omega)])
        go_wp2_with fail
        refine Ways.start (fun W => W.cell? ⟨l, 2, none⟩ = some (.slice AS N cS) ∧ W.cell? ⟨y, 0, none⟩ = some (.int .i64 (n : Int)) ∧ W.cell? ⟨y, 1, none⟩ = some (.slice A3 ne c3) ∧ W.cell? ⟨y, 2, none⟩ = some (.bool true)) 10 11 #[false, false, false, false, false, false, false, false, false, false, false] (by kernel_rfl) (by kernel_rfl) (by kernel_rfl) ?_
        have hHeld : w6.drew.cell? ⟨l, 2, none⟩ = some (.slice AS N cS) ∧ w6.drew.cell? ⟨y, 0, none⟩ = some (.int .i64 (n : Int)) ∧ w6.drew.cell? ⟨y, 1, none⟩ = some (.slice A3 ne c3) ∧ w6.drew.cell? ⟨y, 2, none⟩ = some (.bool true) := ⟨z2, y0, y1, y2⟩
        refine' Ways.take (i := 0) (oi := ⟨_, _, _, _, _, _⟩) (v := _) rfl (by kernel_rfl) (by kernel_rfl) (by kernel_rfl) (by kernel_rfl) (fun _ _ _ h => h) hHeld (Or.inl ⟨rfl, ?_⟩) ?_
        rotate_left
        · (intro W hW; (try dsimp only at hW); go_simp; (try with_reducible rfl))
        try simp only [Act.put, List.setIfInBounds_toArray, List.set_cons_zero, List.set_cons_succ]
        refine' Ways.take (i := 1) (oi := ⟨_, _, _, _, _, _⟩) (v := _) rfl (by kernel_rfl) (by kernel_rfl) (by kernel_rfl) (by kernel_rfl) (fun _ _ _ h => h) hHeld (Or.inl ⟨rfl, ?_⟩) ?_
        rotate_left
        · (intro W hW; (try dsimp only at hW); go_simp; (try with_reducible rfl))
        try simp only [Act.put, List.setIfInBounds_toArray, List.set_cons_zero, List.set_cons_succ]
        refine' Ways.take (i := 2) (oi := ⟨_, _, _, _, _, _⟩) (v := _) rfl (by kernel_rfl) (by kernel_rfl) (by kernel_rfl) (by kernel_rfl) (fun _ _ _ h => h) hHeld (Or.inl ⟨rfl, ?_⟩) ?_
        rotate_left
        · (intro W hW; (try dsimp only at hW); go_simp; (try with_reducible rfl))
        try simp only [Act.put, List.setIfInBounds_toArray, List.set_cons_zero, List.set_cons_succ]
        refine' Ways.take (i := 3) (oi := ⟨_, _, _, _, _, _⟩) (v := _) rfl (by kernel_rfl) (by kernel_rfl) (by kernel_rfl) (by kernel_rfl) (fun _ _ _ h => h) hHeld (Or.inl ⟨rfl, ?_⟩) ?_
        rotate_left
        · (intro W hW; (try dsimp only at hW); go_simp; (try with_reducible rfl))
        try simp only [Act.put, List.setIfInBounds_toArray, List.set_cons_zero, List.set_cons_succ]
        refine' Ways.take (i := 4) (oi := ⟨_, _, _, _, _, _⟩) (v := _) rfl (by kernel_rfl) (by kernel_rfl) (by kernel_rfl) (by kernel_rfl) (fun _ _ _ h => h) hHeld (Or.inl ⟨rfl, ?_⟩) ?_
        rotate_left
        · (intro W hW; (try dsimp only at hW); go_simp; (try with_reducible rfl))
        try simp only [Act.put, List.setIfInBounds_toArray, List.set_cons_zero, List.set_cons_succ]
        refine' Ways.take (i := 5) (oi := ⟨_, _, _, _, _, _⟩) (v := _) rfl (by kernel_rfl) (by kernel_rfl) (by kernel_rfl) (by kernel_rfl) (fun _ _ _ h => h) hHeld (Or.inl ⟨rfl, ?_⟩) ?_
        rotate_left
        · (intro W hW; (try dsimp only at hW); go_simp; (try with_reducible rfl))
        try simp only [Act.put, List.setIfInBounds_toArray, List.set_cons_zero, List.set_cons_succ]
        refine Ways.one (i := 6) (by kernel_rfl) rfl (fun K hK => ?_)
        go_simp
        have kb0 := below_alloc w6 (.cells #[.int .i64 (n : Int), .slice A3 ne c3, .bool true] 127)
        have bb := Blk.new (B := 0) w6 127 #[.int .i64 (n : Int), .slice A3 ne c3, .bool true] (Nat.zero_le _)
        have bb := bb.turn (Turn.of_below (fun _ => False) (below_drew _)) id
        have kb := below_step kb0 (below_drew _)
        obtain ⟨w7, hw7⟩ : ∃ z, z = (w6.alloc (.cells #[.int .i64 (n : Int), .slice A3 ne c3, .bool true] 127)).drew := ⟨_, rfl⟩
        rw [← hw7] at kb bb ⊢
        clear kb0
        have hHeld7 : w7.cell? ⟨l, 2, none⟩ = some (.slice AS N cS) ∧ w7.cell? ⟨y, 0, none⟩ = some (.int .i64 (n : Int)) ∧ w7.cell? ⟨y, 1, none⟩ = some (.slice A3 ne c3) ∧ w7.cell? ⟨y, 2, none⟩ = some (.bool true) := ⟨(kb.cell (p := ⟨l, 2, none⟩) hl5).trans z2, (kb.cell (p := ⟨y, 0, none⟩) hy5).trans y0, (kb.cell (p := ⟨y, 1, none⟩) hy5).trans y1, (kb.cell (p := ⟨y, 2, none⟩) hy5).trans y2⟩
        refine hK.out _ _ hHeld7 ?_
        try simp only [List.setIfInBounds_toArray, List.set_cons_zero, List.set_cons_succ]
        refine Ways.one (i := 7) (by kernel_rfl) rfl (fun K3 hK3 => ?_)
        have P7 := (P5.out.below kb).mono (G' := fun q => G q ∨ w.heap.size ≤ q) (fun _ _ => .inl)
        have S7 := ((S5.out.turn (S := fun _ => False) (Turn.of_below _ kb) (fun _ _ => id) (fun _ _ _ => id)).mono (G' := fun q => G q ∨ w.heap.size ≤ q) (fun q _ h => .inr (by have := W24.out; omega)))
        have hfarE : ∀ q, (Value.slice A3 ne c3).ownBlock = some q → w2.heap.size ≤ q := fun q hq => S5.out.own q hq
        have hfar7 : ∀ x ∈ X, ∀ q, x.2.1.ownBlock = some q → (Value.slice A3 ne c3).ownBlock ≠ some q := fun x hx q hq e => by
          have h1 := HGW.out q ((P5.out.each x hx).own q hq)
          have h2 := hfarE q e
          have := W24.out
          omega
        refine step_append_sgm rfl (.tmp 47) (.tmp 49) rfl (fun q => G q ∨ w.heap.size ≤ q) (.slice AS N cS) X rfl P7 w6.heap.size n (.slice A3 ne c3) true es rfl (bb.cell 0) (bb.cell 1) (bb.cell 2) S7 hfar7 (by rw [← HN.out]; omega) ?_
        rintro v8 w8 p8 q8 g8 -
        have t8 := Turn.of_grown g8
        have B7 := B5.out.turn (Turn.of_below (fun _ => False) kb) id
        have hvl : ¬ some l = (Value.slice AS N cS).ownBlock := fun e => ownsRow_notIn P7.row B7 (by decide) e.symm
        have hvG : ∀ q, some q = (Value.slice AS N cS).ownBlock → G q := fun q e => P5.out.mine q e.symm
        have hvy : ¬ some y = (Value.slice AS N cS).ownBlock := fun e => by have := HGW.out y (hvG y e); have := HY.out.1; omega
        have B8 := hide (B7.turn t8 hvl)
        have BY8 := hide ((BY5.out.turn (Turn.of_below (fun _ => False) kb) id).turn t8 hvy)
        have D8 := hide ((D5.out.below kb).turn t8 (fun q hf e => HAP.out q hf (hvG q e)))
        have T8 : Hid (Turn (fun k => F k ∨ G k) w w8) := hide (((Turn.of_below _ K5.out).then (Turn.of_below (fun _ => False) kb) (fun _ => False.elim)).then t8 (fun q e => .inl (.inr (hvG q e))))
        have P8 := hide (p8.mono (G' := fun q => G q ∨ w.heap.size ≤ q) (fun q _ h => h.elim id (fun e => .inr (by have := kb.size; have := K5.out.size; omega))))
        obtain ⟨A8, c8, rfl⟩ := row_form p8.row
        have hN8 : (X ++ [((n, Value.slice A3 ne c3, true, es) : Sgp)]).length = N + 1 := by rw [List.length_append, ← HN.out]; rfl
        rw [hN8] at P8 ⊢
        have hH8 : w8.cell? ⟨l, 2, none⟩ = some (.slice AS N cS) ∧ w8.cell? ⟨y, 0, none⟩ = some (.int .i64 (n : Int)) ∧ w8.cell? ⟨y, 1, none⟩ = some (.slice A3 ne c3) ∧ w8.cell? ⟨y, 2, none⟩ = some (.bool true) := ⟨B8.out.cell 2, BY8.out.cell 0, BY8.out.cell 1, BY8.out.cell 2⟩
        refine hK3.out _ _ hH8 ?_
        try simp only [List.setIfInBounds_toArray, List.set_cons_zero, List.set_cons_succ]
        refine Ways.one (i := 8) (by kernel_rfl) rfl (fun K4 hK4 => ?_)
        go_simp
        refine hK4.out _ _ hH8 ?_
        try simp only [List.setIfInBounds_toArray, List.set_cons_zero, List.set_cons_succ]
        refine' Ways.take (i := 9) (oi := ⟨_, _, _, _, _, _⟩) (v := _) rfl (by kernel_rfl) (by kernel_rfl) (by kernel_rfl) (by kernel_rfl) (fun _ _ _ h => h) hH8 (Or.inl ⟨rfl, ?_⟩) ?_
        rotate_left
        · (intro W hW; (try dsimp only at hW); go_simp; (try with_reducible rfl))
        try simp only [Act.put, List.setIfInBounds_toArray, List.set_cons_zero, List.set_cons_succ]
        refine Ways.last (by kernel_rfl) rfl (by kernel_rfl) (fun K2x hK2x => ?_)
        have f2 := B8.out.frozen 2
        have r2 := B8.out.cell 2
        go_simp
        refine hK2x.out _ _ ?_
        try simp only [Act.put, List.setIfInBounds_toArray, List.set_cons_zero, List.set_cons_succ]
        have b9 := B8.out.stored 2 (.slice A8 (N + 1) c8)
        obtain ⟨w9, hw9⟩ : ∃ z, z = w8.setCell ⟨l, 2, none⟩ (.slice A8 (N + 1) c8) := ⟨_, rfl⟩
        have t9 : Turn (fun q => q = l) w8 w9 := by
          rw [hw9]
          exact (Turn.of_grown (grown_set w8 l _ _)).mono (fun q e => Option.some.inj e)
        rw [← hw9] at b9 ⊢
        have P9 := hide (P8.out.off t9 (fun q e => by rw [e]; exact blk_off B8.out))
        have D9 := hide (D8.out.turn t9 (fun q hf e => HAP.out q hf (e ▸ HGL.out)))
        have T9 := hide (T8.out.then t9 (fun q e => .inl (.inr (e ▸ HGL.out))))
        have hyl : ¬ y = l := fun e => by have := HGW.out l HGL.out; have := HY.out.1; omega
        have BY9 := hide (BY8.out.turn t9 hyl)
        have B9 := hide b9
        have S9 := P9.out.each (n, .slice A3 ne c3, true, es) (by simp)
        have yy0 := BY9.out.cell 0
        have yy1 := BY9.out.cell 1
        have HP9 := hide (pnext_any w9 y 0 n ne c3 A3 yy0 yy1 hn40 (by have := hes30.out; have := HNE.out; omega))
        obtain ⟨n2, hn2⟩ : ∃ q, q = n + ne := ⟨_, rfl⟩
        rw [← hn2] at HP9
        have HN2 := hide hn2
        have s0 : w9.cell? ⟨l, 0, none⟩ = some (.pointer (some ⟨dp, 0, none⟩)) := B9.out.cell 0
        have s3 : w9.cell? ⟨l, 3, none⟩ = some (.int .i64 (nx : Int)) := B9.out.cell 3
        have f3 := B9.out.frozen 3
        have hl9 := cell_lt s0
        clear hK hK3 hK4 hK2x kb bb hHeld hHeld7 P7 S7 hfar7 hfarE t8 B7 hvl hvG hvy p8 q8 g8 hN8 hH8 f2 r2 b9 t9 hyl hw7 hw9 hn2 z0 z2 y0 y1 y2 yy0 yy1 S9 hl5 hy5 hs56
        go_wp2_with fail
        refine HP9.out.mono ?_
        rintro e w10 ⟨rfl, d10, rfl⟩
        obtain ⟨w10, hw10⟩ : ∃ z, z = w9.drewN d10 := ⟨_, rfl⟩
        have k10 : Below w9.heap.size w9 w10 := by rw [hw10]; exact ⟨rfl, rfl, rfl, Nat.le_refl _, fun _ _ => rfl⟩
        rw [← hw10]
        have B10 := hide (B9.out.turn (Turn.of_below (fun _ => False) k10) id)
        have BY10 := hide (BY9.out.turn (Turn.of_below (fun _ => False) k10) id)
        have P10 := hide (P9.out.below k10)
        have D10 := hide (D9.out.below k10)
        have T10 := hide (T9.out.then (Turn.of_below (fun _ => False) k10) (fun _ => False.elim))
        have q3 : w10.cell? ⟨l, 3, none⟩ = some (.int .i64 (nx : Int)) := B10.out.cell 3
        have qf := B10.out.frozen 3
        have hl10 := cell_lt q3
        clear k10 hw10 s0 s3 f3
        go_wp2_with fail
        have b11 := B10.out.stored 3 (.int .i64 (n2 : Int))
        obtain ⟨w11, hw11⟩ : ∃ z, z = w10.setCell ⟨l, 3, none⟩ (.int .i64 (n2 : Int)) := ⟨_, rfl⟩
        have t11 : Turn (fun q => q = l) w10 w11 := by
          rw [hw11]
          exact (Turn.of_grown (grown_set w10 l _ _)).mono (fun q e => Option.some.inj e)
        rw [← hw11] at b11 ⊢
        have P11 := hide (P10.out.off t11 (fun q e => by rw [e]; exact blk_off B10.out))
        have D11 := hide (D10.out.turn t11 (fun q hf e => HAP.out q hf (e ▸ HGL.out)))
        have T11 := hide (T10.out.then t11 (fun q e => .inl (.inr (e ▸ HGL.out))))
        have hyl : ¬ y = l := fun e => by have := HGW.out l HGL.out; have := HY.out.1; omega
        have BY11 := hide (BY10.out.turn t11 hyl)
        have B11 := hide b11
        have u1 : w11.cell? ⟨y, 1, none⟩ = some (.slice A3 ne c3) := BY11.out.cell 1
        have hy11 := cell_lt u1
        have HPS11 := hide (show ∀ (W : World), Below w11.heap.size w11 W → Calls Tryz.prog 96 #[.pointer (some ⟨y, 0, none⟩)] W fun e w' => e = .returned (.int .i64 (zz : Int)) ∧ ∃ d, w' = W.drewN d from fun W k => by
          have h9 := psize_any W _ y 0 (.slice A3 ne c3) n es ((k.cell (p := ⟨y, 1, none⟩) hy11).trans u1) ((P11.out.each (n, .slice A3 ne c3, true, es) (by simp)).turn (S := fun _ => False) (Turn.of_below _ k) (fun _ _ => id) (fun _ _ _ => id)) (by rw [← HZZ.out]; omega)
          rw [← HZZ.out] at h9
          exact h9)
        clear b11 t11 hyl hw11 q3 qf u1
        refine (HPS11.out _ (Below.refl _ _)).mono ?_
        rintro e w12 ⟨rfl, d12, rfl⟩
        have k12 : Below w11.heap.size w11 (w11.drewN d12) := ⟨rfl, rfl, rfl, Nat.le_refl _, fun _ _ => rfl⟩
        obtain ⟨w12, hw12⟩ : ∃ z, z = w11.drewN d12 := ⟨_, rfl⟩
        rw [← hw12] at k12 ⊢
        have B12 := hide (B11.out.turn (Turn.of_below (fun _ => False) k12) id)
        have P12 := hide (P11.out.below k12)
        have D12 := hide (D11.out.below k12)
        have T12 := hide (T11.out.then (Turn.of_below (fun _ => False) k12) (fun _ => False.elim))
        have K12 := hide k12
        clear k12 hw12
        go_wp2_with fail
        go_ret
        refine ⟨_, rfl, by rw [HR.out]; rfl, F, fun q => G q ∨ (w.heap.size ≤ q ∧ q < w12.heap.size), ?_, T12.out, fun _ => .inl, fun q hq => hq.imp id (fun h => h.1)⟩
        rw [HR.out]
        have hlog := (P12.out.mono (G' := fun q => G q ∨ (w.heap.size ≤ q ∧ q < w12.heap.size)) (fun q hq h => h.imp id (fun h => ⟨h, hq⟩))).log (by rw [HN2.out, HNE.out] at B12; exact B12.out) (.inl HGL.out) (fun q hq => hq.elim (fun h => by have := HGW.out q h; have := T12.out.size; omega) (fun h => h.2))
        exact ⟨D12.out, ⟨_, _, by rw [List.map_append, ← HE.out]; rfl, hlog⟩, fun q hf hq => hq.elim (HAP.out q hf) (fun h => by have := HFW.out q hf; omega)⟩
    · have hzt : ((zz : Int) == 0) = false := by simp; omega
      by_cases hzm9 : zz = m
      · have hzm2 : ((zz : Int) == (m : Int)) = true := by simp; omega
        have HR : Hid (readP s.data.toList n ⟨segs, nx⟩ L = ((⟨segs ++ [(n, es, true)], n + es.length⟩, L), true)) := hide (by rw [HRP.out, if_neg (by rintro (q | ⟨q, _⟩); cases q; exact hz q), if_pos hzm9])
        go_wp2_with fail
        refine Ways.start (fun W => W.cell? ⟨l, 2, none⟩ = some (.slice AS N cS) ∧ W.cell? ⟨y, 0, none⟩ = some (.int .i64 (n : Int)) ∧ W.cell? ⟨y, 1, none⟩ = some (.slice A3 ne c3) ∧ W.cell? ⟨y, 2, none⟩ = some (.bool true)) 10 11 #[false, false, false, false, false, false, false, false, false, false, false] (by kernel_rfl) (by kernel_rfl) (by kernel_rfl) ?_
        have hHeld : w6.drew.cell? ⟨l, 2, none⟩ = some (.slice AS N cS) ∧ w6.drew.cell? ⟨y, 0, none⟩ = some (.int .i64 (n : Int)) ∧ w6.drew.cell? ⟨y, 1, none⟩ = some (.slice A3 ne c3) ∧ w6.drew.cell? ⟨y, 2, none⟩ = some (.bool true) := ⟨z2, y0, y1, y2⟩
        refine' Ways.take (i := 0) (oi := ⟨_, _, _, _, _, _⟩) (v := _) rfl (by kernel_rfl) (by kernel_rfl) (by kernel_rfl) (by kernel_rfl) (fun _ _ _ h => h) hHeld (Or.inl ⟨rfl, ?_⟩) ?_
        rotate_left
        · (intro W hW; (try dsimp only at hW); go_simp; (try with_reducible rfl))
        try simp only [Act.put, List.setIfInBounds_toArray, List.set_cons_zero, List.set_cons_succ]
        refine' Ways.take (i := 1) (oi := ⟨_, _, _, _, _, _⟩) (v := _) rfl (by kernel_rfl) (by kernel_rfl) (by kernel_rfl) (by kernel_rfl) (fun _ _ _ h => h) hHeld (Or.inl ⟨rfl, ?_⟩) ?_
        rotate_left
        · (intro W hW; (try dsimp only at hW); go_simp; (try with_reducible rfl))
        try simp only [Act.put, List.setIfInBounds_toArray, List.set_cons_zero, List.set_cons_succ]
        refine' Ways.take (i := 2) (oi := ⟨_, _, _, _, _, _⟩) (v := _) rfl (by kernel_rfl) (by kernel_rfl) (by kernel_rfl) (by kernel_rfl) (fun _ _ _ h => h) hHeld (Or.inl ⟨rfl, ?_⟩) ?_
        rotate_left
        · (intro W hW; (try dsimp only at hW); go_simp; (try with_reducible rfl))
        try simp only [Act.put, List.setIfInBounds_toArray, List.set_cons_zero, List.set_cons_succ]
        refine' Ways.take (i := 3) (oi := ⟨_, _, _, _, _, _⟩) (v := _) rfl (by kernel_rfl) (by kernel_rfl) (by kernel_rfl) (by kernel_rfl) (fun _ _ _ h => h) hHeld (Or.inl ⟨rfl, ?_⟩) ?_
        rotate_left
        · (intro W hW; (try dsimp only at hW); go_simp; (try with_reducible rfl))
        try simp only [Act.put, List.setIfInBounds_toArray, List.set_cons_zero, List.set_cons_succ]
        refine' Ways.take (i := 4) (oi := ⟨_, _, _, _, _, _⟩) (v := _) rfl (by kernel_rfl) (by kernel_rfl) (by kernel_rfl) (by kernel_rfl) (fun _ _ _ h => h) hHeld (Or.inl ⟨rfl, ?_⟩) ?_
        rotate_left
        · (intro W hW; (try dsimp only at hW); go_simp; (try with_reducible rfl))
        try simp only [Act.put, List.setIfInBounds_toArray, List.set_cons_zero, List.set_cons_succ]
        refine' Ways.take (i := 5) (oi := ⟨_, _, _, _, _, _⟩) (v := _) rfl (by kernel_rfl) (by kernel_rfl) (by kernel_rfl) (by kernel_rfl) (fun _ _ _ h => h) hHeld (Or.inl ⟨rfl, ?_⟩) ?_
        rotate_left
        · (intro W hW; (try dsimp only at hW); go_simp; (try with_reducible rfl))
        try simp only [Act.put, List.setIfInBounds_toArray, List.set_cons_zero, List.set_cons_succ]
        refine Ways.one (i := 6) (by kernel_rfl) rfl (fun K hK => ?_)
        go_simp
        have kb0 := below_alloc w6 (.cells #[.int .i64 (n : Int), .slice A3 ne c3, .bool true] 127)
        have bb := Blk.new (B := 0) w6 127 #[.int .i64 (n : Int), .slice A3 ne c3, .bool true] (Nat.zero_le _)
        have bb := bb.turn (Turn.of_below (fun _ => False) (below_drew _)) id
        have kb := below_step kb0 (below_drew _)
        obtain ⟨w7, hw7⟩ : ∃ z, z = (w6.alloc (.cells #[.int .i64 (n : Int), .slice A3 ne c3, .bool true] 127)).drew := ⟨_, rfl⟩
        rw [← hw7] at kb bb ⊢
        clear kb0
        have hHeld7 : w7.cell? ⟨l, 2, none⟩ = some (.slice AS N cS) ∧ w7.cell? ⟨y, 0, none⟩ = some (.int .i64 (n : Int)) ∧ w7.cell? ⟨y, 1, none⟩ = some (.slice A3 ne c3) ∧ w7.cell? ⟨y, 2, none⟩ = some (.bool true) := ⟨(kb.cell (p := ⟨l, 2, none⟩) hl5).trans z2, (kb.cell (p := ⟨y, 0, none⟩) hy5).trans y0, (kb.cell (p := ⟨y, 1, none⟩) hy5).trans y1, (kb.cell (p := ⟨y, 2, none⟩) hy5).trans y2⟩
        refine hK.out _ _ hHeld7 ?_
        try simp only [List.setIfInBounds_toArray, List.set_cons_zero, List.set_cons_succ]
        refine Ways.one (i := 7) (by kernel_rfl) rfl (fun K3 hK3 => ?_)
        have P7 := (P5.out.below kb).mono (G' := fun q => G q ∨ w.heap.size ≤ q) (fun _ _ => .inl)
        have S7 := ((S5.out.turn (S := fun _ => False) (Turn.of_below _ kb) (fun _ _ => id) (fun _ _ _ => id)).mono (G' := fun q => G q ∨ w.heap.size ≤ q) (fun q _ h => .inr (by have := W24.out; omega)))
        have hfarE : ∀ q, (Value.slice A3 ne c3).ownBlock = some q → w2.heap.size ≤ q := fun q hq => S5.out.own q hq
        have hfar7 : ∀ x ∈ X, ∀ q, x.2.1.ownBlock = some q → (Value.slice A3 ne c3).ownBlock ≠ some q := fun x hx q hq e => by
          have h1 := HGW.out q ((P5.out.each x hx).own q hq)
          have h2 := hfarE q e
          have := W24.out
          omega
        refine step_append_sgm rfl (.tmp 47) (.tmp 49) rfl (fun q => G q ∨ w.heap.size ≤ q) (.slice AS N cS) X rfl P7 w6.heap.size n (.slice A3 ne c3) true es rfl (bb.cell 0) (bb.cell 1) (bb.cell 2) S7 hfar7 (by rw [← HN.out]; omega) ?_
        rintro v8 w8 p8 q8 g8 -
        have t8 := Turn.of_grown g8
        have B7 := B5.out.turn (Turn.of_below (fun _ => False) kb) id
        have hvl : ¬ some l = (Value.slice AS N cS).ownBlock := fun e => ownsRow_notIn P7.row B7 (by decide) e.symm
        have hvG : ∀ q, some q = (Value.slice AS N cS).ownBlock → G q := fun q e => P5.out.mine q e.symm
        have hvy : ¬ some y = (Value.slice AS N cS).ownBlock := fun e => by have := HGW.out y (hvG y e); have := HY.out.1; omega
        have B8 := hide (B7.turn t8 hvl)
        have BY8 := hide ((BY5.out.turn (Turn.of_below (fun _ => False) kb) id).turn t8 hvy)
        have D8 := hide ((D5.out.below kb).turn t8 (fun q hf e => HAP.out q hf (hvG q e)))
        have T8 : Hid (Turn (fun k => F k ∨ G k) w w8) := hide (((Turn.of_below _ K5.out).then (Turn.of_below (fun _ => False) kb) (fun _ => False.elim)).then t8 (fun q e => .inl (.inr (hvG q e))))
        have P8 := hide (p8.mono (G' := fun q => G q ∨ w.heap.size ≤ q) (fun q _ h => h.elim id (fun e => .inr (by have := kb.size; have := K5.out.size; omega))))
        obtain ⟨A8, c8, rfl⟩ := row_form p8.row
        have hN8 : (X ++ [((n, Value.slice A3 ne c3, true, es) : Sgp)]).length = N + 1 := by rw [List.length_append, ← HN.out]; rfl
        rw [hN8] at P8 ⊢
        have hH8 : w8.cell? ⟨l, 2, none⟩ = some (.slice AS N cS) ∧ w8.cell? ⟨y, 0, none⟩ = some (.int .i64 (n : Int)) ∧ w8.cell? ⟨y, 1, none⟩ = some (.slice A3 ne c3) ∧ w8.cell? ⟨y, 2, none⟩ = some (.bool true) := ⟨B8.out.cell 2, BY8.out.cell 0, BY8.out.cell 1, BY8.out.cell 2⟩
        refine hK3.out _ _ hH8 ?_
        try simp only [List.setIfInBounds_toArray, List.set_cons_zero, List.set_cons_succ]
        refine Ways.one (i := 8) (by kernel_rfl) rfl (fun K4 hK4 => ?_)
        go_simp
        refine hK4.out _ _ hH8 ?_
        try simp only [List.setIfInBounds_toArray, List.set_cons_zero, List.set_cons_succ]
        refine' Ways.take (i := 9) (oi := ⟨_, _, _, _, _, _⟩) (v := _) rfl (by kernel_rfl) (by kernel_rfl) (by kernel_rfl) (by kernel_rfl) (fun _ _ _ h => h) hH8 (Or.inl ⟨rfl, ?_⟩) ?_
        rotate_left
        · (intro W hW; (try dsimp only at hW); go_simp; (try with_reducible rfl))
        try simp only [Act.put, List.setIfInBounds_toArray, List.set_cons_zero, List.set_cons_succ]
        refine Ways.last (by kernel_rfl) rfl (by kernel_rfl) (fun K2x hK2x => ?_)
        have f2 := B8.out.frozen 2
        have r2 := B8.out.cell 2
        go_simp
        refine hK2x.out _ _ ?_
        try simp only [Act.put, List.setIfInBounds_toArray, List.set_cons_zero, List.set_cons_succ]
        have b9 := B8.out.stored 2 (.slice A8 (N + 1) c8)
        obtain ⟨w9, hw9⟩ : ∃ z, z = w8.setCell ⟨l, 2, none⟩ (.slice A8 (N + 1) c8) := ⟨_, rfl⟩
        have t9 : Turn (fun q => q = l) w8 w9 := by
          rw [hw9]
          exact (Turn.of_grown (grown_set w8 l _ _)).mono (fun q e => Option.some.inj e)
        rw [← hw9] at b9 ⊢
        have P9 := hide (P8.out.off t9 (fun q e => by rw [e]; exact blk_off B8.out))
        have D9 := hide (D8.out.turn t9 (fun q hf e => HAP.out q hf (e ▸ HGL.out)))
        have T9 := hide (T8.out.then t9 (fun q e => .inl (.inr (e ▸ HGL.out))))
        have hyl : ¬ y = l := fun e => by have := HGW.out l HGL.out; have := HY.out.1; omega
        have BY9 := hide (BY8.out.turn t9 hyl)
        have B9 := hide b9
        have S9 := P9.out.each (n, .slice A3 ne c3, true, es) (by simp)
        have yy0 := BY9.out.cell 0
        have yy1 := BY9.out.cell 1
        have HP9 := hide (pnext_any w9 y 0 n ne c3 A3 yy0 yy1 hn40 (by have := hes30.out; have := HNE.out; omega))
        obtain ⟨n2, hn2⟩ : ∃ q, q = n + ne := ⟨_, rfl⟩
        rw [← hn2] at HP9
        have HN2 := hide hn2
        have s0 : w9.cell? ⟨l, 0, none⟩ = some (.pointer (some ⟨dp, 0, none⟩)) := B9.out.cell 0
        have s3 : w9.cell? ⟨l, 3, none⟩ = some (.int .i64 (nx : Int)) := B9.out.cell 3
        have f3 := B9.out.frozen 3
        have hl9 := cell_lt s0
        clear hK hK3 hK4 hK2x kb bb hHeld hHeld7 P7 S7 hfar7 hfarE t8 B7 hvl hvG hvy p8 q8 g8 hN8 hH8 f2 r2 b9 t9 hyl hw7 hw9 hn2 z0 z2 y0 y1 y2 yy0 yy1 S9 hl5 hy5 hs56
        go_wp2_with fail
        refine HP9.out.mono ?_
        rintro e w10 ⟨rfl, d10, rfl⟩
        obtain ⟨w10, hw10⟩ : ∃ z, z = w9.drewN d10 := ⟨_, rfl⟩
        have k10 : Below w9.heap.size w9 w10 := by rw [hw10]; exact ⟨rfl, rfl, rfl, Nat.le_refl _, fun _ _ => rfl⟩
        rw [← hw10]
        have B10 := hide (B9.out.turn (Turn.of_below (fun _ => False) k10) id)
        have BY10 := hide (BY9.out.turn (Turn.of_below (fun _ => False) k10) id)
        have P10 := hide (P9.out.below k10)
        have D10 := hide (D9.out.below k10)
        have T10 := hide (T9.out.then (Turn.of_below (fun _ => False) k10) (fun _ => False.elim))
        have q3 : w10.cell? ⟨l, 3, none⟩ = some (.int .i64 (nx : Int)) := B10.out.cell 3
        have qf := B10.out.frozen 3
        have hl10 := cell_lt q3
        clear k10 hw10 s0 s3 f3
        go_wp2_with fail
        have b11 := B10.out.stored 3 (.int .i64 (n2 : Int))
        obtain ⟨w11, hw11⟩ : ∃ z, z = w10.setCell ⟨l, 3, none⟩ (.int .i64 (n2 : Int)) := ⟨_, rfl⟩
        have t11 : Turn (fun q => q = l) w10 w11 := by
          rw [hw11]
          exact (Turn.of_grown (grown_set w10 l _ _)).mono (fun q e => Option.some.inj e)
        rw [← hw11] at b11 ⊢
        have P11 := hide (P10.out.off t11 (fun q e => by rw [e]; exact blk_off B10.out))
        have D11 := hide (D10.out.turn t11 (fun q hf e => HAP.out q hf (e ▸ HGL.out)))
        have T11 := hide (T10.out.then t11 (fun q e => .inl (.inr (e ▸ HGL.out))))
        have hyl : ¬ y = l := fun e => by have := HGW.out l HGL.out; have := HY.out.1; omega
        have BY11 := hide (BY10.out.turn t11 hyl)
        have B11 := hide b11
        have u1 : w11.cell? ⟨y, 1, none⟩ = some (.slice A3 ne c3) := BY11.out.cell 1
        have hy11 := cell_lt u1
        have HPS11 := hide (show ∀ (W : World), Below w11.heap.size w11 W → Calls Tryz.prog 96 #[.pointer (some ⟨y, 0, none⟩)] W fun e w' => e = .returned (.int .i64 (zz : Int)) ∧ ∃ d, w' = W.drewN d from fun W k => by
          have h9 := psize_any W _ y 0 (.slice A3 ne c3) n es ((k.cell (p := ⟨y, 1, none⟩) hy11).trans u1) ((P11.out.each (n, .slice A3 ne c3, true, es) (by simp)).turn (S := fun _ => False) (Turn.of_below _ k) (fun _ _ => id) (fun _ _ _ => id)) (by rw [← HZZ.out]; omega)
          rw [← HZZ.out] at h9
          exact h9)
        clear b11 t11 hyl hw11 q3 qf u1
        refine (HPS11.out _ (Below.refl _ _)).mono ?_
        rintro e w12 ⟨rfl, d12, rfl⟩
        have k12 : Below w11.heap.size w11 (w11.drewN d12) := ⟨rfl, rfl, rfl, Nat.le_refl _, fun _ _ => rfl⟩
        obtain ⟨w12, hw12⟩ : ∃ z, z = w11.drewN d12 := ⟨_, rfl⟩
        rw [← hw12] at k12 ⊢
        have B12 := hide (B11.out.turn (Turn.of_below (fun _ => False) k12) id)
        have P12 := hide (P11.out.below k12)
        have D12 := hide (D11.out.below k12)
        have T12 := hide (T11.out.then (Turn.of_below (fun _ => False) k12) (fun _ => False.elim))
        have K12 := hide k12
        clear k12 hw12
        go_wp2_with fail
        go_ret
        refine ⟨_, rfl, by rw [HR.out]; rfl, F, fun q => G q ∨ (w.heap.size ≤ q ∧ q < w12.heap.size), ?_, T12.out, fun _ => .inl, fun q hq => hq.imp id (fun h => h.1)⟩
        rw [HR.out]
        have hlog := (P12.out.mono (G' := fun q => G q ∨ (w.heap.size ≤ q ∧ q < w12.heap.size)) (fun q hq h => h.imp id (fun h => ⟨h, hq⟩))).log (by rw [HN2.out, HNE.out] at B12; exact B12.out) (.inl HGL.out) (fun q hq => hq.elim (fun h => by have := HGW.out q h; have := T12.out.size; omega) (fun h => h.2))
        exact ⟨D12.out, ⟨_, _, by rw [List.map_append, ← HE.out]; rfl, hlog⟩, fun q hf hq => hq.elim (HAP.out q hf) (fun h => by have := HFW.out q hf; omega)⟩
      · have hzm2 : ((zz : Int) == (m : Int)) = false := by simp; omega
        have HR : Hid (readP s.data.toList n ⟨segs, nx⟩ L = ((⟨segs ++ [(n, es, true)], n + es.length⟩, (cutL (nameL s.data.toList n) (zz : Int) L).1), false)) := hide (by rw [HRP.out, if_neg (by rintro (q | ⟨q, _⟩); cases q; exact hz q), if_neg hzm9])
        go_wp2_with fail
        refine Ways.start (fun W => W.cell? ⟨l, 2, none⟩ = some (.slice AS N cS) ∧ W.cell? ⟨y, 0, none⟩ = some (.int .i64 (n : Int)) ∧ W.cell? ⟨y, 1, none⟩ = some (.slice A3 ne c3) ∧ W.cell? ⟨y, 2, none⟩ = some (.bool true)) 10 11 #[false, false, false, false, false, false, false, false, false, false, false] (by kernel_rfl) (by kernel_rfl) (by kernel_rfl) ?_
        have hHeld : w6.drew.cell? ⟨l, 2, none⟩ = some (.slice AS N cS) ∧ w6.drew.cell? ⟨y, 0, none⟩ = some (.int .i64 (n : Int)) ∧ w6.drew.cell? ⟨y, 1, none⟩ = some (.slice A3 ne c3) ∧ w6.drew.cell? ⟨y, 2, none⟩ = some (.bool true) := ⟨z2, y0, y1, y2⟩
        refine' Ways.take (i := 0) (oi := ⟨_, _, _, _, _, _⟩) (v := _) rfl (by kernel_rfl) (by kernel_rfl) (by kernel_rfl) (by kernel_rfl) (fun _ _ _ h => h) hHeld (Or.inl ⟨rfl, ?_⟩) ?_
        rotate_left
        · (intro W hW; (try dsimp only at hW); go_simp; (try with_reducible rfl))
        try simp only [Act.put, List.setIfInBounds_toArray, List.set_cons_zero, List.set_cons_succ]
        refine' Ways.take (i := 1) (oi := ⟨_, _, _, _, _, _⟩) (v := _) rfl (by kernel_rfl) (by kernel_rfl) (by kernel_rfl) (by kernel_rfl) (fun _ _ _ h => h) hHeld (Or.inl ⟨rfl, ?_⟩) ?_
        rotate_left
        · (intro W hW; (try dsimp only at hW); go_simp; (try with_reducible rfl))
        try simp only [Act.put, List.setIfInBounds_toArray, List.set_cons_zero, List.set_cons_succ]
        refine' Ways.take (i := 2) (oi := ⟨_, _, _, _, _, _⟩) (v := _) rfl (by kernel_rfl) (by kernel_rfl) (by kernel_rfl) (by kernel_rfl) (fun _ _ _ h => h) hHeld (Or.inl ⟨rfl, ?_⟩) ?_
        rotate_left
        · (intro W hW; (try dsimp only at hW); go_simp; (try with_reducible rfl))
        try simp only [Act.put, List.setIfInBounds_toArray, List.set_cons_zero, List.set_cons_succ]
        refine' Ways.take (i := 3) (oi := ⟨_, _, _, _, _, _⟩) (v := _) rfl (by kernel_rfl) (by kernel_rfl) (by kernel_rfl) (by kernel_rfl) (fun _ _ _ h => h) hHeld (Or.inl ⟨rfl, ?_⟩) ?_
        rotate_left
        · (intro W hW; (try dsimp only at hW); go_simp; (try with_reducible rfl))
        try simp only [Act.put, List.setIfInBounds_toArray, List.set_cons_zero, List.set_cons_succ]
        refine' Ways.take (i := 4) (oi := ⟨_, _, _, _, _, _⟩) (v := _) rfl (by kernel_rfl) (by kernel_rfl) (by kernel_rfl) (by kernel_rfl) (fun _ _ _ h => h) hHeld (Or.inl ⟨rfl, ?_⟩) ?_
        rotate_left
        · (intro W hW; (try dsimp only at hW); go_simp; (try with_reducible rfl))
        try simp only [Act.put, List.setIfInBounds_toArray, List.set_cons_zero, List.set_cons_succ]
        refine' Ways.take (i := 5) (oi := ⟨_, _, _, _, _, _⟩) (v := _) rfl (by kernel_rfl) (by kernel_rfl) (by kernel_rfl) (by kernel_rfl) (fun _ _ _ h => h) hHeld (Or.inl ⟨rfl, ?_⟩) ?_
        rotate_left
        · (intro W hW; (try dsimp only at hW); go_simp; (try with_reducible rfl))
        try simp only [Act.put, List.setIfInBounds_toArray, List.set_cons_zero, List.set_cons_succ]
        refine Ways.one (i := 6) (by kernel_rfl) rfl (fun K hK => ?_)
        go_simp
        have kb0 := below_alloc w6 (.cells #[.int .i64 (n : Int), .slice A3 ne c3, .bool true] 127)
        have bb := Blk.new (B := 0) w6 127 #[.int .i64 (n : Int), .slice A3 ne c3, .bool true] (Nat.zero_le _)
        have bb := bb.turn (Turn.of_below (fun _ => False) (below_drew _)) id
        have kb := below_step kb0 (below_drew _)
        obtain ⟨w7, hw7⟩ : ∃ z, z = (w6.alloc (.cells #[.int .i64 (n : Int), .slice A3 ne c3, .bool true] 127)).drew := ⟨_, rfl⟩
        rw [← hw7] at kb bb ⊢
        clear kb0
        have hHeld7 : w7.cell? ⟨l, 2, none⟩ = some (.slice AS N cS) ∧ w7.cell? ⟨y, 0, none⟩ = some (.int .i64 (n : Int)) ∧ w7.cell? ⟨y, 1, none⟩ = some (.slice A3 ne c3) ∧ w7.cell? ⟨y, 2, none⟩ = some (.bool true) := ⟨(kb.cell (p := ⟨l, 2, none⟩) hl5).trans z2, (kb.cell (p := ⟨y, 0, none⟩) hy5).trans y0, (kb.cell (p := ⟨y, 1, none⟩) hy5).trans y1, (kb.cell (p := ⟨y, 2, none⟩) hy5).trans y2⟩
        refine hK.out _ _ hHeld7 ?_
        try simp only [List.setIfInBounds_toArray, List.set_cons_zero, List.set_cons_succ]
        refine Ways.one (i := 7) (by kernel_rfl) rfl (fun K3 hK3 => ?_)
        have P7 := (P5.out.below kb).mono (G' := fun q => G q ∨ w.heap.size ≤ q) (fun _ _ => .inl)
        have S7 := ((S5.out.turn (S := fun _ => False) (Turn.of_below _ kb) (fun _ _ => id) (fun _ _ _ => id)).mono (G' := fun q => G q ∨ w.heap.size ≤ q) (fun q _ h => .inr (by have := W24.out; omega)))
        have hfarE : ∀ q, (Value.slice A3 ne c3).ownBlock = some q → w2.heap.size ≤ q := fun q hq => S5.out.own q hq
        have hfar7 : ∀ x ∈ X, ∀ q, x.2.1.ownBlock = some q → (Value.slice A3 ne c3).ownBlock ≠ some q := fun x hx q hq e => by
          have h1 := HGW.out q ((P5.out.each x hx).own q hq)
          have h2 := hfarE q e
          have := W24.out
          omega
        refine step_append_sgm rfl (.tmp 47) (.tmp 49) rfl (fun q => G q ∨ w.heap.size ≤ q) (.slice AS N cS) X rfl P7 w6.heap.size n (.slice A3 ne c3) true es rfl (bb.cell 0) (bb.cell 1) (bb.cell 2) S7 hfar7 (by rw [← HN.out]; omega) ?_
        rintro v8 w8 p8 q8 g8 -
        have t8 := Turn.of_grown g8
        have B7 := B5.out.turn (Turn.of_below (fun _ => False) kb) id
        have hvl : ¬ some l = (Value.slice AS N cS).ownBlock := fun e => ownsRow_notIn P7.row B7 (by decide) e.symm
        have hvG : ∀ q, some q = (Value.slice AS N cS).ownBlock → G q := fun q e => P5.out.mine q e.symm
        have hvy : ¬ some y = (Value.slice AS N cS).ownBlock := fun e => by have := HGW.out y (hvG y e); have := HY.out.1; omega
        have B8 := hide (B7.turn t8 hvl)
        have BY8 := hide ((BY5.out.turn (Turn.of_below (fun _ => False) kb) id).turn t8 hvy)
        have D8 := hide ((D5.out.below kb).turn t8 (fun q hf e => HAP.out q hf (hvG q e)))
        have T8 : Hid (Turn (fun k => F k ∨ G k) w w8) := hide (((Turn.of_below _ K5.out).then (Turn.of_below (fun _ => False) kb) (fun _ => False.elim)).then t8 (fun q e => .inl (.inr (hvG q e))))
        have P8 := hide (p8.mono (G' := fun q => G q ∨ w.heap.size ≤ q) (fun q _ h => h.elim id (fun e => .inr (by have := kb.size; have := K5.out.size; omega))))
        obtain ⟨A8, c8, rfl⟩ := row_form p8.row
        have hN8 : (X ++ [((n, Value.slice A3 ne c3, true, es) : Sgp)]).length = N + 1 := by rw [List.length_append, ← HN.out]; rfl
        rw [hN8] at P8 ⊢
        have hH8 : w8.cell? ⟨l, 2, none⟩ = some (.slice AS N cS) ∧ w8.cell? ⟨y, 0, none⟩ = some (.int .i64 (n : Int)) ∧ w8.cell? ⟨y, 1, none⟩ = some (.slice A3 ne c3) ∧ w8.cell? ⟨y, 2, none⟩ = some (.bool true) := ⟨B8.out.cell 2, BY8.out.cell 0, BY8.out.cell 1, BY8.out.cell 2⟩
        refine hK3.out _ _ hH8 ?_
        try simp only [List.setIfInBounds_toArray, List.set_cons_zero, List.set_cons_succ]
        refine Ways.one (i := 8) (by kernel_rfl) rfl (fun K4 hK4 => ?_)
        go_simp
        refine hK4.out _ _ hH8 ?_
        try simp only [List.setIfInBounds_toArray, List.set_cons_zero, List.set_cons_succ]
        refine' Ways.take (i := 9) (oi := ⟨_, _, _, _, _, _⟩) (v := _) rfl (by kernel_rfl) (by kernel_rfl) (by kernel_rfl) (by kernel_rfl) (fun _ _ _ h => h) hH8 (Or.inl ⟨rfl, ?_⟩) ?_
        rotate_left
        · (intro W hW; (try dsimp only at hW); go_simp; (try with_reducible rfl))
        try simp only [Act.put, List.setIfInBounds_toArray, List.set_cons_zero, List.set_cons_succ]
        refine Ways.last (by kernel_rfl) rfl (by kernel_rfl) (fun K2x hK2x => ?_)
        have f2 := B8.out.frozen 2
        have r2 := B8.out.cell 2
        go_simp
        refine hK2x.out _ _ ?_
        try simp only [Act.put, List.setIfInBounds_toArray, List.set_cons_zero, List.set_cons_succ]
        have b9 := B8.out.stored 2 (.slice A8 (N + 1) c8)
        obtain ⟨w9, hw9⟩ : ∃ z, z = w8.setCell ⟨l, 2, none⟩ (.slice A8 (N + 1) c8) := ⟨_, rfl⟩
        have t9 : Turn (fun q => q = l) w8 w9 := by
          rw [hw9]
          exact (Turn.of_grown (grown_set w8 l _ _)).mono (fun q e => Option.some.inj e)
        rw [← hw9] at b9 ⊢
        have P9 := hide (P8.out.off t9 (fun q e => by rw [e]; exact blk_off B8.out))
        have D9 := hide (D8.out.turn t9 (fun q hf e => HAP.out q hf (e ▸ HGL.out)))
        have T9 := hide (T8.out.then t9 (fun q e => .inl (.inr (e ▸ HGL.out))))
        have hyl : ¬ y = l := fun e => by have := HGW.out l HGL.out; have := HY.out.1; omega
        have BY9 := hide (BY8.out.turn t9 hyl)
        have B9 := hide b9
        have S9 := P9.out.each (n, .slice A3 ne c3, true, es) (by simp)
        have yy0 := BY9.out.cell 0
        have yy1 := BY9.out.cell 1
        have HP9 := hide (pnext_any w9 y 0 n ne c3 A3 yy0 yy1 hn40 (by have := hes30.out; have := HNE.out; omega))
        obtain ⟨n2, hn2⟩ : ∃ q, q = n + ne := ⟨_, rfl⟩
        rw [← hn2] at HP9
        have HN2 := hide hn2
        have s0 : w9.cell? ⟨l, 0, none⟩ = some (.pointer (some ⟨dp, 0, none⟩)) := B9.out.cell 0
        have s3 : w9.cell? ⟨l, 3, none⟩ = some (.int .i64 (nx : Int)) := B9.out.cell 3
        have f3 := B9.out.frozen 3
        have hl9 := cell_lt s0
        clear hK hK3 hK4 hK2x kb bb hHeld hHeld7 P7 S7 hfar7 hfarE t8 B7 hvl hvG hvy p8 q8 g8 hN8 hH8 f2 r2 b9 t9 hyl hw7 hw9 hn2 z0 z2 y0 y1 y2 yy0 yy1 S9 hl5 hy5 hs56
        go_wp2_with fail
        refine HP9.out.mono ?_
        rintro e w10 ⟨rfl, d10, rfl⟩
        obtain ⟨w10, hw10⟩ : ∃ z, z = w9.drewN d10 := ⟨_, rfl⟩
        have k10 : Below w9.heap.size w9 w10 := by rw [hw10]; exact ⟨rfl, rfl, rfl, Nat.le_refl _, fun _ _ => rfl⟩
        rw [← hw10]
        have B10 := hide (B9.out.turn (Turn.of_below (fun _ => False) k10) id)
        have BY10 := hide (BY9.out.turn (Turn.of_below (fun _ => False) k10) id)
        have P10 := hide (P9.out.below k10)
        have D10 := hide (D9.out.below k10)
        have T10 := hide (T9.out.then (Turn.of_below (fun _ => False) k10) (fun _ => False.elim))
        have q3 : w10.cell? ⟨l, 3, none⟩ = some (.int .i64 (nx : Int)) := B10.out.cell 3
        have qf := B10.out.frozen 3
        have hl10 := cell_lt q3
        clear k10 hw10 s0 s3 f3
        go_wp2_with fail
        have b11 := B10.out.stored 3 (.int .i64 (n2 : Int))
        obtain ⟨w11, hw11⟩ : ∃ z, z = w10.setCell ⟨l, 3, none⟩ (.int .i64 (n2 : Int)) := ⟨_, rfl⟩
        have t11 : Turn (fun q => q = l) w10 w11 := by
          rw [hw11]
          exact (Turn.of_grown (grown_set w10 l _ _)).mono (fun q e => Option.some.inj e)
        rw [← hw11] at b11 ⊢
        have P11 := hide (P10.out.off t11 (fun q e => by rw [e]; exact blk_off B10.out))
        have D11 := hide (D10.out.turn t11 (fun q hf e => HAP.out q hf (e ▸ HGL.out)))
        have T11 := hide (T10.out.then t11 (fun q e => .inl (.inr (e ▸ HGL.out))))
        have hyl : ¬ y = l := fun e => by have := HGW.out l HGL.out; have := HY.out.1; omega
        have BY11 := hide (BY10.out.turn t11 hyl)
        have B11 := hide b11
        have u1 : w11.cell? ⟨y, 1, none⟩ = some (.slice A3 ne c3) := BY11.out.cell 1
        have hy11 := cell_lt u1
        have HPS11 := hide (show ∀ (W : World), Below w11.heap.size w11 W → Calls Tryz.prog 96 #[.pointer (some ⟨y, 0, none⟩)] W fun e w' => e = .returned (.int .i64 (zz : Int)) ∧ ∃ d, w' = W.drewN d from fun W k => by
          have h9 := psize_any W _ y 0 (.slice A3 ne c3) n es ((k.cell (p := ⟨y, 1, none⟩) hy11).trans u1) ((P11.out.each (n, .slice A3 ne c3, true, es) (by simp)).turn (S := fun _ => False) (Turn.of_below _ k) (fun _ _ => id) (fun _ _ _ => id)) (by rw [← HZZ.out]; omega)
          rw [← HZZ.out] at h9
          exact h9)
        clear b11 t11 hyl hw11 q3 qf u1
        refine (HPS11.out _ (Below.refl _ _)).mono ?_
        rintro e w12 ⟨rfl, d12, rfl⟩
        have k12 : Below w11.heap.size w11 (w11.drewN d12) := ⟨rfl, rfl, rfl, Nat.le_refl _, fun _ _ => rfl⟩
        obtain ⟨w12, hw12⟩ : ∃ z, z = w11.drewN d12 := ⟨_, rfl⟩
        rw [← hw12] at k12 ⊢
        have B12 := hide (B11.out.turn (Turn.of_below (fun _ => False) k12) id)
        have P12 := hide (P11.out.below k12)
        have D12 := hide (D11.out.below k12)
        have T12 := hide (T11.out.then (Turn.of_below (fun _ => False) k12) (fun _ => False.elim))
        have K12 := hide k12
        clear k12 hw12
        have o0 : w12.cell? ⟨l, 0, none⟩ = some (.pointer (some ⟨dp, 0, none⟩)) := B12.out.cell 0
        have hl12 := cell_lt o0
        go_wp2_with fail
        have O0 := hide o0
        go_region_held3 (fun W' => W'.cell? ⟨l, 0, none⟩ = some (.pointer (some ⟨dp, 0, none⟩))) (go_keep)
          (first
            | (go_at_call 96; refine (HPS11.out _ (K12.out.trans ((below_drew w12).mono K12.out.size))).mono ?_; rintro e w13 ⟨rfl, d13, rfl⟩; have k13 : Below w12.heap.size w12 (w12.drew.drewN d13) := (by exact ⟨rfl, rfl, rfl, Nat.le_refl _, fun _ _ => rfl⟩); obtain ⟨w13, hw13⟩ : ∃ z, z = w12.drew.drewN d13 := ⟨_, rfl⟩; rw [← hw13] at k13 ⊢; have D13 := hide (D12.out.below k13); have K13 := hide k13; have x0 := (k13.cell (p := ⟨l, 0, none⟩) hl12).trans O0.out; clear k13 hw13)
            | (go_at_call 99; refine (cutD_any F dp room _ t w13 D13.out TS (zz : Int)).mono ?_; rintro e w14 ⟨rfl, F14, d14, n14⟩; rw [TL.out] at d14 ⊢; have N14 := hide n14; have D14 := hide d14; have x0 := (n14.far (i := 0) (cell_lt x0) (fun hf => HAP.out l hf HGL.out)).trans x0; clear n14 d14))
        have hTF : Hid (Turn F w12 w14) := hide ((Turn.of_below _ K13.out).trans N14.out.turn)
        have F14W : Hid (∀ q, F14 q → F q ∨ w12.heap.size ≤ q) := hide (fun q hq => (N14.out.foot q hq).imp id (fun h => by have := K13.out.size; omega))
        have hwle : w.heap.size ≤ w12.heap.size := T12.out.size
        have B14 := hide (B12.out.turn hTF.out (fun hf => HAP.out l hf HGL.out))
        have P14 := hide ((P12.out.mono (G' := fun q => G q ∨ (w.heap.size ≤ q ∧ q < w12.heap.size)) (fun q hq h => h.imp id (fun h => ⟨h, hq⟩))).turn hTF.out (fun q hq hf => hq.elim (fun h => HAP.out q hf h) (fun h => by have := HFW.out q hf; omega)))
        have T14 := hide (T12.out.then hTF.out (fun q hf => .inl (.inl hf)))
        have hs14 := hTF.out.size
        clear x0
        go_wp2_with fail
        go_ret
        refine ⟨_, rfl, by rw [HR.out]; rfl, F14, fun q => G q ∨ (w.heap.size ≤ q ∧ q < w12.heap.size), ?_, T14.out, fun q hq => (F14W.out q hq).imp id (fun h => Nat.le_trans hwle h), fun q hq => hq.imp id (fun h => h.1)⟩
        rw [HR.out]
        have hlog := P14.out.log (by rw [HN2.out, HNE.out] at B14; exact B14.out) (.inl HGL.out) (fun q hq => hq.elim (fun h => by have := HGW.out q h; omega) (fun h => by omega))
        exact ⟨D14.out, ⟨_, _, by rw [List.map_append, ← HE.out]; rfl, hlog⟩, fun q hf hq => (F14W.out q hf).elim (fun h => hq.elim (HAP.out q h) (fun h2 => by have := HFW.out q h; omega)) (fun h => hq.elim (fun h2 => by have := HGW.out q h2; omega) (fun h2 => by omega))⟩
end Go.Proofs.YtejhoefmcldpnaaGreat
