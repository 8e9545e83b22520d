/- The contract of matrix's settle: one column is brought to One's. Condition: at most 64 rows. -/
import Derived.Test.YtpjocddeiehckaaDoorPr5
import Derived.Deep.RegionHeld3
namespace Go.Proofs.YtpjocddeiehckaaDoor
open Go.RowKit
set_option maxHeartbeats 6400000 in
set_option maxRecDepth 100000 in
theorem settle_any (B g n c' c : Nat) (a : Mat) (W : ML) (w : World) (hO : OwnMt w B (.slice (some ⟨g, 0, none⟩) n c') W) (hs : Shape W n (n + n)) (h2 : n ≤ 64) (hc : c < n) (hx : en W c c ≠ G.zero)
    (hcl : Clear n c 0 a (W.set c (scaleR (W.getD c []) (ginv (en W c c).n)))) (hB : B ≤ w.heap.size) :
    Calls Tryd.prog 73 #[.slice (some ⟨g, 0, none⟩) n c', .int .i64 (c : Int)] w fun e w' => e = .returned (.tuple #[]) ∧ ∃ W', OwnMt w' B (.slice (some ⟨g, 0, none⟩) n c') W' ∧ Half n (c + 1) a W' ∧ Below B w w' := by
  obtain ⟨m, hm⟩ : ∃ m, m = n + n := ⟨_, rfl⟩
  rw [← hm] at hs
  have HM := hide hm
  have hcm : c < m := by omega
  have hm8 : m ≤ 128 := by omega
  have hm1 : 1 ≤ m := by omega
  obtain ⟨bc, cc, q1, q2, q3, q4, q5, q6⟩ := hO.rowAt hs hm1 c hc
  have hrow := hs.row hc
  have qx := (q2.cells_ hrow.1 c).1 hcm
  rw [hs.num c c hc] at qx
  obtain ⟨x, hxe⟩ : ∃ x, x = (en W c c).n := ⟨_, rfl⟩
  have hx8 : x < 256 := by rw [hxe]; exact (en W c c).lt
  have hx0 : x ≠ 0 := fun e => hx (G.ext (by rw [← hxe, e]; rfl))
  rw [← hxe] at qx hcl
  have HI := hide (inv_some x w hx8 hx0)
  have hy8 : ginv x < 256 := ginv_lt hx8
  obtain ⟨y, hy⟩ : ∃ y, y = ginv x := ⟨_, rfl⟩
  rw [← hy] at HI hcl hy8
  have HSC := scale_any (some ⟨bc, 0, none⟩) m cc y (W.getD c []) w q2.isB.rd hrow.1 hrow.2 hy8 (by omega)
  rw [scaleR_part hrow.1] at HSC
  have HSC := hide HSC
  have HO := hide hO
  have HCL := hide hcl
  have HB := hide hB
  obtain ⟨Z, hZ⟩ : ∃ Z, Z = scaleR (W.getD c []) y := ⟨_, rfl⟩
  rw [← hZ] at HSC HCL
  clear hO hs hx hcl hB hrow hxe hy hZ q2 q4 q5 q6 hx8 hx0 hy8 hm
  go_enter Tryd.func73, Tryd.ntmps73
  go_wp2_with fail
  refine HI.out.mono ?_
  rintro e w1 ⟨rfl, rfl⟩
  go_wp2_with fail
  refine HSC.out.mono ?_
  rintro e w1 ⟨gz, rfl, o1, k1⟩
  have OM1 := HO.out.keep k1
  have f1 := (k1.frozen (p := ⟨g, c, none⟩) (cell_lt q1)).trans q3
  have c1 := (k1.cell (cell_lt q1)).trans q1
  have P1 := hide (OM1.put (o1.more HB.out) c)
  have K1 := hide (OM1.below (k := c) (u := .slice (some ⟨gz, 0, none⟩) m m) (k1.mono HB.out))
  clear OM1 o1 k1 q1 q3 HSC HO HI
  go_wp2_with fail
  go_loopw [30] (fun i wr => ∃ k : Nat, k ≤ n ∧ i = .int .i64 (k : Int) ∧ Hid (∃ V, OwnMt wr B (.slice (some ⟨g, 0, none⟩) n c') V ∧ Clear n c k a V) ∧ Hid (Below B w wr)) (fun i _ => n - (intOf i).toNat)
  case atStart => exact ⟨0, Nat.zero_le _, rfl, hide ⟨_, P1.out, HCL.out⟩, K1⟩
  case round =>
    obtain ⟨k, hk, rfl, hv, hbel⟩ := hrel
    by_cases hlt : k < n
    · obtain ⟨V, ov, cv⟩ := hv.out
      have sv := cv.half.shape
      rw [← HM.out] at sv
      obtain ⟨bk, ck, r1, r2, r3, r4, r5, r6⟩ := ov.rowAt sv hm1 k hlt
      have OV := hide ov
      have CV := hide cv
      have SV := hide sv
      clear ov cv sv hv
      by_cases e : k = c
      · subst e
        clear r2 r3 r4
        have hkk : ((k : Int) != (k : Int)) = false := by simp
        go_wp2_with fail
        go_roundw
        case rel => exact ⟨k + 1, by omega, by go_num, hide ⟨V, OV.out, CV.out.none (.inl rfl)⟩, hbel⟩
        case measure => simp [intOf]; omega
      · have hkc : ((k : Int) != (c : Int)) = true := by simp; omega
        have hrow := SV.out.row hlt
        have qx := (r2.cells_ hrow.1 c).1 hcm
        rw [SV.out.num k c hlt] at qx
        by_cases hz : en V k c = G.zero
        · have hz0 : ((en V k c).n : Int) = 0 := by rw [hz]; rfl
          rw [hz0] at qx
          have HZ := hide hz
          clear hz hz0 r2 r3 r4 hrow
          go_wp2_with fail
          go_roundw
          case rel => exact ⟨k + 1, by omega, by go_num, hide ⟨V, OV.out, CV.out.none (.inr HZ.out)⟩, hbel⟩
          case measure => simp [intOf]; omega
        · obtain ⟨b2, c2, s1, s2, s3, s4, s5, s6⟩ := OV.out.rowAt SV.out hm1 c hc
          have hrc := SV.out.row hc
          have NX := CV.out.next hc hlt e
          obtain ⟨t, ht⟩ : ∃ t, t = (en V k c).n := ⟨_, rfl⟩
          have ht8 : t < 256 := by rw [ht]; exact (en V k c).lt
          have ht0 : ((t : Int) != 0) = true := by
            have : t ≠ 0 := fun q => hz (G.ext (by rw [← ht, q]; rfl))
            simp; omega
          rw [← ht] at qx NX
          have HSC := hide (fun W (r : Below wr.heap.size wr W) => by
            have := scale_any (some ⟨b2, 0, none⟩) m c2 t (V.getD c []) W (s2.isB.keep r).rd hrc.1 hrc.2 ht8 (by omega)
            rw [scaleR_part hrc.1] at this
            exact this)
          have HAD := hide (fun W g2 (r : Below wr.heap.size wr W) (q : Own W wr.heap.size (.slice (some ⟨g2, 0, none⟩) m m) (scaleR (V.getD c []) t)) => by
            have := add_any (some ⟨bk, 0, none⟩) (some ⟨g2, 0, none⟩) m ck m (V.getD k []) (scaleR (V.getD c []) t) W (r2.isB.keep r).rd q.isB.rd hrow.1 (by rw [scaleR_len]; exact hrc.1) hrow.2 (scaleR_byte hrc.2) (by omega)
            rw [addR_part hrow.1] at this
            exact this)
          have KD := hide (below_drewN (Below.refl wr.heap.size wr) 1)
          have q1 : wr.drew.cell? ⟨g, c, none⟩ = some (.slice (some ⟨b2, 0, none⟩) m c2) := s1
          have q2 : wr.drew.cell? ⟨bk, c, none⟩ = some (.int .u8 (t : Int)) := qx
          have gl : g < wr.heap.size := cell_lt s1
          have HSZ := hide hbel.out.size
          have FR := hide r3
          have CK := hide r1
          have HNX := hide NX
          have hgb : ¬ g = bk := fun q => r4 q.symm
          have hbg : ¬ bk = g := r4
          have hck : ¬ c = k := fun q => e q.symm
          have HNE : Hid ((⟨g, k, none⟩ : Addr) ≠ ⟨g, c, none⟩) := fun q => hck (congrArg Addr.off q).symm
          clear r2 r3 r4 s2 s3 s4 hrow hrc NX ht hz
          go_wp2_with fail
          go_region_held3 (fun W' => W'.cell? ⟨g, c, none⟩ = some (.slice (some ⟨b2, 0, none⟩) m c2) ∧ W'.cell? ⟨bk, c, none⟩ = some (.int .u8 (t : Int))) (go_keep)
            (first
              | (go_at_call 78; refine (HSC.out wr.drew KD.out).mono ?_; rintro e w5 ⟨g5, rfl, o5, k5⟩; have q15 := (k5.cell (cell_lt q1)).trans q1; have q25 := (k5.cell (cell_lt q2)).trans q2; have K5 := hide (show Below wr.heap.size wr w5 from KD.out.trans (by exact ⟨k5.os, k5.tape, k5.output, k5.size, k5.block⟩)); have O5 := hide o5; clear o5 k5)
              | (go_at_call 79; refine (HAD.out w5 g5 K5.out O5.out).mono ?_; rintro e w6 ⟨g6, rfl, o6, k6⟩; have q16 := (k6.cell (cell_lt q15)).trans q15; have q26 := (k6.cell (cell_lt q25)).trans q25; have K6 := hide (K5.out.trans (k6.mono K5.out.size)); have f6 := (K6.out.frozen (p := ⟨g, k, none⟩) gl).trans FR.out; have c6 := (K6.out.cell (p := ⟨g, k, none⟩) gl).trans CK.out; have z6 : (w6.setCell ⟨g, k, none⟩ (.slice (some ⟨g6, 0, none⟩) m m)).cell? ⟨g, c, none⟩ = some (.slice (some ⟨b2, 0, none⟩) m c2) := ((World.cell?_setCell_other _ _ _ _ HNE.out).trans q16); have O6 := hide (o6.more K5.out.size); clear o6 k6))
          have P6 := hide ((OV.out.keep K6.out).put (O6.out.more (Nat.le_trans HB.out HSZ.out)) k)
          have K7 := hide ((OV.out.keep K6.out).below (k := k) (u := .slice (some ⟨g6, 0, none⟩) m m) (hbel.out.trans (K6.out.mono (Nat.le_trans HB.out HSZ.out))))
          obtain ⟨W7, hW7⟩ : ∃ W7, W7 = w6.setCell ⟨g, k, none⟩ (.slice (some ⟨g6, 0, none⟩) m m) := ⟨_, rfl⟩
          rw [← hW7] at P6 K7 ⊢
          clear hW7 z6 q16 q26 q15 q25 q1 q2 c6 f6
          go_wp2_with fail
          go_roundw
          case rel => exact ⟨k + 1, by omega, by go_num, hide ⟨_, P6.out, HNX.out⟩, K7⟩
          case measure => simp [intOf]; omega
    · obtain rfl : k = n := by omega
      go_wp2_with fail
      go_end0
      obtain ⟨V, ov, cv⟩ := hv.out
      exact ⟨rfl, V, ov, cv.done, hbel.out⟩
end Go.Proofs.YtpjocddeiehckaaDoor
