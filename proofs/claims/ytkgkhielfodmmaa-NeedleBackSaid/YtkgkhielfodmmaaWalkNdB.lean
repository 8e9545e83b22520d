/- The walk of the law NeedleBack: it returns true for any needle, any bytes behind it, any place and any byte. Condition: no row is longer than the form's reach. -/
import Derived.Test.YtkgkhielfodmmaaWalkNdC
namespace Go.Proofs.Ytkgkhielfodmmaa
open Go.RowKit
theorem xor8n (a b : Nat) (ha : a < 256) (hb : b < 256) : bits .xor .u8 (a : Int) (b : Int) = ((a ^^^ b : Nat) : Int) := u8_xor_nat a b ha hb
theorem ndDec_ok0 (w : World) (key cook : Nat) (d : Bool) (data : List Nat) (n : Nat) (e : Ending) (w' : World) (h : DecAns w ((key, cook, d, data), n, 0) e w') : ∃ s, e = .returned (.tuple #[.agg #[.int .u64 (key : Int), .int .u32 (cook : Int), .bool d, s], .int .i64 (n : Int), .int .i64 0]) ∧ Own w' w.heap.size s data ∧ Below w.heap.size w w' := h
theorem ndDec_wrong0 (w : World) (r : (Nat × Nat × Bool × List Nat) × Nat × Nat) (hr : r.2.2 = 3 ∨ r.2.2 = 4) (e : Ending) (w' : World) (h : DecAns w r e w') : ∃ (a b : Nat) (c : Bool) (s : Value) (m : Int) (g : Nat), e = .returned (.tuple #[.agg #[.int .u64 (a : Int), .int .u32 (b : Int), .bool c, s], .int .i64 m, .int .i64 (g : Int)]) ∧ (g = 3 ∨ g = 4) ∧ (∃ B ys, Own w' B s ys) ∧ Below w.heap.size w w' := by
  obtain ⟨s, he, ho, hb⟩ := h
  exact ⟨_, _, _, s, _, _, he, hr, ⟨_, _, ho⟩, hb⟩
set_option maxRecDepth 100000 in
set_option maxHeartbeats 6400000 in
theorem needleBack_core (key cook : Nat) (d : Bool) (A : Option Addr) (n c : Nat) (data : List Nat) (M : Option Addr) (l1 p1 : Nat) (more : List Nat) (z : Int) (b3 : Int) (k y : Nat) (w : World) (hA : IsB w (.slice A n c) data) (hn : data.length = n) (hb : ∀ x ∈ data, x < 256) (hk : key < 18446744073709551616) (hc : cook < 4294967296)
    (hM : IsB w (.slice M l1 p1) more) (hl1 : more.length = l1) (hb1 : ∀ x ∈ more, x < 256) (h5 : n ≤ 5000) (h6 : l1 ≤ 5000) (hd : ¬ (d = true ∧ 0 < n)) (m : Nat) (hm : m = ndSize n) (hkm : k < m) (hkz : z.tmod (m : Int) = (k : Int) ∨ z.tmod (m : Int) = (k : Int) - (m : Int)) (hy : y < 256) (hb3 : b3 = 0 ∧ y = 1 ∨ b3 = (y : Int) ∧ 1 ≤ y) :
    Calls Try.prog 5 #[.agg #[.int .u64 (key : Int), .int .u32 (cook : Int), .bool d, .slice A n c], .slice M l1 p1, .int .i64 z, .int .u8 b3] w fun e w' => e = .returned (.bool true) ∧ Below w.heap.size w w' := by
  obtain ⟨R, hR⟩ : ∃ R, R = needleL key cook d data := ⟨_, rfl⟩
  have hRl : R.length = m := by rw [hR, needleL_len _ _ _ _ (by omega), hn, hm]
  have hm2 : 32 ≤ m ∧ m ≤ 5036 := by have h1 := ndSize_le n; have h2 := ndSize_ge n (by omega); omega
  have hRb : ∀ x ∈ R, x < 256 := by rw [hR]; exact needleL_byte _ _ _ _ hb
  have hbk : ndDec (R ++ more) = ((key, cook, d, data), m, 0) := by rw [hR, dec_needle key cook d data more hk hc (by omega) (by rw [hn]; exact hd), hn, hm]
  have hwr : (ndDec (R.set k (R.getD k 0 ^^^ y))).2.2 = 3 ∨ (ndDec (R.set k (R.getD k 0 ^^^ y))).2.2 = 4 := by rw [hR]; exact dec_wrong key cook d data hb hk hc (by omega) (by rw [hn]; exact hd) k y (by rw [← hR, hRl]; exact hkm) hy (by omega)
  have hx256 : R.getD k 0 < 256 := by
    have e : R.getD k 0 = R[k]'(by omega) := by simp [show k < R.length by omega]
    rw [e]; exact hRb _ (List.getElem_mem _)
  obtain ⟨x, hx⟩ : ∃ x, x = R.getD k 0 := ⟨_, rfl⟩
  rw [← hx] at hwr hx256
  have hxy := xor8n x y hx256 hy
  have hz256 : x ^^^ y < 256 := Nat.xor_lt_two_pow (n := 8) hx256 hy
  obtain ⟨u, hu⟩ : ∃ u, u = x ^^^ y := ⟨_, rfl⟩
  rw [← hu] at hwr hxy hz256
  have HSB : Hid (∀ v ∈ R.set k u, v < 256) := hide (by
    intro v hv
    rcases List.mem_or_eq_of_mem_set hv with h | h
    · exact hRb v h
    · rw [h]; exact hz256)
  have HE := hide (And.intro hR (And.intro hRl (And.intro hRb (And.intro hbk (And.intro hwr hx)))))
  have kw := below_alloc w (.cells #[.int .u64 (key : Int), .int .u32 (cook : Int), .bool d, .slice A n c] 26)
  obtain ⟨c0, c1, c2, c3⟩ := box4 w (.int .u64 (key : Int)) (.int .u32 (cook : Int)) (.bool d) (.slice A n c) 26 _ rfl
  obtain ⟨W, hW⟩ : ∃ W, W = w.alloc (.cells #[.int .u64 (key : Int), .int .u32 (cook : Int), .bool d, .slice A n c] 26) := ⟨_, rfl⟩
  rw [← hW] at kw c0 c1 c2 c3
  have hwl : w.heap.size < W.heap.size := by rw [hW]; simp
  have HA := hide (hA.keep kw)
  have HM := hide (hM.keep kw)
  have HN := hide hn
  have HB := hide hb
  have HL1 := hide hl1
  have HB1 := hide hb1
  have KW := hide kw
  have HW := hide hW
  have HC := hide (And.intro c0 (And.intro c1 (And.intro c2 c3)))
  have q3 : ((m : Int) != (m : Int)) = false := by simp
  obtain ⟨h32, hmle⟩ := hm2
  have hm0 : ((m : Int) == 0) = false := by simp only [beq_eq_false_iff_ne, ne_eq]; omega
  obtain ⟨r, hr⟩ : ∃ r, r = z.tmod (m : Int) := ⟨_, rfl⟩
  have htm : (z.tmod (m : Int)) = r := hr.symm
  rw [← hr] at hkz
  have hgo : ¬ (r < 0) ∧ r = (k : Int) ∨ r < 0 ∧ r + (m : Int) = (k : Int) := by omega
  clear hA hn hb hM hl1 hb1 hR hRl hm hRb hbk hwr hx hu kw hr hkz hW
  rcases hgo with ⟨hneg, hrk⟩ | ⟨hneg, hrk⟩
  · subst hrk
    rcases hb3 with ⟨rfl, rfl⟩ | ⟨rfl, hy1⟩
    · have hxy1 : bits .xor .u8 (x : Int) 1 = (u : Int) := hxy
      clear hxy
      go_enter Try.func5, Try.ntmps5
      go_wp2_with fail
      rw [← HW.out]
      refine (ndenc_ok key cook d A n c data _ HA.out HN.out HB.out hk hc (by omega) hd).mono ?_
      rw [← HE.out.1]
      rintro e w1 ⟨s1, rfl, o1, k1⟩
      obtain ⟨g, cc, rfl, hg, hc1, hc2, _, _⟩ := o1.at_ (n := m) HE.out.2.1 (by omega)
      have O1 := hide o1
      have K1 := hide (below_step KW.out k1)
      have LW : Hid (w.heap.size < w1.heap.size) := hide (Nat.lt_of_lt_of_le hwl k1.size)
      have HC1 : Hid (w1.cell? ⟨w.heap.size, 0, none⟩ = some (.int .u64 (key : Int)) ∧ w1.cell? ⟨w.heap.size, 1, none⟩ = some (.int .u32 (cook : Int)) ∧ w1.cell? ⟨w.heap.size, 2, none⟩ = some (.bool d) ∧ w1.cell? ⟨w.heap.size, 3, none⟩ = some (.slice A n c)) := hide ⟨(k1.cell (p := ⟨w.heap.size, 0, none⟩) hwl).trans HC.out.1, (k1.cell (p := ⟨w.heap.size, 1, none⟩) hwl).trans HC.out.2.1, (k1.cell (p := ⟨w.heap.size, 2, none⟩) hwl).trans HC.out.2.2.1, (k1.cell (p := ⟨w.heap.size, 3, none⟩) hwl).trans HC.out.2.2.2⟩
      have I0 := hide (HA.out.keep k1)
      have IM := hide (HM.out.keep k1)
      have GE : Hid (W.heap.size ≤ g) := hide hg
      clear o1 k1 c0 c1 c2 c3 hg
      go_wp2_with (at_builtin; refine halt ?_)
      refine ⟨?_⟩
      have nb := below_alloc w1 (.cells #[] 5)
      refine wpList_append_bytes rfl (.tmp 44) (.tmp 45) rfl w1.heap.size _ [] rfl (own_lit w1 #[] [] rfl (by decide)) _ R rfl (O1.out.isB.keep nb) (by rw [HE.out.2.1, List.length_nil]; omega) nb.size ?_
      intro s2 w2 o2 k2
      rw [List.nil_append] at o2
      have nb2 := nb.trans k2
      go_wp2_with (at_builtin; refine halt ?_)
      refine ⟨?_⟩
      refine wpList_append_bytes rfl (.tmp 46) (.tmp 47) rfl w1.heap.size _ R rfl o2 _ more rfl (IM.out.keep nb2) (by rw [HE.out.2.1, HL1.out]; omega) nb2.size ?_
      intro s3 w3 o3 k3
      have nb3 := nb2.trans k3
      obtain ⟨A3, f3, rfl, i3, l3, m3⟩ := o3.isB.form (n := m + l1) (by rw [List.length_append, HE.out.2.1, HL1.out])
      have I3 := hide i3
      have O1 := hide (O1.out.keep nb3)
      have I0 := hide (I0.out.keep nb3)
      have K3 := hide (below_step K1.out nb3)
      have LW3 : Hid (w.heap.size < w3.heap.size) := hide (Nat.lt_of_lt_of_le LW.out nb3.size)
      have HC3 : Hid (w3.cell? ⟨w.heap.size, 0, none⟩ = some (.int .u64 (key : Int)) ∧ w3.cell? ⟨w.heap.size, 1, none⟩ = some (.int .u32 (cook : Int)) ∧ w3.cell? ⟨w.heap.size, 2, none⟩ = some (.bool d) ∧ w3.cell? ⟨w.heap.size, 3, none⟩ = some (.slice A n c)) := hide ⟨(nb3.cell (p := ⟨w.heap.size, 0, none⟩) LW.out).trans HC1.out.1, (nb3.cell (p := ⟨w.heap.size, 1, none⟩) LW.out).trans HC1.out.2.1, (nb3.cell (p := ⟨w.heap.size, 2, none⟩) LW.out).trans HC1.out.2.2.1, (nb3.cell (p := ⟨w.heap.size, 3, none⟩) LW.out).trans HC1.out.2.2.2⟩
      clear nb nb2 nb3 o2 o3 k2 k3 i3 K1 IM HC1
      go_wp2_with fail
      refine (nddec_any A3 (m + l1) f3 (R ++ more) w3 I3.out (byte_app HE.out.2.2.1 HB1.out) (by omega)).mono ?_
      intro e w4 hda
      rw [HE.out.2.2.2.1] at hda
      obtain ⟨s4, rfl, o4, k4⟩ := ndDec_ok0 _ _ _ _ _ _ _ _ hda
      obtain ⟨A4, f4, rfl, i4, _, _⟩ := o4.isB.form (n := n) HN.out
      have ka := below_alloc w4 (.cells #[.int .u64 (key : Int), .int .u32 (cook : Int), .bool d, .slice A4 n f4] 26)
      have kk := below_step k4 ka
      have I4 := hide (i4.keep ka)
      have I0 := hide (I0.out.keep kk)
      have O1 := hide (O1.out.keep kk)
      have K4 := hide (below_step K3.out kk)
      have x0 := (k4.cell (p := ⟨w.heap.size, 0, none⟩) LW3.out).trans HC3.out.1
      have x1 := (k4.cell (p := ⟨w.heap.size, 1, none⟩) LW3.out).trans HC3.out.2.1
      have x2 := (k4.cell (p := ⟨w.heap.size, 2, none⟩) LW3.out).trans HC3.out.2.2.1
      have x3 := (k4.cell (p := ⟨w.heap.size, 3, none⟩) LW3.out).trans HC3.out.2.2.2
      have lw4 : w.heap.size < w4.heap.size := Nat.lt_of_lt_of_le LW3.out k4.size
      clear hda o4 k4 ka kk i4 K3 I3
      go_wp2_with fail
      refine (needles_same key cook d A A4 n c f4 data _ I0.out I4.out).mono ?_
      rintro e w5 ⟨rfl, k5⟩
      have O1 := hide (O1.out.keep k5)
      have K5 := hide (below_step K4.out k5)
      obtain ⟨g', c', e', _, _, _, cells, hfr⟩ := O1.out.at_ (n := m) HE.out.2.1 (by omega)
      cases e'
      have ck := cells k hkm
      rw [← HE.out.2.2.2.2.2] at ck
      have fk := hfr k
      have O2 := hide (O1.out.stored HE.out.2.1 k u)
      have K6 : Hid (Below w.heap.size w (w5.setCell ⟨g, k, none⟩ (.int .u8 (u : Int)))) := hide (by
        have hle : w.heap.size ≤ (⟨g, k, none⟩ : Addr).block := Nat.le_trans (Nat.le_of_lt hwl) GE.out
        exact K5.out.setCell hle _)
      clear cells hfr O1 x0 x1 x2 x3 lw4 k5 K4 I0 I4
      go_wp2_with fail
      have HL5 : Hid ((R.set k u).length = m) := hide (by rw [List.length_set, HE.out.2.1])
      have I5 : Hid (IsB (w5.setCell ⟨g, k, none⟩ (.int .u8 (u : Int))) (.slice (some ⟨g, 0, none⟩) m cc) (R.set k u)) := hide O2.out.isB
      refine (nddec_any _ m cc (R.set k u) _ I5.out HSB.out (by omega)).mono ?_
      intro e w6 hda
      obtain ⟨ra, rb, rc, rs, rm, rg, rfl, hrg, ⟨B9, ys, o9⟩, k6⟩ := ndDec_wrong0 _ _ HE.out.2.2.2.2.1 _ _ hda
      obtain ⟨A9, f9, rfl, _, _⟩ := o9.isB.form (n := ys.length) rfl
      have K7 := hide (below_step K6.out k6)
      clear hda o9 k6 I5 O2
      have kal := hide (fun o => below_step K7.out (below_alloc w6 o))
      rcases hrg with rfl | rfl
      all_goals
        go_wp2_with fail
        refine (known_any _).mono ?_
        rintro e w7 ⟨rfl, k7⟩
        go_wp2_with fail
        go_ret
        exact ⟨rfl, below_step (kal.out _) k7⟩
    · have g2 : ((y : Int) == 0) = false := by simp only [beq_eq_false_iff_ne, ne_eq]; omega
      go_enter Try.func5, Try.ntmps5
      go_wp2_with fail
      rw [← HW.out]
      refine (ndenc_ok key cook d A n c data _ HA.out HN.out HB.out hk hc (by omega) hd).mono ?_
      rw [← HE.out.1]
      rintro e w1 ⟨s1, rfl, o1, k1⟩
      obtain ⟨g, cc, rfl, hg, hc1, hc2, _, _⟩ := o1.at_ (n := m) HE.out.2.1 (by omega)
      have O1 := hide o1
      have K1 := hide (below_step KW.out k1)
      have LW : Hid (w.heap.size < w1.heap.size) := hide (Nat.lt_of_lt_of_le hwl k1.size)
      have HC1 : Hid (w1.cell? ⟨w.heap.size, 0, none⟩ = some (.int .u64 (key : Int)) ∧ w1.cell? ⟨w.heap.size, 1, none⟩ = some (.int .u32 (cook : Int)) ∧ w1.cell? ⟨w.heap.size, 2, none⟩ = some (.bool d) ∧ w1.cell? ⟨w.heap.size, 3, none⟩ = some (.slice A n c)) := hide ⟨(k1.cell (p := ⟨w.heap.size, 0, none⟩) hwl).trans HC.out.1, (k1.cell (p := ⟨w.heap.size, 1, none⟩) hwl).trans HC.out.2.1, (k1.cell (p := ⟨w.heap.size, 2, none⟩) hwl).trans HC.out.2.2.1, (k1.cell (p := ⟨w.heap.size, 3, none⟩) hwl).trans HC.out.2.2.2⟩
      have I0 := hide (HA.out.keep k1)
      have IM := hide (HM.out.keep k1)
      have GE : Hid (W.heap.size ≤ g) := hide hg
      clear o1 k1 c0 c1 c2 c3 hg
      go_wp2_with (at_builtin; refine halt ?_)
      refine ⟨?_⟩
      have nb := below_alloc w1 (.cells #[] 5)
      refine wpList_append_bytes rfl (.tmp 44) (.tmp 45) rfl w1.heap.size _ [] rfl (own_lit w1 #[] [] rfl (by decide)) _ R rfl (O1.out.isB.keep nb) (by rw [HE.out.2.1, List.length_nil]; omega) nb.size ?_
      intro s2 w2 o2 k2
      rw [List.nil_append] at o2
      have nb2 := nb.trans k2
      go_wp2_with (at_builtin; refine halt ?_)
      refine ⟨?_⟩
      refine wpList_append_bytes rfl (.tmp 46) (.tmp 47) rfl w1.heap.size _ R rfl o2 _ more rfl (IM.out.keep nb2) (by rw [HE.out.2.1, HL1.out]; omega) nb2.size ?_
      intro s3 w3 o3 k3
      have nb3 := nb2.trans k3
      obtain ⟨A3, f3, rfl, i3, l3, m3⟩ := o3.isB.form (n := m + l1) (by rw [List.length_append, HE.out.2.1, HL1.out])
      have I3 := hide i3
      have O1 := hide (O1.out.keep nb3)
      have I0 := hide (I0.out.keep nb3)
      have K3 := hide (below_step K1.out nb3)
      have LW3 : Hid (w.heap.size < w3.heap.size) := hide (Nat.lt_of_lt_of_le LW.out nb3.size)
      have HC3 : Hid (w3.cell? ⟨w.heap.size, 0, none⟩ = some (.int .u64 (key : Int)) ∧ w3.cell? ⟨w.heap.size, 1, none⟩ = some (.int .u32 (cook : Int)) ∧ w3.cell? ⟨w.heap.size, 2, none⟩ = some (.bool d) ∧ w3.cell? ⟨w.heap.size, 3, none⟩ = some (.slice A n c)) := hide ⟨(nb3.cell (p := ⟨w.heap.size, 0, none⟩) LW.out).trans HC1.out.1, (nb3.cell (p := ⟨w.heap.size, 1, none⟩) LW.out).trans HC1.out.2.1, (nb3.cell (p := ⟨w.heap.size, 2, none⟩) LW.out).trans HC1.out.2.2.1, (nb3.cell (p := ⟨w.heap.size, 3, none⟩) LW.out).trans HC1.out.2.2.2⟩
      clear nb nb2 nb3 o2 o3 k2 k3 i3 K1 IM HC1
      go_wp2_with fail
      refine (nddec_any A3 (m + l1) f3 (R ++ more) w3 I3.out (byte_app HE.out.2.2.1 HB1.out) (by omega)).mono ?_
      intro e w4 hda
      rw [HE.out.2.2.2.1] at hda
      obtain ⟨s4, rfl, o4, k4⟩ := ndDec_ok0 _ _ _ _ _ _ _ _ hda
      obtain ⟨A4, f4, rfl, i4, _, _⟩ := o4.isB.form (n := n) HN.out
      have ka := below_alloc w4 (.cells #[.int .u64 (key : Int), .int .u32 (cook : Int), .bool d, .slice A4 n f4] 26)
      have kk := below_step k4 ka
      have I4 := hide (i4.keep ka)
      have I0 := hide (I0.out.keep kk)
      have O1 := hide (O1.out.keep kk)
      have K4 := hide (below_step K3.out kk)
      have x0 := (k4.cell (p := ⟨w.heap.size, 0, none⟩) LW3.out).trans HC3.out.1
      have x1 := (k4.cell (p := ⟨w.heap.size, 1, none⟩) LW3.out).trans HC3.out.2.1
      have x2 := (k4.cell (p := ⟨w.heap.size, 2, none⟩) LW3.out).trans HC3.out.2.2.1
      have x3 := (k4.cell (p := ⟨w.heap.size, 3, none⟩) LW3.out).trans HC3.out.2.2.2
      have lw4 : w.heap.size < w4.heap.size := Nat.lt_of_lt_of_le LW3.out k4.size
      clear hda o4 k4 ka kk i4 K3 I3
      go_wp2_with fail
      refine (needles_same key cook d A A4 n c f4 data _ I0.out I4.out).mono ?_
      rintro e w5 ⟨rfl, k5⟩
      have O1 := hide (O1.out.keep k5)
      have K5 := hide (below_step K4.out k5)
      obtain ⟨g', c', e', _, _, _, cells, hfr⟩ := O1.out.at_ (n := m) HE.out.2.1 (by omega)
      cases e'
      have ck := cells k hkm
      rw [← HE.out.2.2.2.2.2] at ck
      have fk := hfr k
      have O2 := hide (O1.out.stored HE.out.2.1 k u)
      have K6 : Hid (Below w.heap.size w (w5.setCell ⟨g, k, none⟩ (.int .u8 (u : Int)))) := hide (by
        have hle : w.heap.size ≤ (⟨g, k, none⟩ : Addr).block := Nat.le_trans (Nat.le_of_lt hwl) GE.out
        exact K5.out.setCell hle _)
      clear cells hfr O1 x0 x1 x2 x3 lw4 k5 K4 I0 I4
      go_wp2_with fail
      have HL5 : Hid ((R.set k u).length = m) := hide (by rw [List.length_set, HE.out.2.1])
      have I5 : Hid (IsB (w5.setCell ⟨g, k, none⟩ (.int .u8 (u : Int))) (.slice (some ⟨g, 0, none⟩) m cc) (R.set k u)) := hide O2.out.isB
      refine (nddec_any _ m cc (R.set k u) _ I5.out HSB.out (by omega)).mono ?_
      intro e w6 hda
      obtain ⟨ra, rb, rc, rs, rm, rg, rfl, hrg, ⟨B9, ys, o9⟩, k6⟩ := ndDec_wrong0 _ _ HE.out.2.2.2.2.1 _ _ hda
      obtain ⟨A9, f9, rfl, _, _⟩ := o9.isB.form (n := ys.length) rfl
      have K7 := hide (below_step K6.out k6)
      clear hda o9 k6 I5 O2
      have kal := hide (fun o => below_step K7.out (below_alloc w6 o))
      rcases hrg with rfl | rfl
      all_goals
        go_wp2_with fail
        refine (known_any _).mono ?_
        rintro e w7 ⟨rfl, k7⟩
        go_wp2_with fail
        go_ret
        exact ⟨rfl, below_step (kal.out _) k7⟩
  · have htok : True := trivial
    rcases hb3 with ⟨rfl, rfl⟩ | ⟨rfl, hy1⟩
    · have hxy1 : bits .xor .u8 (x : Int) 1 = (u : Int) := hxy
      clear hxy
      go_enter Try.func5, Try.ntmps5
      go_wp2_with fail
      rw [← HW.out]
      refine (ndenc_ok key cook d A n c data _ HA.out HN.out HB.out hk hc (by omega) hd).mono ?_
      rw [← HE.out.1]
      rintro e w1 ⟨s1, rfl, o1, k1⟩
      obtain ⟨g, cc, rfl, hg, hc1, hc2, _, _⟩ := o1.at_ (n := m) HE.out.2.1 (by omega)
      have O1 := hide o1
      have K1 := hide (below_step KW.out k1)
      have LW : Hid (w.heap.size < w1.heap.size) := hide (Nat.lt_of_lt_of_le hwl k1.size)
      have HC1 : Hid (w1.cell? ⟨w.heap.size, 0, none⟩ = some (.int .u64 (key : Int)) ∧ w1.cell? ⟨w.heap.size, 1, none⟩ = some (.int .u32 (cook : Int)) ∧ w1.cell? ⟨w.heap.size, 2, none⟩ = some (.bool d) ∧ w1.cell? ⟨w.heap.size, 3, none⟩ = some (.slice A n c)) := hide ⟨(k1.cell (p := ⟨w.heap.size, 0, none⟩) hwl).trans HC.out.1, (k1.cell (p := ⟨w.heap.size, 1, none⟩) hwl).trans HC.out.2.1, (k1.cell (p := ⟨w.heap.size, 2, none⟩) hwl).trans HC.out.2.2.1, (k1.cell (p := ⟨w.heap.size, 3, none⟩) hwl).trans HC.out.2.2.2⟩
      have I0 := hide (HA.out.keep k1)
      have IM := hide (HM.out.keep k1)
      have GE : Hid (W.heap.size ≤ g) := hide hg
      clear o1 k1 c0 c1 c2 c3 hg
      go_wp2_with (at_builtin; refine halt ?_)
      refine ⟨?_⟩
      have nb := below_alloc w1 (.cells #[] 5)
      refine wpList_append_bytes rfl (.tmp 44) (.tmp 45) rfl w1.heap.size _ [] rfl (own_lit w1 #[] [] rfl (by decide)) _ R rfl (O1.out.isB.keep nb) (by rw [HE.out.2.1, List.length_nil]; omega) nb.size ?_
      intro s2 w2 o2 k2
      rw [List.nil_append] at o2
      have nb2 := nb.trans k2
      go_wp2_with (at_builtin; refine halt ?_)
      refine ⟨?_⟩
      refine wpList_append_bytes rfl (.tmp 46) (.tmp 47) rfl w1.heap.size _ R rfl o2 _ more rfl (IM.out.keep nb2) (by rw [HE.out.2.1, HL1.out]; omega) nb2.size ?_
      intro s3 w3 o3 k3
      have nb3 := nb2.trans k3
      obtain ⟨A3, f3, rfl, i3, l3, m3⟩ := o3.isB.form (n := m + l1) (by rw [List.length_append, HE.out.2.1, HL1.out])
      have I3 := hide i3
      have O1 := hide (O1.out.keep nb3)
      have I0 := hide (I0.out.keep nb3)
      have K3 := hide (below_step K1.out nb3)
      have LW3 : Hid (w.heap.size < w3.heap.size) := hide (Nat.lt_of_lt_of_le LW.out nb3.size)
      have HC3 : Hid (w3.cell? ⟨w.heap.size, 0, none⟩ = some (.int .u64 (key : Int)) ∧ w3.cell? ⟨w.heap.size, 1, none⟩ = some (.int .u32 (cook : Int)) ∧ w3.cell? ⟨w.heap.size, 2, none⟩ = some (.bool d) ∧ w3.cell? ⟨w.heap.size, 3, none⟩ = some (.slice A n c)) := hide ⟨(nb3.cell (p := ⟨w.heap.size, 0, none⟩) LW.out).trans HC1.out.1, (nb3.cell (p := ⟨w.heap.size, 1, none⟩) LW.out).trans HC1.out.2.1, (nb3.cell (p := ⟨w.heap.size, 2, none⟩) LW.out).trans HC1.out.2.2.1, (nb3.cell (p := ⟨w.heap.size, 3, none⟩) LW.out).trans HC1.out.2.2.2⟩
      clear nb nb2 nb3 o2 o3 k2 k3 i3 K1 IM HC1
      go_wp2_with fail
      refine (nddec_any A3 (m + l1) f3 (R ++ more) w3 I3.out (byte_app HE.out.2.2.1 HB1.out) (by omega)).mono ?_
      intro e w4 hda
      rw [HE.out.2.2.2.1] at hda
      obtain ⟨s4, rfl, o4, k4⟩ := ndDec_ok0 _ _ _ _ _ _ _ _ hda
      obtain ⟨A4, f4, rfl, i4, _, _⟩ := o4.isB.form (n := n) HN.out
      have ka := below_alloc w4 (.cells #[.int .u64 (key : Int), .int .u32 (cook : Int), .bool d, .slice A4 n f4] 26)
      have kk := below_step k4 ka
      have I4 := hide (i4.keep ka)
      have I0 := hide (I0.out.keep kk)
      have O1 := hide (O1.out.keep kk)
      have K4 := hide (below_step K3.out kk)
      have x0 := (k4.cell (p := ⟨w.heap.size, 0, none⟩) LW3.out).trans HC3.out.1
      have x1 := (k4.cell (p := ⟨w.heap.size, 1, none⟩) LW3.out).trans HC3.out.2.1
      have x2 := (k4.cell (p := ⟨w.heap.size, 2, none⟩) LW3.out).trans HC3.out.2.2.1
      have x3 := (k4.cell (p := ⟨w.heap.size, 3, none⟩) LW3.out).trans HC3.out.2.2.2
      have lw4 : w.heap.size < w4.heap.size := Nat.lt_of_lt_of_le LW3.out k4.size
      clear hda o4 k4 ka kk i4 K3 I3
      go_wp2_with fail
      refine (needles_same key cook d A A4 n c f4 data _ I0.out I4.out).mono ?_
      rintro e w5 ⟨rfl, k5⟩
      have O1 := hide (O1.out.keep k5)
      have K5 := hide (below_step K4.out k5)
      obtain ⟨g', c', e', _, _, _, cells, hfr⟩ := O1.out.at_ (n := m) HE.out.2.1 (by omega)
      cases e'
      have ck := cells k hkm
      rw [← HE.out.2.2.2.2.2] at ck
      have fk := hfr k
      have O2 := hide (O1.out.stored HE.out.2.1 k u)
      have K6 : Hid (Below w.heap.size w (w5.setCell ⟨g, k, none⟩ (.int .u8 (u : Int)))) := hide (by
        have hle : w.heap.size ≤ (⟨g, k, none⟩ : Addr).block := Nat.le_trans (Nat.le_of_lt hwl) GE.out
        exact K5.out.setCell hle _)
      clear cells hfr O1 x0 x1 x2 x3 lw4 k5 K4 I0 I4
      go_wp2_with fail
      have HL5 : Hid ((R.set k u).length = m) := hide (by rw [List.length_set, HE.out.2.1])
      have I5 : Hid (IsB (w5.setCell ⟨g, k, none⟩ (.int .u8 (u : Int))) (.slice (some ⟨g, 0, none⟩) m cc) (R.set k u)) := hide O2.out.isB
      refine (nddec_any _ m cc (R.set k u) _ I5.out HSB.out (by omega)).mono ?_
      intro e w6 hda
      obtain ⟨ra, rb, rc, rs, rm, rg, rfl, hrg, ⟨B9, ys, o9⟩, k6⟩ := ndDec_wrong0 _ _ HE.out.2.2.2.2.1 _ _ hda
      obtain ⟨A9, f9, rfl, _, _⟩ := o9.isB.form (n := ys.length) rfl
      have K7 := hide (below_step K6.out k6)
      clear hda o9 k6 I5 O2
      have kal := hide (fun o => below_step K7.out (below_alloc w6 o))
      rcases hrg with rfl | rfl
      all_goals
        go_wp2_with fail
        refine (known_any _).mono ?_
        rintro e w7 ⟨rfl, k7⟩
        go_wp2_with fail
        go_ret
        exact ⟨rfl, below_step (kal.out _) k7⟩
    · have g2 : ((y : Int) == 0) = false := by simp only [beq_eq_false_iff_ne, ne_eq]; omega
      go_enter Try.func5, Try.ntmps5
      go_wp2_with fail
      rw [← HW.out]
      refine (ndenc_ok key cook d A n c data _ HA.out HN.out HB.out hk hc (by omega) hd).mono ?_
      rw [← HE.out.1]
      rintro e w1 ⟨s1, rfl, o1, k1⟩
      obtain ⟨g, cc, rfl, hg, hc1, hc2, _, _⟩ := o1.at_ (n := m) HE.out.2.1 (by omega)
      have O1 := hide o1
      have K1 := hide (below_step KW.out k1)
      have LW : Hid (w.heap.size < w1.heap.size) := hide (Nat.lt_of_lt_of_le hwl k1.size)
      have HC1 : Hid (w1.cell? ⟨w.heap.size, 0, none⟩ = some (.int .u64 (key : Int)) ∧ w1.cell? ⟨w.heap.size, 1, none⟩ = some (.int .u32 (cook : Int)) ∧ w1.cell? ⟨w.heap.size, 2, none⟩ = some (.bool d) ∧ w1.cell? ⟨w.heap.size, 3, none⟩ = some (.slice A n c)) := hide ⟨(k1.cell (p := ⟨w.heap.size, 0, none⟩) hwl).trans HC.out.1, (k1.cell (p := ⟨w.heap.size, 1, none⟩) hwl).trans HC.out.2.1, (k1.cell (p := ⟨w.heap.size, 2, none⟩) hwl).trans HC.out.2.2.1, (k1.cell (p := ⟨w.heap.size, 3, none⟩) hwl).trans HC.out.2.2.2⟩
      have I0 := hide (HA.out.keep k1)
      have IM := hide (HM.out.keep k1)
      have GE : Hid (W.heap.size ≤ g) := hide hg
      clear o1 k1 c0 c1 c2 c3 hg
      go_wp2_with (at_builtin; refine halt ?_)
      refine ⟨?_⟩
      have nb := below_alloc w1 (.cells #[] 5)
      refine wpList_append_bytes rfl (.tmp 44) (.tmp 45) rfl w1.heap.size _ [] rfl (own_lit w1 #[] [] rfl (by decide)) _ R rfl (O1.out.isB.keep nb) (by rw [HE.out.2.1, List.length_nil]; omega) nb.size ?_
      intro s2 w2 o2 k2
      rw [List.nil_append] at o2
      have nb2 := nb.trans k2
      go_wp2_with (at_builtin; refine halt ?_)
      refine ⟨?_⟩
      refine wpList_append_bytes rfl (.tmp 46) (.tmp 47) rfl w1.heap.size _ R rfl o2 _ more rfl (IM.out.keep nb2) (by rw [HE.out.2.1, HL1.out]; omega) nb2.size ?_
      intro s3 w3 o3 k3
      have nb3 := nb2.trans k3
      obtain ⟨A3, f3, rfl, i3, l3, m3⟩ := o3.isB.form (n := m + l1) (by rw [List.length_append, HE.out.2.1, HL1.out])
      have I3 := hide i3
      have O1 := hide (O1.out.keep nb3)
      have I0 := hide (I0.out.keep nb3)
      have K3 := hide (below_step K1.out nb3)
      have LW3 : Hid (w.heap.size < w3.heap.size) := hide (Nat.lt_of_lt_of_le LW.out nb3.size)
      have HC3 : Hid (w3.cell? ⟨w.heap.size, 0, none⟩ = some (.int .u64 (key : Int)) ∧ w3.cell? ⟨w.heap.size, 1, none⟩ = some (.int .u32 (cook : Int)) ∧ w3.cell? ⟨w.heap.size, 2, none⟩ = some (.bool d) ∧ w3.cell? ⟨w.heap.size, 3, none⟩ = some (.slice A n c)) := hide ⟨(nb3.cell (p := ⟨w.heap.size, 0, none⟩) LW.out).trans HC1.out.1, (nb3.cell (p := ⟨w.heap.size, 1, none⟩) LW.out).trans HC1.out.2.1, (nb3.cell (p := ⟨w.heap.size, 2, none⟩) LW.out).trans HC1.out.2.2.1, (nb3.cell (p := ⟨w.heap.size, 3, none⟩) LW.out).trans HC1.out.2.2.2⟩
      clear nb nb2 nb3 o2 o3 k2 k3 i3 K1 IM HC1
      go_wp2_with fail
      refine (nddec_any A3 (m + l1) f3 (R ++ more) w3 I3.out (byte_app HE.out.2.2.1 HB1.out) (by omega)).mono ?_
      intro e w4 hda
      rw [HE.out.2.2.2.1] at hda
      obtain ⟨s4, rfl, o4, k4⟩ := ndDec_ok0 _ _ _ _ _ _ _ _ hda
      obtain ⟨A4, f4, rfl, i4, _, _⟩ := o4.isB.form (n := n) HN.out
      have ka := below_alloc w4 (.cells #[.int .u64 (key : Int), .int .u32 (cook : Int), .bool d, .slice A4 n f4] 26)
      have kk := below_step k4 ka
      have I4 := hide (i4.keep ka)
      have I0 := hide (I0.out.keep kk)
      have O1 := hide (O1.out.keep kk)
      have K4 := hide (below_step K3.out kk)
      have x0 := (k4.cell (p := ⟨w.heap.size, 0, none⟩) LW3.out).trans HC3.out.1
      have x1 := (k4.cell (p := ⟨w.heap.size, 1, none⟩) LW3.out).trans HC3.out.2.1
      have x2 := (k4.cell (p := ⟨w.heap.size, 2, none⟩) LW3.out).trans HC3.out.2.2.1
      have x3 := (k4.cell (p := ⟨w.heap.size, 3, none⟩) LW3.out).trans HC3.out.2.2.2
      have lw4 : w.heap.size < w4.heap.size := Nat.lt_of_lt_of_le LW3.out k4.size
      clear hda o4 k4 ka kk i4 K3 I3
      go_wp2_with fail
      refine (needles_same key cook d A A4 n c f4 data _ I0.out I4.out).mono ?_
      rintro e w5 ⟨rfl, k5⟩
      have O1 := hide (O1.out.keep k5)
      have K5 := hide (below_step K4.out k5)
      obtain ⟨g', c', e', _, _, _, cells, hfr⟩ := O1.out.at_ (n := m) HE.out.2.1 (by omega)
      cases e'
      have ck := cells k hkm
      rw [← HE.out.2.2.2.2.2] at ck
      have fk := hfr k
      have O2 := hide (O1.out.stored HE.out.2.1 k u)
      have K6 : Hid (Below w.heap.size w (w5.setCell ⟨g, k, none⟩ (.int .u8 (u : Int)))) := hide (by
        have hle : w.heap.size ≤ (⟨g, k, none⟩ : Addr).block := Nat.le_trans (Nat.le_of_lt hwl) GE.out
        exact K5.out.setCell hle _)
      clear cells hfr O1 x0 x1 x2 x3 lw4 k5 K4 I0 I4
      go_wp2_with fail
      have HL5 : Hid ((R.set k u).length = m) := hide (by rw [List.length_set, HE.out.2.1])
      have I5 : Hid (IsB (w5.setCell ⟨g, k, none⟩ (.int .u8 (u : Int))) (.slice (some ⟨g, 0, none⟩) m cc) (R.set k u)) := hide O2.out.isB
      refine (nddec_any _ m cc (R.set k u) _ I5.out HSB.out (by omega)).mono ?_
      intro e w6 hda
      obtain ⟨ra, rb, rc, rs, rm, rg, rfl, hrg, ⟨B9, ys, o9⟩, k6⟩ := ndDec_wrong0 _ _ HE.out.2.2.2.2.1 _ _ hda
      obtain ⟨A9, f9, rfl, _, _⟩ := o9.isB.form (n := ys.length) rfl
      have K7 := hide (below_step K6.out k6)
      clear hda o9 k6 I5 O2
      have kal := hide (fun o => below_step K7.out (below_alloc w6 o))
      rcases hrg with rfl | rfl
      all_goals
        go_wp2_with fail
        refine (known_any _).mono ?_
        rintro e w7 ⟨rfl, k7⟩
        go_wp2_with fail
        go_ret
        exact ⟨rfl, below_step (kal.out _) k7⟩
theorem needleBack_long (key cook : Nat) (d : Bool) (A : Option Addr) (n c : Nat) (M : Option Addr) (l1 p1 : Nat) (z b3 : Int) (w : World) (h : ¬ (n ≤ 5000 ∧ l1 ≤ 5000)) (_h : n ≤ 140737488351232) (_h1 : l1 ≤ 140737488351232) :
    Calls Try.prog 5 #[.agg #[.int .u64 (key : Int), .int .u32 (cook : Int), .bool d, .slice A n c], .slice M l1 p1, .int .i64 z, .int .u8 b3] w fun e w' => e = .returned (.bool true) ∧ Below w.heap.size w w' := by
  have kw := below_alloc w (.cells #[.int .u64 (key : Int), .int .u32 (cook : Int), .bool d, .slice A n c] 26)
  by_cases h5 : n ≤ 5000
  · have h6 : ¬ l1 ≤ 5000 := fun e => h ⟨h5, e⟩
    go_enter Try.func5, Try.ntmps5
    go_wp2_with fail
    go_ret
    exact ⟨rfl, kw⟩
  · go_enter Try.func5, Try.ntmps5
    go_wp2_with fail
    go_ret
    exact ⟨rfl, kw⟩
set_option maxRecDepth 100000 in
set_option maxHeartbeats 1600000 in
theorem needleBack_no (key cook : Nat) (d : Bool) (A : Option Addr) (n c : Nat) (M : Option Addr) (l1 p1 : Nat) (z b3 : Int) (w : World) (h5 : n ≤ 5000) (h6 : l1 ≤ 5000) (hd : d = true ∧ 0 < n) :
    Calls Try.prog 5 #[.agg #[.int .u64 (key : Int), .int .u32 (cook : Int), .bool d, .slice A n c], .slice M l1 p1, .int .i64 z, .int .u8 b3] w fun e w' => e = .returned (.bool true) ∧ Below w.heap.size w w' := by
  have kw := below_alloc w (.cells #[.int .u64 (key : Int), .int .u32 (cook : Int), .bool d, .slice A n c] 26)
  have KW := hide kw
  have HD := hide hd
  clear kw hd
  go_enter Try.func5, Try.ntmps5
  go_wp2_with fail
  refine (ndenc_bad 1 key cook d A n c _ (by omega) (.inl ⟨rfl, HD.out⟩)).mono ?_
  rintro e w1 ⟨rfl, k1⟩
  have K1 := hide (below_step KW.out k1)
  clear k1
  go_wp2_with fail
  refine (known_any _).mono ?_
  rintro e w5 ⟨rfl, k5⟩
  go_wp2_with fail
  go_ret
  exact ⟨rfl, below_step K1.out k5⟩
theorem needleBack_walk (key cook : Nat) (d : Bool) (A : Option Addr) (n c : Nat) (data : List Nat) (M : Option Addr) (l1 p1 : Nat) (more : List Nat) (z b3 : Int) (W : World) (hk : key < 18446744073709551616) (hc : cook < 4294967296) (hA : IsB W (.slice A n c) data) (hn : data.length = n) (hb : ∀ x ∈ data, x < 256) (hl : n ≤ 140737488351232)
    (hM : IsB W (.slice M l1 p1) more) (hl1 : more.length = l1) (hb1 : ∀ x ∈ more, x < 256) (hm1 : l1 ≤ 140737488351232) (_w2 : (Lit.int .i64 z).wf = true) (w3 : (Lit.int .u8 b3).wf = true) :
    Calls Try.prog 5 #[.agg #[.int .u64 (key : Int), .int .u32 (cook : Int), .bool d, .slice A n c], .slice M l1 p1, .int .i64 z, .int .u8 b3] W fun e w' => e = .returned (.bool true) ∧ Below W.heap.size W w' := by
  have g3 := bounds_u8 w3
  by_cases h : n ≤ 5000 ∧ l1 ≤ 5000
  · by_cases hd : d = true ∧ 0 < n
    · exact needleBack_no key cook d A n c M l1 p1 z b3 W h.1 h.2 hd
    · obtain ⟨k, hkm, hkz⟩ := place z (ndSize n) (by have := ndSize_le n; omega)
      obtain ⟨y, rfl⟩ := Int.eq_ofNat_of_zero_le g3.1
      by_cases h0 : y = 0
      · subst h0
        exact needleBack_core key cook d A n c data M l1 p1 more z 0 k 1 W hA hn hb hk hc hM hl1 hb1 h.1 h.2 hd _ rfl hkm hkz (by decide) (.inl ⟨rfl, rfl⟩)
      · exact needleBack_core key cook d A n c data M l1 p1 more z (y : Int) k y W hA hn hb hk hc hM hl1 hb1 h.1 h.2 hd _ rfl hkm hkz (by omega) (.inr ⟨rfl, by omega⟩)
  · exact needleBack_long key cook d A n c M l1 p1 z b3 W h hl hm1
end Go.Proofs.Ytkgkhielfodmmaa
