/- The walk of the law FidTurned: it returns true, and writes nothing that was there. No conditions but the widths. -/
import Derived.Test.YtdchgjniepdhfaaWalkFd2
namespace Go.Proofs.Ytdchgjniepdhfaa
open Go.RowKit
theorem xor8_fd {x y : Nat} (hx : x < 256) (hy : y < 256) : bits .xor .u8 (x : Int) (y : Int) = ((x ^^^ y : Nat) : Int) := u8_xor_nat x y hx hy
set_option maxHeartbeats 1600000 in
theorem fidTurned_bad (v : Int) (k c : Nat) (z : Int) (y : Nat) (w : World) (hb : v < 1 ∨ 99999999 < v ∨ k = 0) :
    Calls Try.prog 6 #[fdV v k c, .int .i64 z, .int .u8 (y : Int)] w fun e w' => e = .returned (.bool true) ∧ Below w.heap.size w w' := by
  have HP := hide (fun W => text_bad v k c W hb)
  clear hb
  unfold fdV at *
  go_enter Try.func6, Try.ntmps6
  go_wp2_with fail
  refine (HP.out _).mono ?_
  rintro e w1 ⟨rfl, k1⟩
  have K1 := hide (below_step (below_alloc w _) k1)
  clear k1
  go_wp2_with fail
  refine (known_any _).mono ?_
  rintro e w3 ⟨rfl, k3⟩
  have K3 := hide (below_step K1.out k3)
  clear k3
  go_wp2_with fail
  go_ret
  exact ⟨rfl, K3.out⟩
set_option maxHeartbeats 1600000 in
theorem fidTurned_none (v k c : Nat) (z : Int) (w : World) (hf : FdOk ⟨v, k, c⟩) :
    Calls Try.prog 6 #[fdV (v : Int) k c, .int .i64 z, .int .u8 0] w fun e w' => e = .returned (.bool true) ∧ Below w.heap.size w w' := by
  have HP := hide (fun W => text_ok ⟨v, k, c⟩ W hf)
  obtain ⟨s, hs⟩ : ∃ s, s = mkS (textL ⟨v, k, c⟩) := ⟨_, rfl⟩
  rw [← hs] at HP
  clear hf hs
  unfold fdV at *
  go_enter Try.func6, Try.ntmps6
  go_wp2_with fail
  refine (HP.out _).mono ?_
  rintro e w1 ⟨rfl, k1⟩
  have K1 := hide (below_step (below_alloc w _) k1)
  clear k1
  go_wp2_with fail
  refine (known_any _).mono ?_
  rintro e w3 ⟨rfl, k3⟩
  have K3 := hide (below_step K1.out k3)
  clear k3
  go_wp2_with fail
  go_ret
  exact ⟨rfl, K3.out⟩
set_option maxRecDepth 100000 in
set_option maxHeartbeats 3200000 in
theorem fidTurned_ok (v k c : Nat) (z : Int) (y : Nat) (w : World) (hf : FdOk ⟨v, k, c⟩) (hy0 : 0 < y) (hy : y < 256) :
    Calls Try.prog 6 #[fdV (v : Int) k c, .int .i64 z, .int .u8 (y : Int)] w fun e w' => e = .returned (.bool true) ∧ Below w.heap.size w w' := by
  have HP := hide (fun W => text_ok ⟨v, k, c⟩ W hf)
  obtain ⟨l, hl⟩ : ∃ l, l = textL ⟨v, k, c⟩ := ⟨_, rfl⟩
  obtain ⟨s, hs⟩ : ∃ s, s = mkS l := ⟨_, rfl⟩
  rw [← hl, ← hs] at HP
  obtain ⟨n, hn⟩ : ∃ n, n = l.length := ⟨_, rfl⟩
  have hn12 : 12 ≤ n ∧ n ≤ 34 := by rw [hn, hl]; exact textL_len hf
  obtain ⟨hn1, hn2⟩ := hn12
  have hsz : s.size = n := by rw [hs, hn]; rfl
  have hn12i : ¬ (n : Int) < 12 := by omega
  -- the place
  obtain ⟨t, ht⟩ : ∃ t, z.tmod (n : Int) = t := ⟨_, rfl⟩
  have hq : ∃ q : Nat, q < n ∧ ((t < 0 ∧ t + (n : Int) = (q : Int)) ∨ t = (q : Int)) := by
    have h1 : (t.natAbs : Int) < n := by
      have := Int.natAbs_tmod z (n : Int)
      rw [ht] at this
      rw [this]
      have : z.natAbs % (n : Int).natAbs < n := by
        rw [Int.natAbs_natCast]
        exact Nat.mod_lt _ (by omega)
      omega
    by_cases h0 : t < 0
    · exact ⟨(t + n).toNat, by omega, .inl ⟨h0, by omega⟩⟩
    · exact ⟨t.toNat, by omega, .inr (by omega)⟩
  obtain ⟨q, hqn, hq⟩ := hq
  have hql : q < l.length := by rw [← hn]; exact hqn
  obtain ⟨x, hx⟩ : ∃ x, x = l[q].toNat := ⟨_, rfl⟩
  have hx256 : x < 256 := by rw [hx]; exact UInt8.toNat_lt _
  have hxy := xor8_fd hx256 hy
  have hxy256 : x ^^^ y < 256 := Nat.xor_lt_two_pow (n := 8) hx256 hy
  have hxyne : x ^^^ y ≠ x := by
    intro h
    have h2 := congrArg (fun u => x ^^^ u) h
    simp only [← Nat.xor_assoc, Nat.xor_self, Nat.zero_xor] at h2
    omega
  obtain ⟨x2, hx2⟩ : ∃ x2, x2 = x ^^^ y := ⟨_, rfl⟩
  rw [← hx2] at hxy hxy256 hxyne
  obtain ⟨l2, hl2⟩ : ∃ l2, l2 = l.set q (UInt8.ofNat x2) := ⟨_, rfl⟩
  have hl2n : l2.length = n := by rw [hl2, List.length_set, hn]
  have hne : l2 ≠ l := by
    intro h
    have h1 : l2[q]? = l[q]? := by rw [h]
    rw [hl2, List.getElem?_set_self hql, List.getElem?_eq_getElem hql, Option.some.injEq] at h1
    have h2 := congrArg UInt8.toNat h1
    rw [← hx, UInt8.toNat_ofNat', Nat.mod_eq_of_lt hxy256] at h2
    exact hxyne h2
  have hl2at : ∀ j (h : j < l2.length), (l2[j].toNat : Int) = if j = q then (x2 : Int) else ((l.getD j 0).toNat : Int) := by
    intro j h
    subst hl2
    rw [List.getElem_set]
    by_cases e : q = j
    · subst e
      rw [if_pos rfl, if_pos rfl, UInt8.toNat_ofNat', Nat.mod_eq_of_lt hxy256]
    · rw [if_neg e, if_neg (fun e2 => e e2.symm), List.getD_eq_getElem?_getD, List.getElem?_eq_getElem (by rw [List.length_set] at h; exact h)]
      rfl
  have HF := hide hf
  have HL := hide hl
  have HS := hide hs
  have HN := hide hn
  have HX := hide hx
  have HL2 := hide hl2at
  have HL2N := hide hl2n
  have HNE := hide hne
  clear hf hl hs hn hx hl2at hl2n hne hl2 hx2 hxyne
  unfold fdV at *
  go_enter Try.func6, Try.ntmps6
  have hN0 := new_fid w (.int .i64 (v : Int)) (.int .u64 (k : Int)) (.int .u32 (c : Int))
  have HN0 := hide hN0
  have HG0 : Hid (w.heap.size < (w.alloc (.cells #[.int .i64 (v : Int), .int .u64 (k : Int), .int .u32 (c : Int)] 25)).heap.size) := by unfold Hid; simp
  clear hN0
  go_wp2_with fail
  have KA := hide (below_alloc w (.cells #[.int .i64 (v : Int), .int .u64 (k : Int), .int .u32 (c : Int)] 25))
  obtain ⟨g, hg⟩ : ∃ g, g = w.heap.size := ⟨_, rfl⟩
  rw [← hg] at HN0 HG0 ⊢
  generalize w.alloc (.cells #[.int .i64 (v : Int), .int .u64 (k : Int), .int .u32 (c : Int)] 25) = W at HN0 HG0 KA ⊢
  have HG := hide hg
  clear hg
  refine (HP.out _).mono ?_
  rintro e w1 ⟨rfl, k1⟩
  have K1 := hide (below_step KA.out k1)
  have N1 := hide (old_fid k1 HG0.out HN0.out)
  have G1 := hide (Nat.lt_of_lt_of_le HG0.out k1.size)
  clear k1
  -- the bytes
  obtain ⟨cap, W2, hcv, hcap, kW, hcl, hfz⟩ := bytes_of w1 l
  rw [← HS.out, ← HN.out] at hcv
  rw [← HN.out] at hcap hfz
  obtain ⟨h, hh⟩ : ∃ h, h = w1.heap.size := ⟨_, rfl⟩
  rw [← hh] at hcv hcl hfz
  have hcq : W2.cell? ⟨h, q, none⟩ = some (.int .u8 (x : Int)) := by rw [hcl q hql, HX.out]
  have hfq := hfz q hqn
  have HCL := hide hcl
  have N2 := hide (old_fid kW G1.out N1.out)
  have HNG := hide (show ¬ g = h by have := G1.out; rw [hh]; omega)
  have K2 := hide (below_step K1.out kW)
  have HHW := hide (show h < W2.heap.size from cell_lt hcq)
  have HWH := hide (show w.heap.size ≤ h by have := K1.out.size; omega)
  have N3 : Hid ((W2.setCell ⟨h, q, none⟩ (.int .u8 (x2 : Int))).cell? ⟨g, 0, none⟩ = some (.int .i64 (v : Int)) ∧ (W2.setCell ⟨h, q, none⟩ (.int .u8 (x2 : Int))).cell? ⟨g, 1, none⟩ = some (.int .u64 (k : Int)) ∧ (W2.setCell ⟨h, q, none⟩ (.int .u8 (x2 : Int))).cell? ⟨g, 2, none⟩ = some (.int .u32 (c : Int))) := by
    have hd : ∀ j, (⟨h, q, none⟩ : Addr) ≠ ⟨g, j, none⟩ := fun j e => HNG.out (congrArg Addr.block e).symm
    unfold Hid
    rw [World.cell?_setCell_other _ _ _ _ (hd 0), World.cell?_setCell_other _ _ _ _ (hd 1), World.cell?_setCell_other _ _ _ _ (hd 2)]
    exact N2.out
  have K3 : Hid (Below w.heap.size w (W2.setCell ⟨h, q, none⟩ (.int .u8 (x2 : Int)))) := hide (K2.out.setCell (p := ⟨h, q, none⟩) HWH.out _)
  have G3 : Hid (g < (W2.setCell ⟨h, q, none⟩ (.int .u8 (x2 : Int))).heap.size) := by
    unfold Hid
    rw [World.size_setCell]
    have := K2.out.size
    have h2 := G1.out
    have h3 := kW.size
    omega
  have hcv2 : (convert 40 9 (.slice (some ⟨h, 0, none⟩) n cap)).run Try.prog (W2.setCell ⟨h, q, none⟩ (.int .u8 (x2 : Int))) = .ok (.string (mkS l2)) (W2.setCell ⟨h, q, none⟩ (.int .u8 (x2 : Int))) := by
    have h1 := run_convert_bytes_back (P := Try.prog) (W2.setCell ⟨h, q, none⟩ (.int .u8 (x2 : Int))) 40 9 5 ⟨h, 0, none⟩ cap l2 Try.underlying40 Try.underlying5 Try.underlying9 (fun j hj => by
      have ea : Addr.add ⟨h, 0, none⟩ j = ⟨h, j, none⟩ := by rw [add_off, Nat.zero_add]
      rw [ea, HL2.out j hj]
      by_cases e : j = q
      · subst e
        rw [if_pos rfl]
        exact World.cell?_setCell_same _ _ _ hcq
      · rw [if_neg e, World.cell?_setCell_other _ _ _ _ (fun e2 => e (congrArg Addr.off e2).symm)]
        have hjl : j < l.length := by rw [HL2N.out, HN.out] at hj; exact hj
        have := HCL.out j hjl
        rw [this, List.getD_eq_getElem?_getD, List.getElem?_eq_getElem hjl]
        rfl)
    rw [HL2N.out] at h1
    exact h1
  have hqnI : (q : Int) < (n : Int) := by omega
  have hn0 : ¬ n = 0 := by omega
  have hyI : ((y : Int) == 0) = false := by rw [beq_eq_false_iff_ne]; omega
  have hl40 : l2.length < 1099511627776 := by rw [HL2N.out]; omega
  have HL40 := hide hl40
  obtain ⟨s2, hs2⟩ : ∃ s2, s2 = mkS l2 := ⟨_, rfl⟩
  rw [← hs2] at hcv2
  have HS2 := hide hs2
  clear hs2 hl40 hcl hfz kW hqn hh hy0 hy hx256 hxy256
  rcases hq with ⟨ht0, hq⟩ | hq
  · have ht1 : t < 0 := ht0
    go_wp2_with fail
    generalize W2.setCell ⟨h, q, none⟩ (.int .u8 (x2 : Int)) = W3 at N3 K3 G3 ⊢
    by_cases hT : ∃ f, IsText l2 f
    · obtain ⟨f, hf2⟩ := hT
      have HFF : Hid (f.v ≠ v ∨ (f.v = v ∧ f.k ≠ k) ∨ (f.v = v ∧ f.k = k ∧ f.c ≠ c)) := by
        unfold Hid
        have hne : ¬ (f.v = v ∧ f.k = k ∧ f.c = c) := by
          intro h
          have e : f = ⟨v, k, c⟩ := by
            obtain ⟨fv, fk, fc⟩ := f
            simp only [Fd.mk.injEq]
            exact h
          have := hf2.2
          rw [e, ← HL.out] at this
          exact HNE.out this.symm
        omega
      have hcall := parse_is hf2 HL40.out W3
      rw [← HS2.out] at hcall
      obtain ⟨fv, hfv⟩ : ∃ x, x = f.v := ⟨_, rfl⟩
      obtain ⟨fk, hfk⟩ : ∃ x, x = f.k := ⟨_, rfl⟩
      obtain ⟨fc, hfc⟩ : ∃ x, x = f.c := ⟨_, rfl⟩
      rw [← hfv, ← hfk, ← hfc] at hcall HFF
      clear hfv hfk hfc
      refine hcall.mono ?_
      clear hcall
      rintro e w5 ⟨rfl, k5⟩
      have K5 := hide (below_step K3.out k5)
      have N5 := hide (old_fid k5 G3.out N3.out)
      have G5 := hide (Nat.lt_of_lt_of_le G3.out k5.size)
      have k6 := below_alloc w5 (.cells #[.int .i64 (fv : Int), .int .u64 (fk : Int), .int .u32 (fc : Int)] 25)
      obtain ⟨n0, n1, n2⟩ := new_fid w5 (.int .i64 (fv : Int)) (.int .u64 (fk : Int)) (.int .u32 (fc : Int))
      obtain ⟨o0, o1, o2⟩ := old_fid k6 G5.out N5.out
      have K6 := hide (below_step K5.out k6)
      clear k5 k6
      rcases HFF.out with h1 | ⟨h1, h2⟩ | ⟨h1, h2, h3⟩
      · have e1 : ((fv : Int) == (v : Int)) = false := by rw [beq_eq_false_iff_ne]; omega
        clear h1
        go_wp2_with fail
        refine (known_any _).mono ?_
        rintro e w7 ⟨rfl, k7⟩
        have K7 := hide (below_step K6.out k7)
        clear k7
        go_wp2_with fail
        go_ret
        exact ⟨rfl, K7.out⟩
      · have e2 : ((fk : Int) == (k : Int)) = false := by rw [beq_eq_false_iff_ne]; omega
        subst h1
        clear h2
        go_wp2_with fail
        refine (known_any _).mono ?_
        rintro e w7 ⟨rfl, k7⟩
        have K7 := hide (below_step K6.out k7)
        clear k7
        go_wp2_with fail
        go_ret
        exact ⟨rfl, K7.out⟩
      · have e3 : ((fc : Int) == (c : Int)) = false := by rw [beq_eq_false_iff_ne]; omega
        subst h1
        subst h2
        clear h3
        go_wp2_with fail
        refine (known_any _).mono ?_
        rintro e w7 ⟨rfl, k7⟩
        have K7 := hide (below_step K6.out k7)
        clear k7
        go_wp2_with fail
        go_ret
        exact ⟨rfl, K7.out⟩
    · have hno : ∀ f, ¬ IsText l2 f := fun f hf => hT ⟨f, hf⟩
      have hcall := parse_not hno HL40.out W3
      rw [← HS2.out] at hcall
      refine hcall.mono ?_
      clear hcall hno hT
      rintro e w5 ⟨rfl, k5⟩
      have K6 := hide (below_step (below_step K3.out k5) (below_alloc w5 (.cells #[.int .i64 0, .int .u64 0, .int .u32 0] 25)))
      clear k5
      go_wp2_with fail
      refine (known_any _).mono ?_
      rintro e w7 ⟨rfl, k7⟩
      have K7 := hide (below_step K6.out k7)
      clear k7
      go_wp2_with fail
      go_ret
      exact ⟨rfl, K7.out⟩
  · subst hq
    go_wp2_with fail
    generalize W2.setCell ⟨h, q, none⟩ (.int .u8 (x2 : Int)) = W3 at N3 K3 G3 ⊢
    by_cases hT : ∃ f, IsText l2 f
    · obtain ⟨f, hf2⟩ := hT
      have HFF : Hid (f.v ≠ v ∨ (f.v = v ∧ f.k ≠ k) ∨ (f.v = v ∧ f.k = k ∧ f.c ≠ c)) := by
        unfold Hid
        have hne : ¬ (f.v = v ∧ f.k = k ∧ f.c = c) := by
          intro h
          have e : f = ⟨v, k, c⟩ := by
            obtain ⟨fv, fk, fc⟩ := f
            simp only [Fd.mk.injEq]
            exact h
          have := hf2.2
          rw [e, ← HL.out] at this
          exact HNE.out this.symm
        omega
      have hcall := parse_is hf2 HL40.out W3
      rw [← HS2.out] at hcall
      obtain ⟨fv, hfv⟩ : ∃ x, x = f.v := ⟨_, rfl⟩
      obtain ⟨fk, hfk⟩ : ∃ x, x = f.k := ⟨_, rfl⟩
      obtain ⟨fc, hfc⟩ : ∃ x, x = f.c := ⟨_, rfl⟩
      rw [← hfv, ← hfk, ← hfc] at hcall HFF
      clear hfv hfk hfc
      refine hcall.mono ?_
      clear hcall
      rintro e w5 ⟨rfl, k5⟩
      have K5 := hide (below_step K3.out k5)
      have N5 := hide (old_fid k5 G3.out N3.out)
      have G5 := hide (Nat.lt_of_lt_of_le G3.out k5.size)
      have k6 := below_alloc w5 (.cells #[.int .i64 (fv : Int), .int .u64 (fk : Int), .int .u32 (fc : Int)] 25)
      obtain ⟨n0, n1, n2⟩ := new_fid w5 (.int .i64 (fv : Int)) (.int .u64 (fk : Int)) (.int .u32 (fc : Int))
      obtain ⟨o0, o1, o2⟩ := old_fid k6 G5.out N5.out
      have K6 := hide (below_step K5.out k6)
      clear k5 k6
      rcases HFF.out with h1 | ⟨h1, h2⟩ | ⟨h1, h2, h3⟩
      · have e1 : ((fv : Int) == (v : Int)) = false := by rw [beq_eq_false_iff_ne]; omega
        clear h1
        go_wp2_with fail
        refine (known_any _).mono ?_
        rintro e w7 ⟨rfl, k7⟩
        have K7 := hide (below_step K6.out k7)
        clear k7
        go_wp2_with fail
        go_ret
        exact ⟨rfl, K7.out⟩
      · have e2 : ((fk : Int) == (k : Int)) = false := by rw [beq_eq_false_iff_ne]; omega
        subst h1
        clear h2
        go_wp2_with fail
        refine (known_any _).mono ?_
        rintro e w7 ⟨rfl, k7⟩
        have K7 := hide (below_step K6.out k7)
        clear k7
        go_wp2_with fail
        go_ret
        exact ⟨rfl, K7.out⟩
      · have e3 : ((fc : Int) == (c : Int)) = false := by rw [beq_eq_false_iff_ne]; omega
        subst h1
        subst h2
        clear h3
        go_wp2_with fail
        refine (known_any _).mono ?_
        rintro e w7 ⟨rfl, k7⟩
        have K7 := hide (below_step K6.out k7)
        clear k7
        go_wp2_with fail
        go_ret
        exact ⟨rfl, K7.out⟩
    · have hno : ∀ f, ¬ IsText l2 f := fun f hf => hT ⟨f, hf⟩
      have hcall := parse_not hno HL40.out W3
      rw [← HS2.out] at hcall
      refine hcall.mono ?_
      clear hcall hno hT
      rintro e w5 ⟨rfl, k5⟩
      have K6 := hide (below_step (below_step K3.out k5) (below_alloc w5 (.cells #[.int .i64 0, .int .u64 0, .int .u32 0] 25)))
      clear k5
      go_wp2_with fail
      refine (known_any _).mono ?_
      rintro e w7 ⟨rfl, k7⟩
      have K7 := hide (below_step K6.out k7)
      clear k7
      go_wp2_with fail
      go_ret
      exact ⟨rfl, K7.out⟩
theorem fidTurned_core (v : Int) (k c : Nat) (z : Int) (y : Nat) (w : World) (hk : k < 18446744073709551616) (hc : c < 4294967296) (hy : y < 256) :
    Calls Try.prog 6 #[fdV v k c, .int .i64 z, .int .u8 (y : Int)] w fun e w' => e = .returned (.bool true) ∧ Below w.heap.size w w' := by
  by_cases hb : v < 1 ∨ 99999999 < v ∨ k = 0
  · exact fidTurned_bad v k c z y w hb
  · obtain ⟨n, rfl⟩ : ∃ n : Nat, v = (n : Int) := ⟨v.toNat, by omega⟩
    have hf : FdOk ⟨n, k, c⟩ := ⟨by simp only; omega, by simp only; omega, by simp only; omega, hk, hc⟩
    rcases Nat.eq_zero_or_pos y with h | h
    · subst h
      exact fidTurned_none n k c z w hf
    · exact fidTurned_ok n k c z y w hf h hy
theorem fidTurned_walk (v : Int) (k c : Nat) (a1 a2 : Int) (w : World) (hk : k < 18446744073709551616) (hc : c < 4294967296) (_w1 : (Lit.int .i64 a1).wf = true) (w2 : (Lit.int .u8 a2).wf = true) :
    Calls Try.prog 6 #[fdV v k c, .int .i64 a1, .int .u8 a2] w fun e w' => e = .returned (.bool true) ∧ Below w.heap.size w w' := by
  have b2 := bounds_u8 w2
  obtain ⟨y, rfl⟩ : ∃ y : Nat, a2 = (y : Int) := ⟨a2.toNat, by omega⟩
  exact fidTurned_core v k c a1 y w hk hc (by omega)
end Go.Proofs.Ytdchgjniepdhfaa
