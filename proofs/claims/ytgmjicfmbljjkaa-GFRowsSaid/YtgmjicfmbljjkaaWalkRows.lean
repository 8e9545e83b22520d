/- The walk of the law GFRows: it returns true for any rows and any number, and writes nothing that was there. No condition but the widths. -/
import Derived.Test.YtgmjicfmbljjkaaGRows
import Derived.Test.YtgmjicfmbljjkaaRoomy
import Derived.Test.YtgmjicfmbljjkaaSpoilB
import Derived.Test.YtgmjicfmbljjkaaWalkGf
namespace Go.Proofs.Ytgmjicfmbljjkaa
open Go.RowKit
set_option maxHeartbeats 400000 in
theorem gFRows_long (n m c d : Nat) (q : Int) (A B : Option Addr) (w : World) (h : ¬ n + m ≤ 2000) (_h1 : n ≤ 140737488351232) (_h2 : m ≤ 140737488351232) :
    Calls Try.prog 7 #[.slice A n c, .slice B m d, .int .u8 q] w fun e w' => e = .returned (.bool true) ∧ Below w.heap.size w w' := by
  go_enter Try.func7, Try.ntmps7
  go_wp2_with fail
  go_ret
  exact ⟨rfl, Below.refl _ _⟩
theorem at_own {w : World} {B g n c : Nat} {f : Nat → Nat} (h : Own w B (.slice (some ⟨g, 0, none⟩) n c) (part f n n)) (k : Nat) (hk : k < n) : w.cell? ⟨g, k, none⟩ = some (.int .u8 ((f k : Nat) : Int)) := by
  have := (h.cells_ (part_len f n n) k).1 hk
  rwa [part_get f n k hk] at this
set_option maxHeartbeats 3200000 in
theorem gFRows_like (n c d q : Nat) (A B : Option Addr) (xs ys : List Nat) (w : World) (hx : xs.length = n) (hy : ys.length = n) (bx : ∀ x ∈ xs, x < 256) (b_y : ∀ y ∈ ys, y < 256) (hq : q < 256)
    (iA : IsB w (.slice A n c) xs) (iB : IsB w (.slice B n d) ys) (h : n + n ≤ 2000) :
    Calls Try.prog 7 #[.slice A n c, .slice B n d, .int .u8 (q : Int)] w fun e w' => e = .returned (.bool true) ∧ Below w.heap.size w w' := by
  have HX := hide hx
  have HY := hide hy
  have BX := hide bx
  have BY := hide b_y
  have IA := hide iA
  have IB := hide iB
  have hnn : ((n : Int) != (n : Int)) = false := by simp
  have h0 : n ≤ 1000 := by omega
  clear hx hy bx b_y iA iB h
  go_enter Try.func7, Try.ntmps7
  go_wp2_with fail
  refine (roomy_any A n c xs w IA.out HX.out (by omega)).mono ?_
  rintro e w1 ⟨R, cr, rfl, i1, l1, m1, k1⟩
  have i2 := i1.take n (by omega)
  rw [List.take_left' HX.out] at i2
  have I1 := hide i1
  have I2 := hide i2
  have K1 := hide k1
  clear i1 i2 k1
  go_wp2_with fail
  refine (scale_any R n cr q xs w1 I2.out.rd HX.out BX.out hq (by omega)).mono ?_
  rintro e w2 ⟨g, rfl, o2, k2⟩
  have O2 := hide o2
  have K2 := hide k2
  clear o2 k2
  go_wp2_with fail
  refine (add_any R B n cr d xs ys w2 (I2.out.rd.below K2.out) (IB.out.rd.below (K1.out.trans (K2.out.mono K1.out.size))) HX.out HY.out BX.out BY.out (by omega)).mono ?_
  rintro e w3 ⟨g3, rfl, o3, k3⟩
  have O3 := hide o3
  have K3 := hide (K2.out.trans (k3.mono K2.out.size))
  have O2' := hide (O2.out.keep k3)
  clear o3 k3 O2
  go_wp2_with fail
  refine (dot_any R B n cr d xs ys w3 (I2.out.rd.below K3.out) (IB.out.rd.below (K1.out.trans (K3.out.mono K1.out.size))) HX.out HY.out BX.out BY.out (by omega)).mono ?_
  rintro e w4 ⟨rfl, rfl⟩
  go_wp2_with fail
  refine (rdot_any A B n c d xs ys w3 (IA.out.rd.below (K1.out.trans (K3.out.mono K1.out.size))) (IB.out.rd.below (K1.out.trans (K3.out.mono K1.out.size))) HX.out HY.out BX.out BY.out (by omega)).mono ?_
  rintro e w4 ⟨rfl, d4, rfl⟩
  have hss : (((dotS xs ys n : Nat) : Int) != ((dotS xs ys n : Nat) : Int)) = false := by simp
  go_wp2_with fail
  refine (stands_any R cr A n c xs (w3.drewN d4) ((I1.out.keep K3.out).drewN d4) ((IA.out.keep (K1.out.trans (K3.out.mono K1.out.size))).drewN d4) HX.out (by omega) l1 m1).mono ?_
  rintro e w4 ⟨rfl, d5, rfl⟩
  go_wp2_with fail
  have hdec : ∀ v : Nat, ((v : Int) != (v : Int)) = false := fun v => by simp
  go_loopw [15] (fun i wr => ∃ k e : Nat, k ≤ n ∧ i = .int .i64 (k : Int) ∧ wr = w3.drewN e) (fun i _ => n - (intOf i).toNat)
  case atStart => exact ⟨0, _, Nat.zero_le _, rfl, rfl⟩
  case round =>
    obtain ⟨k, e, hk, rfl, rfl⟩ := hrel
    by_cases hlt : k < n
    · obtain ⟨b', off', rfl, ck, hx⟩ := at_place ((IA.out.rd.below (K1.out.trans (K3.out.mono K1.out.size))).drewN e) HX.out BX.out k hlt
      obtain ⟨b2', off2', rfl, ck2, hy⟩ := at_place ((IB.out.rd.below (K1.out.trans (K3.out.mono K1.out.size))).drewN e) HY.out BY.out k hlt
      have c1 := at_own (O2'.out.drewN e) k hlt
      have c2 := at_own (O3.out.drewN e) k hlt
      obtain ⟨x, hxe⟩ : ∃ x, x = xs.getD k 0 := ⟨_, rfl⟩
      obtain ⟨y, hye⟩ : ∃ y, y = ys.getD k 0 := ⟨_, rfl⟩
      rw [← hxe] at ck hx c1 c2
      rw [← hye] at ck2 hy c2
      have hxo := u8_xor_nat x y hx hy
      obtain ⟨z, hz⟩ : ∃ z, z = x ^^^ y := ⟨_, rfl⟩
      rw [← hz] at hxo c2
      obtain ⟨u, hu⟩ : ∃ u, u = gmul x q := ⟨_, rfl⟩
      rw [← hu] at c1
      have HU := hide hu
      have hdu := hdec u
      have hdz := hdec z
      obtain ⟨W, hW⟩ : ∃ W, W = w3.drewN e := ⟨_, rfl⟩
      rw [← hW] at ck ck2 c1 c2 ⊢
      have HW := hide hW
      clear hxe hye hz hu hW hdec hss hnn
      go_wp2_with fail
      go_quiet ((go_at_call 9; refine Calls.quiet_of (v := .int .u8 (u : Int)) ?_; refine (rmul_any x q _ hx hq).mono ?_; rintro e w' ⟨rfl, rfl⟩; exact ⟨by rw [HU.out], 0, rfl⟩))
      go_wp2_with fail
      go_roundw
      case rel => exact ⟨k + 1, e + _, by omega, by go_num, by rw [HW.out, World.drewN_drewN]⟩
      case measure => simp [intOf]; omega
    · obtain rfl : k = n := by omega
      clear hdec hss
      go_wp2_with fail
      refine (spoil_any _ _ _ _ (w3.drewN e) w1.heap.size (O2'.out.drewN e) (part_len _ _ _) K3.out.size (by omega)).mono ?_
      rintro e5 w5 ⟨rfl, k5⟩
      have K5 := hide ((below_drewN K3.out e).trans k5)
      clear k5
      go_wp2_with fail
      refine (stands_any R cr A k c xs w5 (I1.out.keep K5.out) (IA.out.keep (K1.out.trans (K5.out.mono K1.out.size))) HX.out (by omega) l1 m1).mono ?_
      rintro e6 w6 ⟨rfl, d6, rfl⟩
      go_wp2_with fail
      refine (known_any _).mono ?_
      rintro e7 w7 ⟨rfl, rfl⟩
      go_wp2_with fail
      go_ret
      exact ⟨rfl, below_draw (K1.out.trans (K5.out.mono K1.out.size)) d6⟩
set_option maxHeartbeats 3200000 in
theorem gFRows_unlike (n m c d q : Nat) (A B : Option Addr) (xs : List Nat) (w : World) (hx : xs.length = n) (hnm : n ≠ m) (bx : ∀ x ∈ xs, x < 256) (hq : q < 256)
    (iA : IsB w (.slice A n c) xs) (h : n + m ≤ 2000) :
    Calls Try.prog 7 #[.slice A n c, .slice B m d, .int .u8 (q : Int)] w fun e w' => e = .returned (.bool true) ∧ Below w.heap.size w w' := by
  have HX := hide hx
  have BX := hide bx
  have IA := hide iA
  have hnn : ((n : Int) != (n : Int)) = false := by simp
  have h0 : n ≤ 2000 := by omega
  have hm0 : m ≤ 2000 := by omega
  have NM := hide hnm
  clear hx bx iA hnm
  go_enter Try.func7, Try.ntmps7
  go_wp2_with fail
  refine (roomy_any A n c xs w IA.out HX.out (by omega)).mono ?_
  rintro e w1 ⟨R, cr, rfl, i1, l1, m1, k1⟩
  have i2 := i1.take n (by omega)
  rw [List.take_left' HX.out] at i2
  have I1 := hide i1
  have I2 := hide i2
  have K1 := hide k1
  clear i1 i2 k1
  go_wp2_with fail
  refine (scale_any R n cr q xs w1 I2.out.rd HX.out BX.out hq (by omega)).mono ?_
  rintro e w2 ⟨g, rfl, o2, k2⟩
  have O2 := hide o2
  have K2 := hide k2
  clear o2 k2
  go_wp2_with fail
  refine (add_unlike R B n m cr d w2 NM.out).mono ?_
  rintro e w2 ⟨rfl, rfl⟩
  go_wp2_with fail
  refine (dot_unlike R B n m cr d w2 NM.out).mono ?_
  rintro e w4 ⟨rfl, rfl⟩
  go_wp2_with fail
  refine (rdot_unlike A B n m c d w2 NM.out).mono ?_
  rintro e w4 ⟨rfl, rfl⟩
  go_wp2_with fail
  refine (stands_any R cr A n c xs w2 (I1.out.keep K2.out) (IA.out.keep (K1.out.trans (K2.out.mono K1.out.size))) HX.out (by omega) l1 m1).mono ?_
  rintro e w4 ⟨rfl, d5, rfl⟩
  go_wp2_with fail
  have hdec : ∀ v : Nat, ((v : Int) != (v : Int)) = false := fun v => by simp
  go_loopw [15] (fun i wr => ∃ k e : Nat, k ≤ n ∧ i = .int .i64 (k : Int) ∧ wr = w2.drewN e) (fun i _ => n - (intOf i).toNat)
  case atStart => exact ⟨0, _, Nat.zero_le _, rfl, rfl⟩
  case round =>
    obtain ⟨k, e, hk, rfl, rfl⟩ := hrel
    by_cases hlt : k < n
    · obtain ⟨b', off', rfl, ck, hx⟩ := at_place ((IA.out.rd.below (K1.out.trans (K2.out.mono K1.out.size))).drewN e) HX.out BX.out k hlt
      have c1 := at_own (O2.out.drewN e) k hlt
      obtain ⟨x, hxe⟩ : ∃ x, x = xs.getD k 0 := ⟨_, rfl⟩
      rw [← hxe] at ck hx c1
      obtain ⟨u, hu⟩ : ∃ u, u = gmul x q := ⟨_, rfl⟩
      rw [← hu] at c1
      have HU := hide hu
      have hdu := hdec u
      obtain ⟨W, hW⟩ : ∃ W, W = w2.drewN e := ⟨_, rfl⟩
      rw [← hW] at ck c1 ⊢
      have HW := hide hW
      clear hxe hu hW hdec hnn
      go_wp2_with fail
      go_quiet ((go_at_call 9; refine Calls.quiet_of (v := .int .u8 (u : Int)) ?_; refine (rmul_any x q _ hx hq).mono ?_; rintro e w' ⟨rfl, rfl⟩; exact ⟨by rw [HU.out], 0, rfl⟩))
      go_wp2_with fail
      go_roundw
      case rel => exact ⟨k + 1, e + _, by omega, by go_num, by rw [HW.out, World.drewN_drewN]⟩
      case measure => simp [intOf]; omega
    · obtain rfl : k = n := by omega
      clear hdec
      go_wp2_with fail
      refine (spoil_any _ _ _ _ (w2.drewN e) w1.heap.size (O2.out.drewN e) (part_len _ _ _) K2.out.size (by omega)).mono ?_
      rintro e5 w5 ⟨rfl, k5⟩
      have K5 := hide ((below_drewN K2.out e).trans k5)
      clear k5
      go_wp2_with fail
      refine (stands_any R cr A k c xs w5 (I1.out.keep K5.out) (IA.out.keep (K1.out.trans (K5.out.mono K1.out.size))) HX.out (by omega) l1 m1).mono ?_
      rintro e6 w6 ⟨rfl, d6, rfl⟩
      go_wp2_with fail
      refine (known_any _).mono ?_
      rintro e7 w7 ⟨rfl, rfl⟩
      go_wp2_with fail
      go_ret
      exact ⟨rfl, below_draw (K1.out.trans (K5.out.mono K1.out.size)) d6⟩
theorem gFRows_walk (a0 : Option Addr) (len0 cap0 : Nat) (z0 : List Int) (a1 : Option Addr) (len1 cap1 : Nat) (z1 : List Int) (a2 : Int) (w : World) (w0 : IsRow .u8 w a0 len0 cap0 z0) (w1 : IsRow .u8 w a1 len1 cap1 z1) (w2 : (Lit.int .u8 a2).wf = true) (b0 : len0 ≤ 140737488351232) (b1 : len1 ≤ 140737488351232) :
    Calls Try.prog 7 #[.slice a0 len0 cap0, .slice a1 len1 cap1, .int .u8 a2] w fun e w' => e = .returned (.bool true) ∧ Below w.heap.size w w' := by
  obtain ⟨xs, hl, hby, hM, _⟩ := w0.isB
  obtain ⟨ys, hl', hby', hM', _⟩ := w1.isB
  obtain ⟨q, rfl, hq⟩ := byte_nat w2
  by_cases h : len0 + len1 ≤ 2000
  · by_cases e : len0 = len1
    · subst e
      exact gFRows_like len0 cap0 cap1 q a0 a1 xs ys w hl hl' hby hby' hq hM hM' h
    · exact gFRows_unlike len0 len1 cap0 cap1 q a0 a1 xs w hl e hby hq hM h
  · exact gFRows_long len0 len1 cap0 cap1 q a0 a1 w h b0 b1
end Go.Proofs.Ytgmjicfmbljjkaa
