/- The walk of the law KeepRot. No conditions but the widths. -/
import Derived.Test.YtmledochidefeaaKnown9
namespace Go.Proofs.Ytmledochidefeaa
open Go.RowKit Go.Maps
theorem keepRot_out (A : Option Addr) (n c : Nat) (z y : Int) (w : World) (h : 8000 < n ∨ ¬ 8000 < n ∧ y = 0) (hn : n ≤ 9223372036854775807) :
    Calls Try.prog 6 #[.slice A n c, .int .i64 z, .int .u8 y] w fun e w' => e = .returned (.bool true) ∧ Below w.heap.size w w' := by
  rcases h with h | ⟨h, rfl⟩
  all_goals
    go_enter Try.func6, Try.ntmps6
    go_wp2_with fail
    go_ret
    exact ⟨rfl, Below.refl _ _⟩
set_option maxRecDepth 100000 in
set_option maxHeartbeats 1600000 in
theorem keepRot_core (A : Option Addr) (n c : Nat) (p : List Nat) (z : Int) (y : Nat) (w : World) (h1 : IsB w (.slice A n c) p) (l1 : p.length = n) (b1 : ∀ x ∈ p, x < 256) (hm : n ≤ 8000) (hy : y < 256) (hy0 : y ≠ 0) :
    Calls Try.prog 6 #[.slice A n c, .int .i64 z, .int .u8 (y : Int)] w fun e w' => e = .returned (.bool true) ∧ Below w.heap.size w w' := by
  have H1 := hide h1
  have L1 := hide l1
  have B1 := hide b1
  have HY := hide hy
  have HY0 := hide hy0
  have SN : Hid (saveL 1048576 [102] p [] = ([([102], (frameL p, 8 + n))], 0)) := hide (by rw [← l1]; exact save_new (by decide) (by omega) (by omega))
  have hyz : ((y : Int) == 0) = false := by simp; omega
  obtain ⟨N, hN⟩ : ∃ N, N = 8 + n := ⟨_, rfl⟩
  rw [← hN] at SN
  have hN8 : ¬ ((N : Int) < 8) := by omega
  have hNz : ((N : Int) == 0) = false := by simp; omega
  have FL : Hid ((frameL p).length = N) := hide (by rw [frame_len, l1, hN])
  have hNle : N ≤ 8008 := by omega
  have hNge : 8 ≤ N := by omega
  have HN := hide hN
  clear h1 l1 b1 hy hy0 hN
  go_enter Try.func6, Try.ntmps6
  go_wp2_with fail
  refine (new_any 1048576 w (by decide)).mono ?_
  rintro e w1 ⟨d, F1, rfl, d1, u1, k1⟩
  have D1 := hide d1
  have K1 := hide k1
  have U1 := hide u1
  clear d1 u1 k1
  go_wp2_with fail
  refine (save_any F1 d 1048576 [] ⟨#[102]⟩ A n c p w1 D1.out (by decide) (H1.out.keep K1.out) L1.out B1.out (by omega)).mono ?_
  rintro e w2 ⟨rfl, F2, d2, n2⟩
  rw [show saveL 1048576 (⟨#[102]⟩ : ByteArray).data.toList p [] = ([([102], (frameL p, N))], 0) from SN.out] at d2 ⊢
  have K2 := hide (K1.out.trans (n2.below K1.out.size U1.out))
  have U2 := hide (n2.up K1.out.size U1.out)
  have D2 := hide d2
  clear d2 n2
  go_wp2_with fail
  refine (size_some F2 d 1048576 _ ⟨#[102]⟩ (frameL p) N w2 D2.out (by decide) (getK_one _ _)).mono ?_
  rintro e w3 ⟨rfl, k3⟩
  rw [FL.out]
  have K3 := hide (below_step K2.out k3)
  have D3 := hide (D2.out.below k3)
  clear k3
  have hlt : z.tmod (N : Int) < (N : Int) := Int.tmod_lt_of_pos z (by omega)
  have hgt : -(N : Int) < z.tmod (N : Int) := by
    have := Int.tmod_lt_of_pos (-z) (show (0 : Int) < N by omega)
    rw [Int.neg_tmod] at this
    omega
  obtain ⟨k, hk, hkk⟩ : ∃ k : Nat, k < N ∧ (¬ z.tmod (N : Int) < 0 ∧ Hid (z.tmod (N : Int) = (k : Int)) ∨ z.tmod (N : Int) < 0 ∧ Hid (z.tmod (N : Int) + (N : Int) = (k : Int))) := by
    by_cases h0 : z.tmod (N : Int) < 0
    · exact ⟨(z.tmod (N : Int) + N).toNat, by omega, .inr ⟨h0, hide (by omega)⟩⟩
    · exact ⟨(z.tmod (N : Int)).toNat, by omega, .inl ⟨h0, hide (by omega)⟩⟩
  obtain ⟨q, hq0, hlq⟩ := load_rot (k := [102]) (l := N) B1.out (by rw [L1.out]; omega) (show k < 8 + p.length by rw [L1.out, ← HN.out]; exact hk) HY.out HY0.out
  have LQ := hide hlq
  have hqz : ((q : Int) != 0) = true := by simp; omega
  have RO := hide (rot_one (k := [102]) (l := N) (y := y) (show k < (frameL p).length by rw [FL.out]; exact hk))
  clear hlq hq0
  rcases hkk with ⟨hr0, HK⟩ | ⟨hr0, HK⟩
  all_goals
    go_wp2_with fail
    rw [HK.out]
    clear hlt hgt hr0
    refine (rot_any F2 d 1048576 _ ⟨#[102]⟩ w3 D3.out (by decide) (k : Int) y HY.out).mono ?_
    rintro e w4 ⟨rfl, F4, d4, n4⟩
    rw [show rotL (⟨#[102]⟩ : ByteArray).data.toList (k : Int) y [([102], (frameL p, N))] = ([([102], ((frameL p).set k ((frameL p).getD k 0 ^^^ y), N))], 0) from RO.out] at d4 ⊢
    have K4 := hide (K3.out.trans (n4.below K3.out.size U2.out))
    have D4 := hide d4
    clear d4 n4
    go_wp2_with fail
    refine (load_any F4 d 1048576 _ ⟨#[102]⟩ w4 D4.out (by decide)).mono ?_
    rintro e w5 ⟨v, rfl, o5, k5⟩
    rw [show loadL (⟨#[102]⟩ : ByteArray).data.toList [([102], ((frameL p).set k ((frameL p).getD k 0 ^^^ y), N))] = ([], q) from LQ.out] at o5 ⊢
    obtain ⟨A5, c5, rfl, i5, l5, m5⟩ := o5.isB.form (n := 0) rfl
    have K5 := hide (K4.out.trans (k5.mono K4.out.size))
    clear o5 i5 k5
    go_wp2_with fail
    refine (known_any _).mono ?_
    rintro e w6 ⟨rfl, k6⟩
    go_wp2_with fail
    go_ret
    exact ⟨rfl, below_step K5.out k6⟩
theorem keepRot_walk (a0 : Option Addr) (len0 cap0 : Nat) (z0 : List Int) (a1 a2 : Int) (w : World) (w0 : IsRow .u8 w a0 len0 cap0 z0) (_w1 : (Lit.int .i64 a1).wf = true) (w2 : (Lit.int .u8 a2).wf = true) :
    Calls Try.prog 6 #[.slice a0 len0 cap0, .int .i64 a1, .int .u8 a2] w fun e w' => e = .returned (.bool true) ∧ Below w.heap.size w w' := by
  obtain ⟨xs, hl, hb, hM, hx⟩ := w0.isB
  obtain ⟨y, rfl, hy⟩ : ∃ y : Nat, a2 = (y : Int) ∧ y < 256 := by
    have := bounds_u8 w2
    exact ⟨a2.toNat, by omega, by omega⟩
  by_cases h : 8000 < len0 ∨ ¬ 8000 < len0 ∧ (y : Int) = 0
  · exact keepRot_out a0 len0 cap0 a1 y w h (by omega)
  · exact keepRot_core a0 len0 cap0 xs a1 y w hM hl hb (by omega) hy (by omega)
end Go.Proofs.Ytmledochidefeaa
