/- The walk of the law WireBack: it returns true for any message and any bytes behind it, and writes nothing that was there. Condition: no row is longer than the form's reach. -/
import Derived.Test.YtjchpnmipmplkaaWalkEncs
import Derived.Test.YtjchpnmipmplkaaWDec
namespace Go.Proofs.Ytjchpnmipmplkaa
open Go.RowKit
theorem wdec_back (m : Mess) (more : List Nat) (hv : ValidM m) : wdecL (frameL (bodyL m) ++ more) = (m, 8 + (bodyL m).length, 0) :=
  wdecL_ok (dec_back _ more (bodyL_len m hv)) (rmsg_back m hv)
set_option maxHeartbeats 3200000 in
theorem wireBack_bad (f t k : Int) (A M R : Option Addr) (n c len cap rl rc : Nat) (zs : List Int) (xs : List Nat) (w : World) (hN : IsI w (.slice A n c) zs) (hM : IsB w (.slice M len cap) xs) (hl : xs.length = len) (h3 : len + n + rl ≤ 4000)
    (henc : ∀ (A M : Option Addr) (n c len cap : Nat) (w : World), IsI w (.slice A n c) zs → IsB w (.slice M len cap) xs → xs.length = len →
        Calls Try.prog 9 #[.agg #[.int .i64 f, .int .i64 t, .int .i64 k, .slice A n c, .slice M len cap]] w fun e w' => ∃ s, e = .returned (.tuple #[s, .int .i64 1]) ∧ Own w' w.heap.size s [] ∧ Below w.heap.size w w') :
    Calls Try.prog 5 #[.agg #[.int .i64 f, .int .i64 t, .int .i64 k, .slice A n c, .slice M len cap], .slice R rl rc] w fun e w' => e = .returned (.bool true) ∧ Below w.heap.size w w' := by
  have k1 : Below w.heap.size w (w.alloc (.cells #[.int .i64 f, .int .i64 t, .int .i64 k, .slice A n c, .slice M len cap] 25)) := (Below.refl _ _).alloc (Nat.le_refl _) _
  have m1 := msgAt_new w 25 f t k (.slice A n c) (.slice M len cap)
  obtain ⟨w1, hw1⟩ : ∃ w1, w1 = w.alloc (.cells #[.int .i64 f, .int .i64 t, .int .i64 k, .slice A n c, .slice M len cap] 25) := ⟨_, rfl⟩
  rw [← hw1] at k1 m1
  have HW := hide hw1
  have H1 := hide (henc A M n c len cap w1 (hN.keep k1) (hM.keep k1) hl)
  have K1 := hide k1
  obtain ⟨a0, a1, a2, a3, a4⟩ := m1
  clear hN hM hl k1 hw1 henc
  go_enter Try.func5, Try.ntmps5
  go_wp2_with fail
  rw [← HW.out]
  refine H1.out.mono ?_
  rintro e w3 ⟨s3, rfl, o3, k3⟩
  obtain ⟨A3, c3, rfl, _⟩ := o3.isB.form (n := 0) rfl
  have K3 := hide (below_step K1.out k3)
  clear o3 k3
  go_wp2_with fail
  refine (known_any _).mono ?_
  rintro e w7 ⟨rfl, k7⟩
  go_wp2_with fail
  go_ret
  exact ⟨rfl, below_step K3.out k7⟩
set_option maxHeartbeats 3200000 in
theorem wireBack_good (f t k : Nat) (A M R : Option Addr) (n c len cap rl rc : Nat) (zs : List Int) (xs more : List Nat) (w : World) (hN : IsI w (.slice A n c) zs) (hM : IsB w (.slice M len cap) xs) (hl : xs.length = len) (hby : ∀ x ∈ xs, x < 256)
    (hR : IsB w (.slice R rl rc) more) (hrl : more.length = rl) (hbm : ∀ x ∈ more, x < 256) (h3 : len + n + rl ≤ 4000) (hv : ValidM (f, t, k, zs, xs)) :
    Calls Try.prog 5 #[.agg #[.int .i64 f, .int .i64 t, .int .i64 k, .slice A n c, .slice M len cap], .slice R rl rc] w fun e w' => e = .returned (.bool true) ∧ Below w.heap.size w w' := by
  have k1 : Below w.heap.size w (w.alloc (.cells #[.int .i64 f, .int .i64 t, .int .i64 k, .slice A n c, .slice M len cap] 25)) := (Below.refl _ _).alloc (Nat.le_refl _) _
  have m1 := msgAt_new w 25 f t k (.slice A n c) (.slice M len cap)
  obtain ⟨w1, hw1⟩ : ∃ w1, w1 = w.alloc (.cells #[.int .i64 f, .int .i64 t, .int .i64 k, .slice A n c, .slice M len cap] 25) := ⟨_, rfl⟩
  rw [← hw1] at k1 m1
  have HW := hide hw1
  have henc := wenc_ok f t k A M n c len cap zs xs w1 (hN.keep k1) (hM.keep k1) hl hby hv
  have hbl := bodyL_len _ hv
  have hbb := bodyL_byte (f, t, k, zs, xs) hby
  have hwd := wdec_back (f, t, k, zs, xs) more hv
  have hfl := frame_len (bodyL (f, t, k, zs, xs))
  have hfb := frameL_byte hbb
  obtain ⟨p, hp⟩ : ∃ p, p = frameL (bodyL (f, t, k, zs, xs)) := ⟨_, rfl⟩
  obtain ⟨pl, hpl⟩ : ∃ pl, pl = 8 + (bodyL (f, t, k, zs, xs)).length := ⟨_, rfl⟩
  rw [← hp] at henc hwd hfl hfb
  rw [← hpl] at hwd hfl
  have hpl2 : pl ≤ 1048584 := by omega
  have HENC := hide henc
  have HWD := hide hwd
  have HFL := hide hfl
  have HFA := hide (byte_app hfb hbm)
  have HAL : Hid ((p ++ more).length = pl + rl) := by unfold Hid; rw [List.length_append, hfl, hrl]
  have IN := hide (hN.keep k1)
  have IM := hide (hM.keep k1)
  have IR := hide (hR.keep k1)
  have HL := hide hl
  have HN := hide hN.len
  have HRL := hide hrl
  have K1 := hide k1
  have M1 := hide m1
  have e1 : ((pl : Int) == (pl : Int)) = true := by simp
  obtain ⟨a0, a1, a2, a3, a4⟩ := m1
  clear hN hM hl hby k1 hw1 henc hbl hbb hwd hfl hfb hp hpl hR hrl hbm hv
  go_enter Try.func5, Try.ntmps5
  go_wp2_with fail
  rw [← HW.out]
  refine HENC.out.mono ?_
  rintro e w3 ⟨s3, rfl, o3, k3⟩
  obtain ⟨A3, c3, rfl, _⟩ := o3.isB.form (n := pl) HFL.out
  have O3 := hide o3
  have IR3 := hide (IR.out.keep k3)
  have K13 := hide k3
  clear o3 k3 a0 a1 a2 a3 a4
  go_wp2_with (at_builtin; refine halt ?_)
  refine ⟨?_⟩
  refine wpList_append_bytes rfl (.tmp 38) (.tmp 39) rfl w1.heap.size _ p rfl O3.out _ more rfl IR3.out (by rw [HFL.out, HRL.out]; omega) K13.out.size ?_
  intro s4 w4 o4 k4
  obtain ⟨A4, c4, rfl, i4, l4, m4⟩ := o4.isB.form (n := pl + rl) HAL.out
  have ka4 : Below w1.heap.size w1 w4 := K13.out.trans k4
  have I4 := hide i4
  have M4 := hide (M1.out.keep ka4)
  have IN4 := hide (IN.out.keep ka4)
  have IM4 := hide (IM.out.keep ka4)
  have K4 := hide (below_step K1.out ka4)
  have hlw4 : w.heap.size < w4.heap.size := cell_lt (M1.out.keep ka4).c0
  clear o4 k4 i4 ka4 K13 O3 IR3
  go_wp2_with fail
  refine (wdec_any A4 (pl + rl) c4 (p ++ more) w4 I4.out HAL.out HFA.out (by omega) l4 m4).mono ?_
  rintro e w5 ⟨N, D, rfl, iN, pD, k5⟩
  rw [HWD.out] at iN pD
  rw [HWD.out]
  obtain ⟨A6, c6, rfl, _⟩ := iN.form (n := n) HN.out
  obtain ⟨A7, c7, rfl, _⟩ := pD.isB.form (n := len) HL.out
  have ka : Below w5.heap.size w5 (w5.alloc (.cells #[.int .i64 f, .int .i64 t, .int .i64 k, .slice A6 n c6, .slice A7 len c7] 25)) := (Below.refl _ _).alloc (Nat.le_refl _) _
  have M5 := hide ((M4.out.keep k5).keep ka)
  have JN := hide (iN.keep ka)
  have JD := hide (pD.isB.keep ka)
  have IN5 := hide ((IN4.out.keep k5).keep ka)
  have IM5 := hide ((IM4.out.keep k5).keep ka)
  have K5 := hide (below_step (below_step K4.out k5) ka)
  obtain ⟨a0, a1, a2, a3, a4⟩ := M4.out.keep k5
  have hlw5 : w.heap.size < w5.heap.size := cell_lt a0
  clear iN pD k5 ka
  go_wp2_with fail
  refine (messages_same f t k A A6 M A7 n c c6 len cap c7 zs xs _ IN5.out JN.out IM5.out JD.out HL.out (by omega)).mono ?_
  rintro e w6 ⟨rfl, k6⟩
  have K6 := hide (below_step K5.out k6)
  clear k6
  go_wp2_with fail
  refine (known_any _).mono ?_
  rintro e w7 ⟨rfl, k7⟩
  go_wp2_with fail
  go_ret
  exact ⟨rfl, below_step K6.out k7⟩
set_option maxHeartbeats 800000 in
theorem wireBack_long (f t k : Int) (A M R : Option Addr) (n c len cap rl rc : Nat) (w : World) (h3 : ¬ len + n + rl ≤ 4000) (_h : len ≤ 140737488351232) (_h1 : n ≤ 140737488351232) (_h2 : rl ≤ 140737488351232) :
    Calls Try.prog 5 #[.agg #[.int .i64 f, .int .i64 t, .int .i64 k, .slice A n c, .slice M len cap], .slice R rl rc] w fun e w' => e = .returned (.bool true) ∧ Below w.heap.size w w' := by
  go_enter Try.func5, Try.ntmps5
  go_wp2_with fail
  go_ret
  exact ⟨rfl, box_below _ _⟩
theorem wireBack_any (f t k : Int) (A M R : Option Addr) (n c len cap rl rc : Nat) (zs : List Int) (xs more : List Nat) (w : World) (hN : IsI w (.slice A n c) zs) (hz : ∀ z ∈ zs, -9223372036854775808 ≤ z ∧ z < 9223372036854775808) (hM : IsB w (.slice M len cap) xs) (hl : xs.length = len) (hby : ∀ x ∈ xs, x < 256)
    (hR : IsB w (.slice R rl rc) more) (hrl : more.length = rl) (hbm : ∀ x ∈ more, x < 256) (s1 : len ≤ 140737488351232) (s2 : n ≤ 140737488351232) (s3 : rl ≤ 140737488351232) :
    Calls Try.prog 5 #[.agg #[.int .i64 f, .int .i64 t, .int .i64 k, .slice A n c, .slice M len cap], .slice R rl rc] w fun e w' => e = .returned (.bool true) ∧ Below w.heap.size w w' := by
  by_cases h3 : len + n + rl ≤ 4000
  · obtain ⟨res, er, _, _, hc, henc, _⟩ := enc_both f t k zs xs hz hby (by omega)
    rcases hc with ⟨rfl, rfl⟩ | ⟨rfl, f', t', k', rfl, rfl, rfl, hv, _⟩
    · exact wireBack_bad f t k A M R n c len cap rl rc zs xs w hN hM hl h3 henc
    · exact wireBack_good f' t' k' A M R n c len cap rl rc zs xs more w hN hM hl hby hR hrl hbm h3 hv
  · exact wireBack_long f t k A M R n c len cap rl rc w h3 s1 s2 s3
theorem wireEncodes_any (f t k : Int) (A M : Option Addr) (n c len cap : Nat) (zs : List Int) (xs : List Nat) (w : World) (hN : IsI w (.slice A n c) zs) (hz : ∀ z ∈ zs, -9223372036854775808 ≤ z ∧ z < 9223372036854775808) (hM : IsB w (.slice M len cap) xs) (hl : xs.length = len) (hby : ∀ x ∈ xs, x < 256) (s1 : len ≤ 140737488351232) (s2 : n ≤ 140737488351232) :
    Calls Try.prog 3 #[.agg #[.int .i64 f, .int .i64 t, .int .i64 k, .slice A n c, .slice M len cap]] w fun e w' => e = .returned (.bool true) ∧ Below w.heap.size w w' := by
  by_cases h3 : len + n ≤ 4000
  · exact wireEncodes_core f t k A M n c len cap zs xs w hN hz hM hl hby h3
  · exact wireEncodes_long f t k A M n c len cap w h3 s1 s2
end Go.Proofs.Ytjchpnmipmplkaa
