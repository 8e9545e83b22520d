/- The contract of strip.Cut: the shards, or refused. Condition: at most 900000 bytes. The contract of the law's own known(). No condition. The walk of the law StripFiles. -/
import Derived.Test.YtehgjkckhjggbaaSf13
import Derived.Test.YtehgjkckhjggbaaSf16
import Derived.Test.YtehgjkckhjggbaaSf9
import Derived.Test.YtehgjkckhjggbaaSf17
import Derived.Test.YtehgjkckhjggbaaSf10
import Derived.Test.YtehgjkckhjggbaaSf18
import Derived.Test.YtehgjkckhjggbaaSf20
import Derived.Test.YtehgjkckhjggbaaSf11
namespace Go.Proofs.Ytehgjkckhjggbaa
open Go.RowKit
/-- What Cut refuses, and what it answers. -/
def stripsBad (b : List Nat) (k m : Int) : Prop := (k < 1 ∨ m < 0 ∨ 14 < k + m) ∨ b.length = 0
instance (b : List Nat) (k m : Int) : Decidable (stripsBad b k m) := by unfold stripsBad; infer_instance
def stripsE (b : List Nat) (k m : Int) : Int := if stripsBad b k m then 1 else 0
def stripsL (b : List Nat) (k m : Int) : ML := if stripsBad b k m then [] else wordL k.toNat m.toNat (hgt b.length k.toNat * 16) (srcS b k.toNat)
theorem dataS_word (b : List Nat) (k m : Nat) : wordL k m (hgt b.length k * 16) (en (dataS b k)) = wordL k m (hgt b.length k * 16) (srcS b k) :=
  wordL_congr (fun _ hj _ hx => laid_at _ hj hx)
theorem dataS_bad {b : List Nat} {k : Nat} {m : Int} (hk : 1 ≤ k) (hb : 1 ≤ b.length) (hm : 0 ≤ m) (h14 : (k : Int) + m ≤ 14) : ¬ sumsBad (dataS b k) m := by
  have hs := dataS_shape b k
  have hp := hgt_pos (n := b.length) hk hb
  rintro (q | q | q | ⟨r, hr, q⟩)
  · rw [dataS_len] at q; omega
  · omega
  · rw [dataS_len] at q; omega
  · have h0 := hs.wide r hr
    rcases q with q | q
    · rw [q] at h0; simp at h0; omega
    · exact q (by rw [h0, (hs.row (i := 0) (by omega)).1])
theorem cut_sums {b : List Nat} {k m : Nat} {L : ML} {E : Int} (hk : 1 ≤ k) (hb : 1 ≤ b.length) (h14 : k + m ≤ 14) (h : sumsAns (dataS b k) (m : Int) L E) : E = 0 ∧ L.length = m ∧ dataS b k ++ L = wordL k m (hgt b.length k * 16) (srcS b k) := by
  have hno := dataS_bad (m := (m : Int)) hk hb (by omega) (by omega)
  rcases h with ⟨_, _, q⟩ | ⟨rfl, _, hL⟩
  · exact absurd q hno
  · obtain ⟨b', n', e1, _, _, _, en', el, ew⟩ := sums_all (.inr ⟨rfl, hno, hL⟩) (dataS_shape b k).byte
    have e1 : m = b' := by omega
    subst e1
    have e3 : n' = hgt b.length k * 16 := by rw [en', (dataS_shape b k |>.row (i := 0) (by omega)).1]
    rw [e3, dataS_len, dataS_word] at ew
    exact ⟨rfl, el, ew⟩
set_option maxRecDepth 100000 in
set_option maxHeartbeats 6400000 in
theorem cut_any (A : Option Addr) (n c : Nat) (k m : Int) (b : List Nat) (w : World) (hA : IsB w (.slice A n c) b) (hn : b.length = n) (hb : ∀ x ∈ b, x < 256) (h9 : n ≤ 900000) (ik : I64 k) (im : I64 m) :
    Calls Try.prog 27 #[.slice A n c, .int .i64 k, .int .i64 m] w fun e w' => ∃ v, e = .returned (.tuple #[v, .int .i64 (stripsE b k m)]) ∧ Held w' w.heap.size v (stripsL b k m) ∧ Below w.heap.size w w' := by
  have HA := hide hA
  have HN := hide hn
  have HB := hide hb
  have HC := hide (code_all k m w ik.1 ik.2 im.1 im.2)
  by_cases hbad : k < 1 ∨ m < 0 ∨ 14 < k + m
  · have e1 : codeE k m = 1 := if_pos hbad
    rw [e1] at HC
    have r1 : stripsE b k m = 1 := if_pos (.inl hbad)
    have r2 : stripsL b k m = [] := if_pos (.inl hbad)
    rw [r1, r2]
    clear hA hn hb ik im hbad e1 r1 r2
    go_enter Try.func27, Try.ntmps27
    go_wp2_with fail
    refine HC.out.mono ?_
    rintro e w1 ⟨v, rfl, o1, k1⟩
    go_wp2_with fail
    go_ret2
    exact ⟨_, rfl, Held.nil _ _, k1⟩
  · have e1 : codeE k m = 0 := if_neg hbad
    rw [e1] at HC
    by_cases hn0 : n = 0
    · subst hn0
      have r1 : stripsE b k m = 1 := if_pos (.inr hn)
      have r2 : stripsL b k m = [] := if_pos (.inr hn)
      rw [r1, r2]
      clear hA hn hb ik im hbad e1 r1 r2
      go_enter Try.func27, Try.ntmps27
      go_wp2_with fail
      refine HC.out.mono ?_
      rintro e w1 ⟨v, rfl, o1, k1⟩
      go_wp2_with fail
      go_ret2
      exact ⟨_, rfl, Held.nil _ _, k1⟩
    · have hno : ¬ stripsBad b k m := fun h => h.elim hbad (fun h => hn0 (by omega))
      have r1 : stripsE b k m = 0 := if_neg hno
      have r2 : stripsL b k m = wordL k.toNat m.toNat (hgt b.length k.toNat * 16) (srcS b k.toNat) := if_neg hno
      rw [r1, r2]
      obtain ⟨a, rfl⟩ : ∃ a : Nat, k = (a : Int) := ⟨k.toNat, by omega⟩
      obtain ⟨d, rfl⟩ : ∃ d : Nat, m = (d : Int) := ⟨m.toNat, by omega⟩
      rw [Int.toNat_natCast, Int.toNat_natCast]
      have h1 : 1 ≤ a := by omega
      have h14 : a + d ≤ 14 := by omega
      have hb1 : 1 ≤ b.length := by omega
      obtain ⟨H, hH⟩ : ∃ H, H = hgt b.length a := ⟨_, rfl⟩
      have hHB : H ≤ 56251 := by rw [hH]; have := hgt_le (n := b.length) h1; unfold blks at this; omega
      obtain ⟨nb, hnb⟩ : ∃ nb, nb = blks n := ⟨_, rfl⟩
      have hup : nb ≤ H * a := by rw [hnb, hH, ← hn]; exact hgt_up h1
      have hnb2 : nb ≤ 56251 := by rw [hnb]; unfold blks; omega
      have HHC := height_any n a
      rw [show hgt n a = H by rw [hH, hn]] at HHC
      have HBC := blocks_any n
      rw [← hnb] at HBC
      have HHC := hide HHC
      have HBC := hide HBC
      have HS := hide (fun (L : ML) (E : Int) (h : sumsAns (dataS b a) (d : Int) L E) => cut_sums h1 hb1 h14 h)
      rw [← hH] at HS ⊢
      have HHH := hide hH
      have HNB := hide hnb
      have hn00 : ¬ (n : Int) = 0 := by omega
      have hn01 : ((n : Int) == 0) = false := by simp; omega
      have hn4 : ((4194304 : Int) < (n : Int)) = False := by simp; omega
      obtain ⟨ab, ao, rfl⟩ := isB_at hA (by omega)
      have hcn : n ≤ c := (isB_len hA).2.1
      have HUP := hide hup
      clear hA hn hb ik im hbad e1 r1 r2 hno hb1 hH hnb hup
      go_enter Try.func27, Try.ntmps27
      go_wp2_with fail
      refine HC.out.mono ?_
      rintro e w1 ⟨v, rfl, o1, k1⟩
      have K1 := hide k1
      clear k1 o1 HC
      go_wp2_with fail
      refine (HHC.out w1 (by omega) h1 (by omega)).mono ?_
      rintro e w2 ⟨rfl, rfl⟩
      go_wp2_with fail
      refine (spnoughts_any a H w1 (by omega) (by omega)).mono ?_
      rintro e w2 ⟨g, R, rfl, g2, k2⟩
      have G2 := hide (g2.more K1.out.size)
      have K2 := hide (K1.out.trans (k2.mono K1.out.size))
      clear g2 k2 K1
      go_wp2_with fail
      refine (HBC.out w2 (by omega)).mono ?_
      rintro e w3 ⟨rfl, rfl⟩
      go_wp2_with fail
      go_loopw [40] (fun i wr => ∃ j : Nat, j ≤ nb ∧ i = .int .i64 (j : Int) ∧ Hid (∃ f, Grid wr w.heap.size g a (H * 16) R f ∧ ∀ x y, x < a → f x y = partS b a j x y) ∧ Hid (Below w.heap.size w wr)) (fun i _ => nb - (intOf i).toNat)
      case atStart => exact ⟨0, Nat.zero_le _, rfl, hide ⟨_, G2.out, fun x y _ => by rw [partS_none]⟩, K2⟩
      case round =>
        clear G2 K2
        obtain ⟨j, hj, rfl, hG, hK⟩ := hrel
        by_cases hlt : j < nb
        · have hji : (j : Int) < (nb : Int) := by omega
          have hj16 : j * 16 < n := by have h := HNB.out; unfold blks at h; omega
          obtain ⟨at_, hat⟩ : ∃ a, a = j * 16 := ⟨_, rfl⟩
          have hatz : (j : Int) * 16 = (at_ : Int) := by omega
          have hat2 : at_ < n := by omega
          have hat3 : at_ ≤ 900000 := by omega
          obtain ⟨en, hen⟩ : ∃ en, en = min (at_ + 16) n := ⟨_, rfl⟩
          have hmn : (if (n : Int) < (at_ : Int) + 16 then (n : Int) else (at_ : Int) + 16) = (en : Int) := by split <;> omega
          have hle1 : at_ < en := by omega
          have hle2 : en ≤ n := by omega
          have hle3 : en ≤ at_ + 16 := by omega
          have hw1 : IntKind.i64.wrap ((at_ : Int) + 16) = (at_ : Int) + 16 := by rw [IntKind.wrap_i64]; omega
          have hc1 : ¬ c = at_ := by omega
          have hc2 : ¬ at_ = c := by omega
          have h01 : (0 : Int) ≤ (at_ : Int) := by omega
          have h02 : (at_ : Int) ≤ (en : Int) := by omega
          have h03 : (en : Int) ≤ (c : Int) := by omega
          have HAT := hide hat
          have HEN := hide hen
          clear hat hen
          go_wp2_with fail
          obtain ⟨f, hf, hfe⟩ := hG.out
          have HF := hide hf
          have HFE := hide hfe
          have IB := hide (isB_sub (HA.out.keep hK.out) at_ (en - at_) (c - at_) (by omega) rfl)
          have HXL : Hid (((b.drop at_).take (en - at_)).length = en - at_) := hide (by rw [List.length_take, List.length_drop, HN.out]; omega)
          have HXB : Hid (∀ x ∈ (b.drop at_).take (en - at_), x < 256) := hide (fun x hx => HB.out x (List.mem_of_mem_drop (List.mem_of_mem_take hx)))
          have hji2 : j / a < H := Nat.div_lt_of_lt_mul (by have := HUP.out; rw [Nat.mul_comm]; omega)
          have HJM := hide (Nat.mod_lt j (show a > 0 by omega))
          have HROW : Hid (j / a * 16 + (en - at_) ≤ H * 16) := hide (by omega)
          clear hf hfe hG
          go_region_law (first
            | (go_simp; go_at_call 64; refine (spot_any j a _ (by omega) h1 (by omega)).mono ?_; rintro e w4 ⟨rfl, k4⟩; have K4 : Hid (Below wr.heap.size wr w4) := hide (by refine Below.trans ?_ k4; exact ⟨rfl, rfl, rfl, Nat.le_refl _, fun _ _ => rfl⟩); clear k4)
            | (go_simp; go_at_call 63; refine (splay_any (HF.out.keep K4.out) (j % a) (j / a) HJM.out (some ⟨ab, ao + at_, none⟩) (en - at_) (c - at_) ((b.drop at_).take (en - at_)) (IB.out.keep K4.out).rd HXL.out (by omega) HROW.out (by omega) HXB.out).mono ?_; rintro e w5 ⟨rfl, g5, b5, t5⟩))
          all_goals
            have G5 : Hid (∃ f, Grid w5 w.heap.size g a (H * 16) R f ∧ ∀ x y, x < a → f x y = partS b a (j + 1) x y) := hide ⟨_, g5, fun x y hx => by
              have h9 := HEN.out
              have h8 := HAT.out
              rw [← partS_step (n := en - at_) h1 (by rw [HN.out]; omega) x y hx]
              unfold updAt
              by_cases hc : x = j % a ∧ j / a * 16 ≤ y ∧ y < j / a * 16 + (en - at_)
              · rw [if_pos hc, if_pos hc]; dsimp only; rw [getD_sub (by omega), h8]
              · rw [if_neg hc, if_neg hc, HFE.out x y hx]⟩
            have K5 : Hid (Below w.heap.size w w5) := hide (b5 w (hK.out.trans (K4.out.mono hK.out.size)))
            clear g5 b5 t5
            go_wp2_with fail
            go_roundw
            case rel => exact ⟨j + 1, by omega, by go_num, G5, K5⟩
            case measure => simp [intOf]; omega
        · obtain rfl : j = nb := by omega
          have hji : ¬ ((j : Int) < (j : Int)) := by omega
          obtain ⟨f, hf, hfe⟩ := hG.out
          have hD : laid a (H * 16) f = dataS b a := by
            unfold dataS
            rw [← HHH.out]
            refine laid_congr (fun x hx y _ => ?_)
            rw [hfe x y hx, partS_all (by rw [HN.out, HNB.out]; unfold blks; omega)]
          have OW := hf.own (by omega) (by omega)
          rw [hD] at OW
          have HLD := hide OW.held
          have SM : SmallM wr (some ⟨g, 0, none⟩) a (dataS b a) := ⟨OW.isM.1, dataS_len b a, by omega, (dataS_shape b a).byte, fun r hr => by rw [(dataS_shape b a).wide r hr, ← HHH.out]; omega⟩
          have SC := hide (sumsC (some ⟨g, 0, none⟩) a a (d : Int) (dataS b a) wr SM (by unfold I64; omega))
          clear hG hf hfe hD OW SM
          go_wp2_with fail
          refine SC.out.mono ?_
          rintro e w6 ⟨v6, L6, E6, rfl, ou6, ow6, an6, k6⟩
          obtain ⟨rfl, hl6, hw6⟩ := HS.out L6 E6 an6
          have ow6 := ow6.more hK.out.size
          obtain ⟨A6, c6, rfl, ro6, m6⟩ := ow6.held.form hl6
          have RO6 := hide ro6
          have NC6 := hide ow6.nilc
          have HL6 := hide (HLD.out.keep k6)
          have K6 := hide (hK.out.trans (k6.mono hK.out.size))
          have LL6 := hide hl6
          have HW6 := hide hw6
          clear ou6 ow6 an6 k6 ro6 m6 hl6 hw6 HLD SC hK
          go_wp2_with (at_builtin; refine halt ?_)
          refine ⟨?_⟩
          refine wpList_append_helds rfl (.tmp 65) (.tmp 66) rfl w.heap.size _ (dataS b a) rfl HL6.out A6 d c6 L6 rfl RO6.out LL6.out NC6.out (by rw [dataS_len]; omega) K6.out.size ?_
          intro v7 w7 h7 k7
          rw [HW6.out] at h7
          have H7 := hide h7
          have K7 := hide (K6.out.trans (k7.mono (Nat.le_refl _)))
          clear h7 k7
          go_wp2_with fail
          go_ret2
          exact ⟨v7, rfl, H7.out, K7.out⟩
end Go.Proofs.Ytehgjkckhjggbaa
namespace Go.Proofs.Ytehgjkckhjggbaa
open Go.RowKit
theorem known_facts : stripsE (List.replicate 40 0) 2 1 = 0 ∧ (stripsL (List.replicate 40 0) 2 1).length = 3 ∧ ((stripsL (List.replicate 40 0) 2 1).getD 0 []).length = 32 ∧ ((stripsL (List.replicate 40 0) 2 1).getD 2 []).length = 32 := by
  have hno : ¬ stripsBad (List.replicate 40 0) 2 1 := by unfold stripsBad; simp
  have e : stripsL (List.replicate 40 0) 2 1 = wordL 2 1 32 (srcS (List.replicate 40 0) 2) := by
    unfold stripsL
    rw [if_neg hno, List.length_replicate]
    rfl
  have hs := wordL_shape 2 1 32 (srcS (List.replicate 40 0) 2)
  rw [e]
  exact ⟨if_neg hno, wordL_len _ _ _ _, (hs.row (i := 0) (by decide)).1, (hs.row (i := 2) (by decide)).1⟩
set_option maxRecDepth 100000 in
set_option maxHeartbeats 1600000 in
theorem known_any (w : World) : Calls Try.prog 31 #[] w fun e w' => e = .returned (.bool true) ∧ Below w.heap.size w w' := by
  obtain ⟨i1, hj, hy0, hy1, hy2⟩ := info_parts Try.info_u8'
  have KF := hide known_facts
  obtain ⟨Z, hZ⟩ : ∃ Z, Z = List.replicate 40 0 := ⟨_, rfl⟩
  rw [← hZ] at KF
  have HZ := hide hZ
  obtain ⟨L, hL⟩ : ∃ L, L = stripsL Z 2 1 := ⟨_, rfl⟩
  rw [← hL] at KF
  have HL := hide hL
  clear hZ hL
  go_enter Try.func31, Try.ntmps31
  go_wp2_with (at_make; refine halt ?_)
  refine ⟨?_⟩
  refine wpList_make_full _ rfl (.const (.int .i64 40)) (.const (.int .i64 40)) 23 rfl w.heap.size 5 i1 (.int .u8 0) 1 Try.underlying23 hj hy0 hy1 .i64 .i64 40 40 40 rfl rfl rfl rfl (by rw [hy2]; omega) (by unfold maxLen; omega) (Nat.le_refl _) ?_
  intro w2 h2 g2
  have o2 := made_bytes (n := 40) h2
  rw [← HZ.out] at o2
  have k2 : Below w.heap.size w w2 := (Below.refl _ _).grown g2 (Nat.le_refl _) (by simp)
  have I2 := hide o2.isB
  have K2 := hide k2
  clear h2 g2 o2 k2 hj hy0 hy1 hy2
  go_wp2_with fail
  refine (cut_any _ 40 40 2 1 Z w2 I2.out (by rw [HZ.out]; rfl) (by rw [HZ.out]; intro x hx; rw [(List.mem_replicate.1 hx).2]; decide) (by omega) (by unfold I64; omega) (by unfold I64; omega)).mono ?_
  rintro e w3 ⟨v, rfl, h3, k3⟩
  rw [KF.out.1]
  rw [← HL.out] at h3
  obtain ⟨A3, c3, rfl, r3, m3⟩ := h3.form KF.out.2.1
  obtain ⟨b, off, A', c', e, q0, _, _, _⟩ := r3.isM.at_ 0 (by rw [KF.out.2.1]; decide)
  subst e
  obtain ⟨b', off', A2', c2', e, q2, _, _, _⟩ := r3.isM.at_ 2 (by rw [KF.out.2.1]; decide)
  cases e
  rw [KF.out.2.2.1] at q0
  rw [KF.out.2.2.2] at q2
  have q0 : w3.cell? ⟨b, off, none⟩ = some (.slice A' 32 c') := q0
  have K3 := hide (K2.out.trans (k3.mono K2.out.size))
  clear h3 k3 r3 m3
  go_wp2_with fail
  go_ret
  exact ⟨rfl, K3.out⟩
end Go.Proofs.Ytehgjkckhjggbaa
namespace Go.Proofs.Ytehgjkckhjggbaa
open Go.RowKit
attribute [local go_sem] Oper.semAt_some
theorem fileL_len_le (id i size : Int) (xs : List Nat) : (fileL id i size xs).length ≤ 20 + xs.length / 16 * 20 := by
  unfold fileL
  split
  · simp
  · rename_i h
    have h16 : xs.length % 16 = 0 := Decidable.byContradiction fun e => h (.inr (.inr e))
    rw [fileB_len h16]
    exact Nat.le_refl _
set_option maxRecDepth 100000 in
set_option maxHeartbeats 3200000 in
theorem reads_any (A : Option Addr) (n c : Nat) (b : List Nat) (w : World) (hA : IsB w (.slice A n c) b) (hn : b.length = n) (hb : ∀ x ∈ b, x < 256) (h9 : n ≤ 800000) :
    Calls Try.prog 35 #[.slice A n c] w fun e w' => e = .returned (.bool true) ∧ Below w.heap.size w w' := by
  have HA := hide hA
  have HN := hide hn
  have CP := hide (fun (A : Option Addr) (c : Nat) (w : World) (hA : IsB w (.slice A n c) b) => read_any A n c b w hA hn hb (by omega))
  have CR := hide (fun (A : Option Addr) (c : Nat) (w : World) (hA : IsB w (.slice A n c) b) => rread_any A n c b w hA hn hb (by omega))
  unfold ReadAns at CP
  unfold RReadAns at CR
  obtain ⟨R, hR⟩ : ∃ R, R = readS b := ⟨_, rfl⟩
  rw [← hR] at CP CR
  obtain ⟨r0, r1, r2, r3, rows⟩ := R
  dsimp only at CP CR
  have z0 : ((r0 : Int) == (r0 : Int)) = true := by simp
  have z1 : ((r1 : Int) == (r1 : Int)) = true := by simp
  have z2 : ((r2 : Int) == (r2 : Int)) = true := by simp
  have z3 : ((r3 : Int) == (r3 : Int)) = true := by simp
  clear hA hn hb hR
  go_enter Try.func35, Try.ntmps35
  go_wp2_with fail
  refine (roomy_any A n c b w HA.out HN.out (by omega)).mono ?_
  rintro e w1 ⟨A1, c1, rfl, i1, l1, m1, k1⟩
  have i1t := i1.take n (by omega)
  rw [List.take_left' HN.out] at i1t
  have I1 := hide i1
  have I1T := hide i1t
  have K1 := hide k1
  have hnc : (n : Int) ≤ (c1 : Int) := by omega
  clear i1 i1t k1
  go_wp2_with fail
  refine (CP.out A1 c1 w1 I1T.out).mono ?_
  rintro e w2 ⟨v2, rfl, h2, k2⟩
  obtain ⟨A2, c2, rfl, r2', m2⟩ := h2.form (n := rows.length) rfl
  have R2 := hide h2.isM.1
  have K2 := hide (K1.out.trans (k2.mono K1.out.size))
  have I2 := hide (I1.out.keep k2)
  clear h2 r2' k2 K1 I1 I1T CP
  go_wp2_with fail
  refine (CR.out A c w2 (HA.out.keep K2.out)).mono ?_
  rintro e w3 ⟨v3, rfl, h3, k3⟩
  obtain ⟨A3, c3, rfl, r3', m3⟩ := h3.form (n := rows.length) rfl
  have k4 := below_alloc w3 (.cells #[.int .i64 (r1 : Int), .int .i64 (r2 : Int), .int .i64 (r3 : Int), .slice A3 rows.length c3] 133)
  have b4 := Blk.new w3 (B := 0) 133 #[.int .i64 (r1 : Int), .int .i64 (r2 : Int), .int .i64 (r3 : Int), .slice A3 rows.length c3] (Nat.zero_le _)
  have q0 := b4.cell 0
  have q1 := b4.cell 1
  have q2 := b4.cell 2
  have q3 := b4.cell 3
  dsimp only [Array.toList, List.getElem?_cons_zero, List.getElem?_cons_succ] at q0 q1 q2 q3
  have R3 := hide (h3.isM.1.below k4)
  have R2 := hide ((R2.out.below k3).below k4)
  have K3 := hide ((K2.out.trans (k3.mono K2.out.size)).trans (k4.mono (Nat.le_trans K2.out.size k3.size)))
  have I3 := hide ((I2.out.keep k3).keep k4)
  clear h3 r3' k3 k4 b4 K2 I2 CR
  go_wp2_with fail
  clear q0 q1 q2 q3
  generalize w3.alloc (.cells #[.int .i64 (r1 : Int), .int .i64 (r2 : Int), .int .i64 (r3 : Int), .slice A3 rows.length c3] 133) = W3 at *
  refine (rows_same A2 A3 rows.length c2 c3 rows W3 R2.out R3.out rfl m2).mono ?_
  rintro e w4 ⟨rfl, d4, rfl⟩
  have K4 := hide (below_drewN K3.out d4)
  have I4 : Hid (IsB (W3.drewN d4) (.slice A1 (n + 1) c1) (b ++ [171])) := hide (I3.out)
  have HA4 := hide (HA.out.keep K4.out)
  generalize W3.drewN d4 = W4 at *
  go_wp2_with fail
  refine (stands_any A1 c1 A n c b W4 I4.out HA4.out HN.out (by omega) (by omega) m1).mono ?_
  rintro e w5 ⟨rfl, d5, rfl⟩
  have K5 := hide (below_drewN K4.out d5)
  generalize W4.drewN d5 = W5 at *
  go_wp2_with fail
  go_ret
  exact ⟨rfl, K5.out⟩
set_option maxRecDepth 100000 in
set_option maxHeartbeats 3200000 in
theorem stripFiles_core (id i size : Int) (A : Option Addr) (n c : Nat) (xs : List Nat) (A' : Option Addr) (n' c' : Nat) (ys : List Nat) (w : World) (hA : IsB w (.slice A n c) xs) (hn : xs.length = n) (hb : ∀ x ∈ xs, x < 256) (hl : n ≤ 140737488351232)
    (hA' : IsB w (.slice A' n' c') ys) (hn' : ys.length = n') (hb' : ∀ x ∈ ys, x < 256) (hl' : n' ≤ 140737488351232) :
    Calls Try.prog 8 #[.int .i64 id, .int .i64 i, .int .i64 size, .slice A n c, .slice A' n' c'] w fun e w' => e = .returned (.bool true) ∧ Below w.heap.size w w' := by
  by_cases h3 : 3000 < n + n'
  · have h3z : (3000 : Int) < (n : Int) + (n' : Int) := by omega
    clear h3
    go_enter Try.func8, Try.ntmps8
    go_wp2_with fail
    go_ret
    exact ⟨rfl, Below.refl _ _⟩
  · have h3z : ¬ (3000 : Int) < (n : Int) + (n' : Int) := by omega
    have HA := hide hA
    have HA' := hide hA'
    have HN' := hide hn'
    have HB' := hide hb'
    obtain ⟨E, hE⟩ : ∃ E, E = fileE id i size xs := ⟨_, rfl⟩
    obtain ⟨L, hL⟩ : ∃ L, L = fileL id i size xs := ⟨_, rfl⟩
    have hLb : ∀ x ∈ L, x < 256 := by rw [hL]; exact fileL_byte hb
    have hLl : L.length ≤ 4000 := by have := fileL_len_le id i size xs; rw [hL]; omega
    have CP := hide (file_any id i size A n c xs w hA hn hb (by omega))
    have CR := hide (fun (w : World) (hA : IsB w (.slice A n c) xs) => rfile_any id i size A n c xs w hA hn hb (by omega))
    rw [← hE, ← hL] at CP CR
    obtain ⟨l, hl9⟩ : ∃ l, l = L.length := ⟨_, rfl⟩
    rw [← hl9] at hLl
    have HLL := hide hl9.symm
    have HLB := hide hLb
    have hEz : (E != E) = false := by simp
    have hn9 : n' ≤ 3000 := by omega
    clear hA hn hb hA' hn' hb' hE hL hl9 hLb h3
    go_enter Try.func8, Try.ntmps8
    go_wp2_with fail
    refine CP.out.mono ?_
    rintro e w1 ⟨s1, rfl, o1, k1⟩
    obtain ⟨A1, c1, rfl, i1, l1, m1⟩ := o1.isB.form HLL.out
    have I1 := hide i1
    have K1 := hide k1
    clear o1 k1 i1
    go_wp2_with fail
    refine (CR.out w1 (HA.out.keep K1.out)).mono ?_
    rintro e w2 ⟨s2, rfl, o2, k2⟩
    obtain ⟨A2, c2, rfl, i2, l2, m2⟩ := o2.isB.form HLL.out
    have I2 := hide i2
    have K2 := hide (K1.out.trans (k2.mono K1.out.size))
    have I1 := hide (I1.out.keep k2)
    clear o2 k2 i2 CP CR
    go_wp2_with fail
    refine (same_any A1 A2 l l c1 c2 L L w2 I1.out.rd I2.out.rd HLL.out.symm HLL.out.symm (by omega) (by omega)).mono ?_
    rintro e w3 ⟨rfl, d, rfl⟩
    rw [decide_eq_true rfl]
    have K3 := hide (below_drewN K2.out d)
    have I3 : Hid (IsB (w2.drewN d) (.slice A1 l c1) L) := hide (I1.out.drewN d)
    generalize w2.drewN d = W3 at *
    go_wp2_with fail
    refine (reads_any A1 l c1 L W3 I3.out HLL.out HLB.out (by omega)).mono ?_
    rintro e w4 ⟨rfl, k4⟩
    have K4 := hide (K3.out.trans (k4.mono K3.out.size))
    clear k4
    go_wp2_with fail
    refine (reads_any A' n' c' ys w4 (HA'.out.keep K4.out) HN'.out HB'.out (by omega)).mono ?_
    rintro e w5 ⟨rfl, k5⟩
    have K5 := hide (K4.out.trans (k5.mono K4.out.size))
    clear k5
    go_wp2_with fail
    refine (known_any w5).mono ?_
    rintro e w6 ⟨rfl, k6⟩
    have K6 := hide (K5.out.trans (k6.mono K5.out.size))
    clear k6
    go_wp2_with fail
    go_ret
    exact ⟨rfl, K6.out⟩
theorem stripFiles_walk (a0 a1 a2 : Int) (a3 : Option Addr) (len3 cap3 : Nat) (x3 : List Nat) (a4 : Option Addr) (len4 cap4 : Nat) (x4 : List Nat) (W : World) (_ : (Lit.int .i64 a0).wf = true) (_ : (Lit.int .i64 a1).wf = true) (_ : (Lit.int .i64 a2).wf = true)
    (w3 : IsB W (.slice a3 len3 cap3) x3) (n3 : x3.length = len3) (y3 : ∀ x ∈ x3, x < 256) (l3 : len3 ≤ 140737488351232) (w4 : IsB W (.slice a4 len4 cap4) x4) (n4 : x4.length = len4) (y4 : ∀ x ∈ x4, x < 256) (l4 : len4 ≤ 140737488351232) :
    Calls Try.prog 8 #[.int .i64 a0, .int .i64 a1, .int .i64 a2, .slice a3 len3 cap3, .slice a4 len4 cap4] W fun e w' => e = .returned (.bool true) ∧ Below W.heap.size W w' :=
  stripFiles_core a0 a1 a2 a3 len3 cap3 x3 a4 len4 cap4 x4 W w3 n3 y3 l3 w4 n4 y4 l4
end Go.Proofs.Ytehgjkckhjggbaa
