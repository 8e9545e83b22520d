/- The contract of strip.Cut: the shards, or refused. Condition: at most 900000 bytes. The contract of the law's own known(). No condition. -/
import Derived.Test.YtdbngchbhoanpaaSr16
import Derived.Test.YtdbngchbhoanpaaSr18
import Derived.Test.YtdbngchbhoanpaaSr10
namespace Go.Proofs.Ytdbngchbhoanpaa
open Go.RowKit
/-- What Cut refuses, and what it answers. -/
def stripsBad (b : List Nat) (k m : Int) : Prop := (k < 1 ∨ m < 0 ∨ 14 < k + m) ∨ b.length = 0
instance (b : List Nat) (k m : Int) : Decidable (stripsBad b k m) := by unfold stripsBad; infer_instance
def stripsE (b : List Nat) (k m : Int) : Int := if stripsBad b k m then 1 else 0
def stripsL (b : List Nat) (k m : Int) : ML := if stripsBad b k m then [] else wordL k.toNat m.toNat (hgt b.length k.toNat * 16) (srcS b k.toNat)
theorem dataS_word (b : List Nat) (k m : Nat) : wordL k m (hgt b.length k * 16) (en (dataS b k)) = wordL k m (hgt b.length k * 16) (srcS b k) :=
  wordL_congr (fun _ hj _ hx => laid_at _ hj hx)
theorem dataS_bad {b : List Nat} {k : Nat} {m : Int} (hk : 1 ≤ k) (hb : 1 ≤ b.length) (hm : 0 ≤ m) (h14 : (k : Int) + m ≤ 14) : ¬ sumsBad (dataS b k) m := by
  have hs := dataS_shape b k
  have hp := hgt_pos (n := b.length) hk hb
  rintro (q | q | q | ⟨r, hr, q⟩)
  · rw [dataS_len] at q; omega
  · omega
  · rw [dataS_len] at q; omega
  · have h0 := hs.wide r hr
    rcases q with q | q
    · rw [q] at h0; simp at h0; omega
    · exact q (by rw [h0, (hs.row (i := 0) (by omega)).1])
theorem cut_sums {b : List Nat} {k m : Nat} {L : ML} {E : Int} (hk : 1 ≤ k) (hb : 1 ≤ b.length) (h14 : k + m ≤ 14) (h : sumsAns (dataS b k) (m : Int) L E) : E = 0 ∧ L.length = m ∧ dataS b k ++ L = wordL k m (hgt b.length k * 16) (srcS b k) := by
  have hno := dataS_bad (m := (m : Int)) hk hb (by omega) (by omega)
  rcases h with ⟨_, _, q⟩ | ⟨rfl, _, hL⟩
  · exact absurd q hno
  · obtain ⟨b', n', e1, _, _, _, en', el, ew⟩ := sums_all (.inr ⟨rfl, hno, hL⟩) (dataS_shape b k).byte
    have e1 : m = b' := by omega
    subst e1
    have e3 : n' = hgt b.length k * 16 := by rw [en', (dataS_shape b k |>.row (i := 0) (by omega)).1]
    rw [e3, dataS_len, dataS_word] at ew
    exact ⟨rfl, el, ew⟩
set_option maxRecDepth 100000 in
set_option maxHeartbeats 6400000 in
theorem cut_any (A : Option Addr) (n c : Nat) (k m : Int) (b : List Nat) (w : World) (hA : IsB w (.slice A n c) b) (hn : b.length = n) (hb : ∀ x ∈ b, x < 256) (h9 : n ≤ 900000) (ik : I64 k) (im : I64 m) :
    Calls Try.prog 21 #[.slice A n c, .int .i64 k, .int .i64 m] w fun e w' => ∃ v, e = .returned (.tuple #[v, .int .i64 (stripsE b k m)]) ∧ Held w' w.heap.size v (stripsL b k m) ∧ Below w.heap.size w w' := by
  have HA := hide hA
  have HN := hide hn
  have HB := hide hb
  have HC := hide (code_all k m w ik.1 ik.2 im.1 im.2)
  by_cases hbad : k < 1 ∨ m < 0 ∨ 14 < k + m
  · have e1 : codeE k m = 1 := if_pos hbad
    rw [e1] at HC
    have r1 : stripsE b k m = 1 := if_pos (.inl hbad)
    have r2 : stripsL b k m = [] := if_pos (.inl hbad)
    rw [r1, r2]
    clear hA hn hb ik im hbad e1 r1 r2
    go_enter Try.func21, Try.ntmps21
    go_wp2_with fail
    refine HC.out.mono ?_
    rintro e w1 ⟨v, rfl, o1, k1⟩
    go_wp2_with fail
    go_ret2
    exact ⟨_, rfl, Held.nil _ _, k1⟩
  · have e1 : codeE k m = 0 := if_neg hbad
    rw [e1] at HC
    by_cases hn0 : n = 0
    · subst hn0
      have r1 : stripsE b k m = 1 := if_pos (.inr hn)
      have r2 : stripsL b k m = [] := if_pos (.inr hn)
      rw [r1, r2]
      clear hA hn hb ik im hbad e1 r1 r2
      go_enter Try.func21, Try.ntmps21
      go_wp2_with fail
      refine HC.out.mono ?_
      rintro e w1 ⟨v, rfl, o1, k1⟩
      go_wp2_with fail
      go_ret2
      exact ⟨_, rfl, Held.nil _ _, k1⟩
    · have hno : ¬ stripsBad b k m := fun h => h.elim hbad (fun h => hn0 (by omega))
      have r1 : stripsE b k m = 0 := if_neg hno
      have r2 : stripsL b k m = wordL k.toNat m.toNat (hgt b.length k.toNat * 16) (srcS b k.toNat) := if_neg hno
      rw [r1, r2]
      obtain ⟨a, rfl⟩ : ∃ a : Nat, k = (a : Int) := ⟨k.toNat, by omega⟩
      obtain ⟨d, rfl⟩ : ∃ d : Nat, m = (d : Int) := ⟨m.toNat, by omega⟩
      rw [Int.toNat_natCast, Int.toNat_natCast]
      have h1 : 1 ≤ a := by omega
      have h14 : a + d ≤ 14 := by omega
      have hb1 : 1 ≤ b.length := by omega
      obtain ⟨H, hH⟩ : ∃ H, H = hgt b.length a := ⟨_, rfl⟩
      have hHB : H ≤ 56251 := by rw [hH]; have := hgt_le (n := b.length) h1; unfold blks at this; omega
      obtain ⟨nb, hnb⟩ : ∃ nb, nb = blks n := ⟨_, rfl⟩
      have hup : nb ≤ H * a := by rw [hnb, hH, ← hn]; exact hgt_up h1
      have hnb2 : nb ≤ 56251 := by rw [hnb]; unfold blks; omega
      have HHC := height_any n a
      rw [show hgt n a = H by rw [hH, hn]] at HHC
      have HBC := blocks_any n
      rw [← hnb] at HBC
      have HHC := hide HHC
      have HBC := hide HBC
      have HS := hide (fun (L : ML) (E : Int) (h : sumsAns (dataS b a) (d : Int) L E) => cut_sums h1 hb1 h14 h)
      rw [← hH] at HS ⊢
      have HHH := hide hH
      have HNB := hide hnb
      have hn00 : ¬ (n : Int) = 0 := by omega
      have hn01 : ((n : Int) == 0) = false := by simp; omega
      have hn4 : ((4194304 : Int) < (n : Int)) = False := by simp; omega
      obtain ⟨ab, ao, rfl⟩ := isB_at hA (by omega)
      have hcn : n ≤ c := (isB_len hA).2.1
      have HUP := hide hup
      clear hA hn hb ik im hbad e1 r1 r2 hno hb1 hH hnb hup
      go_enter Try.func21, Try.ntmps21
      go_wp2_with fail
      refine HC.out.mono ?_
      rintro e w1 ⟨v, rfl, o1, k1⟩
      have K1 := hide k1
      clear k1 o1 HC
      go_wp2_with fail
      refine (HHC.out w1 (by omega) h1 (by omega)).mono ?_
      rintro e w2 ⟨rfl, rfl⟩
      go_wp2_with fail
      refine (spnoughts_any a H w1 (by omega) (by omega)).mono ?_
      rintro e w2 ⟨g, R, rfl, g2, k2⟩
      have G2 := hide (g2.more K1.out.size)
      have K2 := hide (K1.out.trans (k2.mono K1.out.size))
      clear g2 k2 K1
      go_wp2_with fail
      refine (HBC.out w2 (by omega)).mono ?_
      rintro e w3 ⟨rfl, rfl⟩
      go_wp2_with fail
      go_loopw [40] (fun i wr => ∃ j : Nat, j ≤ nb ∧ i = .int .i64 (j : Int) ∧ Hid (∃ f, Grid wr w.heap.size g a (H * 16) R f ∧ ∀ x y, x < a → f x y = partS b a j x y) ∧ Hid (Below w.heap.size w wr)) (fun i _ => nb - (intOf i).toNat)
      case atStart => exact ⟨0, Nat.zero_le _, rfl, hide ⟨_, G2.out, fun x y _ => by rw [partS_none]⟩, K2⟩
      case round =>
        clear G2 K2
        obtain ⟨j, hj, rfl, hG, hK⟩ := hrel
        by_cases hlt : j < nb
        · have hji : (j : Int) < (nb : Int) := by omega
          have hj16 : j * 16 < n := by have h := HNB.out; unfold blks at h; omega
          obtain ⟨at_, hat⟩ : ∃ a, a = j * 16 := ⟨_, rfl⟩
          have hatz : (j : Int) * 16 = (at_ : Int) := by omega
          have hat2 : at_ < n := by omega
          have hat3 : at_ ≤ 900000 := by omega
          obtain ⟨en, hen⟩ : ∃ en, en = min (at_ + 16) n := ⟨_, rfl⟩
          have hmn : (if (n : Int) < (at_ : Int) + 16 then (n : Int) else (at_ : Int) + 16) = (en : Int) := by split <;> omega
          have hle1 : at_ < en := by omega
          have hle2 : en ≤ n := by omega
          have hle3 : en ≤ at_ + 16 := by omega
          have hw1 : IntKind.i64.wrap ((at_ : Int) + 16) = (at_ : Int) + 16 := by rw [IntKind.wrap_i64]; omega
          have hc1 : ¬ c = at_ := by omega
          have hc2 : ¬ at_ = c := by omega
          have h01 : (0 : Int) ≤ (at_ : Int) := by omega
          have h02 : (at_ : Int) ≤ (en : Int) := by omega
          have h03 : (en : Int) ≤ (c : Int) := by omega
          have HAT := hide hat
          have HEN := hide hen
          clear hat hen
          go_wp2_with fail
          obtain ⟨f, hf, hfe⟩ := hG.out
          have HF := hide hf
          have HFE := hide hfe
          have IB := hide (isB_sub (HA.out.keep hK.out) at_ (en - at_) (c - at_) (by omega) rfl)
          have HXL : Hid (((b.drop at_).take (en - at_)).length = en - at_) := hide (by rw [List.length_take, List.length_drop, HN.out]; omega)
          have HXB : Hid (∀ x ∈ (b.drop at_).take (en - at_), x < 256) := hide (fun x hx => HB.out x (List.mem_of_mem_drop (List.mem_of_mem_take hx)))
          have hji2 : j / a < H := Nat.div_lt_of_lt_mul (by have := HUP.out; rw [Nat.mul_comm]; omega)
          have HJM := hide (Nat.mod_lt j (show a > 0 by omega))
          have HROW : Hid (j / a * 16 + (en - at_) ≤ H * 16) := hide (by omega)
          clear hf hfe hG
          go_region_law (first
            | (go_simp; go_at_call 38; refine (spot_any j a _ (by omega) h1 (by omega)).mono ?_; rintro e w4 ⟨rfl, k4⟩; have K4 : Hid (Below wr.heap.size wr w4) := hide (by refine Below.trans ?_ k4; exact ⟨rfl, rfl, rfl, Nat.le_refl _, fun _ _ => rfl⟩); clear k4)
            | (go_simp; go_at_call 37; refine (splay_any (HF.out.keep K4.out) (j % a) (j / a) HJM.out (some ⟨ab, ao + at_, none⟩) (en - at_) (c - at_) ((b.drop at_).take (en - at_)) (IB.out.keep K4.out).rd HXL.out (by omega) HROW.out (by omega) HXB.out).mono ?_; rintro e w5 ⟨rfl, g5, b5, t5⟩))
          all_goals
            have G5 : Hid (∃ f, Grid w5 w.heap.size g a (H * 16) R f ∧ ∀ x y, x < a → f x y = partS b a (j + 1) x y) := hide ⟨_, g5, fun x y hx => by
              have h9 := HEN.out
              have h8 := HAT.out
              rw [← partS_step (n := en - at_) h1 (by rw [HN.out]; omega) x y hx]
              unfold updAt
              by_cases hc : x = j % a ∧ j / a * 16 ≤ y ∧ y < j / a * 16 + (en - at_)
              · rw [if_pos hc, if_pos hc]; dsimp only; rw [getD_sub (by omega), h8]
              · rw [if_neg hc, if_neg hc, HFE.out x y hx]⟩
            have K5 : Hid (Below w.heap.size w w5) := hide (b5 w (hK.out.trans (K4.out.mono hK.out.size)))
            clear g5 b5 t5
            go_wp2_with fail
            go_roundw
            case rel => exact ⟨j + 1, by omega, by go_num, G5, K5⟩
            case measure => simp [intOf]; omega
        · obtain rfl : j = nb := by omega
          have hji : ¬ ((j : Int) < (j : Int)) := by omega
          obtain ⟨f, hf, hfe⟩ := hG.out
          have hD : laid a (H * 16) f = dataS b a := by
            unfold dataS
            rw [← HHH.out]
            refine laid_congr (fun x hx y _ => ?_)
            rw [hfe x y hx, partS_all (by rw [HN.out, HNB.out]; unfold blks; omega)]
          have OW := hf.own (by omega) (by omega)
          rw [hD] at OW
          have HLD := hide OW.held
          have SM : SmallM wr (some ⟨g, 0, none⟩) a (dataS b a) := ⟨OW.isM.1, dataS_len b a, by omega, (dataS_shape b a).byte, fun r hr => by rw [(dataS_shape b a).wide r hr, ← HHH.out]; omega⟩
          have SC := hide (sumsC (some ⟨g, 0, none⟩) a a (d : Int) (dataS b a) wr SM (by unfold I64; omega))
          clear hG hf hfe hD OW SM
          go_wp2_with fail
          refine SC.out.mono ?_
          rintro e w6 ⟨v6, L6, E6, rfl, ou6, ow6, an6, k6⟩
          obtain ⟨rfl, hl6, hw6⟩ := HS.out L6 E6 an6
          have ow6 := ow6.more hK.out.size
          obtain ⟨A6, c6, rfl, ro6, m6⟩ := ow6.held.form hl6
          have RO6 := hide ro6
          have NC6 := hide ow6.nilc
          have HL6 := hide (HLD.out.keep k6)
          have K6 := hide (hK.out.trans (k6.mono hK.out.size))
          have LL6 := hide hl6
          have HW6 := hide hw6
          clear ou6 ow6 an6 k6 ro6 m6 hl6 hw6 HLD SC hK
          go_wp2_with (at_builtin; refine halt ?_)
          refine ⟨?_⟩
          refine wpList_append_helds rfl (.tmp 65) (.tmp 66) rfl w.heap.size _ (dataS b a) rfl HL6.out A6 d c6 L6 rfl RO6.out LL6.out NC6.out (by rw [dataS_len]; omega) K6.out.size ?_
          intro v7 w7 h7 k7
          rw [HW6.out] at h7
          have H7 := hide h7
          have K7 := hide (K6.out.trans (k7.mono (Nat.le_refl _)))
          clear h7 k7
          go_wp2_with fail
          go_ret2
          exact ⟨v7, rfl, H7.out, K7.out⟩
end Go.Proofs.Ytdbngchbhoanpaa
namespace Go.Proofs.Ytdbngchbhoanpaa
open Go.RowKit
theorem known_facts : stripsE (List.replicate 40 0) 2 1 = 0 ∧ (stripsL (List.replicate 40 0) 2 1).length = 3 ∧ ((stripsL (List.replicate 40 0) 2 1).getD 0 []).length = 32 ∧ ((stripsL (List.replicate 40 0) 2 1).getD 2 []).length = 32 := by
  have hno : ¬ stripsBad (List.replicate 40 0) 2 1 := by unfold stripsBad; simp
  have e : stripsL (List.replicate 40 0) 2 1 = wordL 2 1 32 (srcS (List.replicate 40 0) 2) := by
    unfold stripsL
    rw [if_neg hno, List.length_replicate]
    rfl
  have hs := wordL_shape 2 1 32 (srcS (List.replicate 40 0) 2)
  rw [e]
  exact ⟨if_neg hno, wordL_len _ _ _ _, (hs.row (i := 0) (by decide)).1, (hs.row (i := 2) (by decide)).1⟩
set_option maxRecDepth 100000 in
set_option maxHeartbeats 1600000 in
theorem known_any (w : World) : Calls Try.prog 8 #[] w fun e w' => e = .returned (.bool true) ∧ Below w.heap.size w w' := by
  obtain ⟨i1, hj, hy0, hy1, hy2⟩ := info_parts Try.info_u8'
  have KF := hide known_facts
  obtain ⟨Z, hZ⟩ : ∃ Z, Z = List.replicate 40 0 := ⟨_, rfl⟩
  rw [← hZ] at KF
  have HZ := hide hZ
  obtain ⟨L, hL⟩ : ∃ L, L = stripsL Z 2 1 := ⟨_, rfl⟩
  rw [← hL] at KF
  have HL := hide hL
  clear hZ hL
  go_enter Try.func8, Try.ntmps8
  go_wp2_with (at_make; refine halt ?_)
  refine ⟨?_⟩
  refine wpList_make_full _ rfl (.const (.int .i64 40)) (.const (.int .i64 40)) 24 rfl w.heap.size 5 i1 (.int .u8 0) 1 Try.underlying24 hj hy0 hy1 .i64 .i64 40 40 40 rfl rfl rfl rfl (by rw [hy2]; omega) (by unfold maxLen; omega) (Nat.le_refl _) ?_
  intro w2 h2 g2
  have o2 := made_bytes (n := 40) h2
  rw [← HZ.out] at o2
  have k2 : Below w.heap.size w w2 := (Below.refl _ _).grown g2 (Nat.le_refl _) (by simp)
  have I2 := hide o2.isB
  have K2 := hide k2
  clear h2 g2 o2 k2 hj hy0 hy1 hy2
  go_wp2_with fail
  refine (cut_any _ 40 40 2 1 Z w2 I2.out (by rw [HZ.out]; rfl) (by rw [HZ.out]; intro x hx; rw [(List.mem_replicate.1 hx).2]; decide) (by omega) (by unfold I64; omega) (by unfold I64; omega)).mono ?_
  rintro e w3 ⟨v, rfl, h3, k3⟩
  rw [KF.out.1]
  rw [← HL.out] at h3
  obtain ⟨A3, c3, rfl, r3, m3⟩ := h3.form KF.out.2.1
  obtain ⟨b, off, A', c', e, q0, _, _, _⟩ := r3.isM.at_ 0 (by rw [KF.out.2.1]; decide)
  subst e
  obtain ⟨b', off', A2', c2', e, q2, _, _, _⟩ := r3.isM.at_ 2 (by rw [KF.out.2.1]; decide)
  cases e
  rw [KF.out.2.2.1] at q0
  rw [KF.out.2.2.2] at q2
  have q0 : w3.cell? ⟨b, off, none⟩ = some (.slice A' 32 c') := q0
  have K3 := hide (K2.out.trans (k3.mono K2.out.size))
  clear h3 k3 r3 m3
  go_wp2_with fail
  go_ret
  exact ⟨rfl, K3.out⟩
end Go.Proofs.Ytdbngchbhoanpaa
