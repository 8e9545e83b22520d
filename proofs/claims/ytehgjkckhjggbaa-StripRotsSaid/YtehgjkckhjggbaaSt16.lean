/- The contract of strip.Cut: the shards, or refused. Condition: at most 900000 bytes. The contract of the law's own known(). No condition. The walk of the law StripRots. -/
import Derived.Test.YtehgjkckhjggbaaSt11
import Derived.Test.YtehgjkckhjggbaaSt13
import Derived.Test.YtehgjkckhjggbaaSt8
import Derived.Test.YtehgjkckhjggbaaSt14
import Derived.Test.YtehgjkckhjggbaaSt15
import Derived.Test.YtehgjkckhjggbaaSt9
import Derived.BigQuiet
namespace Go.Proofs.Ytehgjkckhjggbaa
open Go.RowKit
/-- What Cut refuses, and what it answers. -/
def stripsBad (b : List Nat) (k m : Int) : Prop := (k < 1 ∨ m < 0 ∨ 14 < k + m) ∨ b.length = 0
instance (b : List Nat) (k m : Int) : Decidable (stripsBad b k m) := by unfold stripsBad; infer_instance
def stripsE (b : List Nat) (k m : Int) : Int := if stripsBad b k m then 1 else 0
def stripsL (b : List Nat) (k m : Int) : ML := if stripsBad b k m then [] else wordL k.toNat m.toNat (hgt b.length k.toNat * 16) (srcS b k.toNat)
theorem dataS_word (b : List Nat) (k m : Nat) : wordL k m (hgt b.length k * 16) (en (dataS b k)) = wordL k m (hgt b.length k * 16) (srcS b k) :=
  wordL_congr (fun _ hj _ hx => laid_at _ hj hx)
theorem dataS_bad {b : List Nat} {k : Nat} {m : Int} (hk : 1 ≤ k) (hb : 1 ≤ b.length) (hm : 0 ≤ m) (h14 : (k : Int) + m ≤ 14) : ¬ sumsBad (dataS b k) m := by
  have hs := dataS_shape b k
  have hp := hgt_pos (n := b.length) hk hb
  rintro (q | q | q | ⟨r, hr, q⟩)
  · rw [dataS_len] at q; omega
  · omega
  · rw [dataS_len] at q; omega
  · have h0 := hs.wide r hr
    rcases q with q | q
    · rw [q] at h0; simp at h0; omega
    · exact q (by rw [h0, (hs.row (i := 0) (by omega)).1])
theorem cut_sums {b : List Nat} {k m : Nat} {L : ML} {E : Int} (hk : 1 ≤ k) (hb : 1 ≤ b.length) (h14 : k + m ≤ 14) (h : sumsAns (dataS b k) (m : Int) L E) : E = 0 ∧ L.length = m ∧ dataS b k ++ L = wordL k m (hgt b.length k * 16) (srcS b k) := by
  have hno := dataS_bad (m := (m : Int)) hk hb (by omega) (by omega)
  rcases h with ⟨_, _, q⟩ | ⟨rfl, _, hL⟩
  · exact absurd q hno
  · obtain ⟨b', n', e1, _, _, _, en', el, ew⟩ := sums_all (.inr ⟨rfl, hno, hL⟩) (dataS_shape b k).byte
    have e1 : m = b' := by omega
    subst e1
    have e3 : n' = hgt b.length k * 16 := by rw [en', (dataS_shape b k |>.row (i := 0) (by omega)).1]
    rw [e3, dataS_len, dataS_word] at ew
    exact ⟨rfl, el, ew⟩
set_option maxRecDepth 100000 in
set_option maxHeartbeats 6400000 in
theorem cut_any (A : Option Addr) (n c : Nat) (k m : Int) (b : List Nat) (w : World) (hA : IsB w (.slice A n c) b) (hn : b.length = n) (hb : ∀ x ∈ b, x < 256) (h9 : n ≤ 900000) (ik : I64 k) (im : I64 m) :
    Calls Try.prog 27 #[.slice A n c, .int .i64 k, .int .i64 m] w fun e w' => ∃ v, e = .returned (.tuple #[v, .int .i64 (stripsE b k m)]) ∧ Held w' w.heap.size v (stripsL b k m) ∧ Below w.heap.size w w' := by
  have HA := hide hA
  have HN := hide hn
  have HB := hide hb
  have HC := hide (code_all k m w ik.1 ik.2 im.1 im.2)
  by_cases hbad : k < 1 ∨ m < 0 ∨ 14 < k + m
  · have e1 : codeE k m = 1 := if_pos hbad
    rw [e1] at HC
    have r1 : stripsE b k m = 1 := if_pos (.inl hbad)
    have r2 : stripsL b k m = [] := if_pos (.inl hbad)
    rw [r1, r2]
    clear hA hn hb ik im hbad e1 r1 r2
    go_enter Try.func27, Try.ntmps27
    go_wp2_with fail
    refine HC.out.mono ?_
    rintro e w1 ⟨v, rfl, o1, k1⟩
    go_wp2_with fail
    go_ret2
    exact ⟨_, rfl, Held.nil _ _, k1⟩
  · have e1 : codeE k m = 0 := if_neg hbad
    rw [e1] at HC
    by_cases hn0 : n = 0
    · subst hn0
      have r1 : stripsE b k m = 1 := if_pos (.inr hn)
      have r2 : stripsL b k m = [] := if_pos (.inr hn)
      rw [r1, r2]
      clear hA hn hb ik im hbad e1 r1 r2
      go_enter Try.func27, Try.ntmps27
      go_wp2_with fail
      refine HC.out.mono ?_
      rintro e w1 ⟨v, rfl, o1, k1⟩
      go_wp2_with fail
      go_ret2
      exact ⟨_, rfl, Held.nil _ _, k1⟩
    · have hno : ¬ stripsBad b k m := fun h => h.elim hbad (fun h => hn0 (by omega))
      have r1 : stripsE b k m = 0 := if_neg hno
      have r2 : stripsL b k m = wordL k.toNat m.toNat (hgt b.length k.toNat * 16) (srcS b k.toNat) := if_neg hno
      rw [r1, r2]
      obtain ⟨a, rfl⟩ : ∃ a : Nat, k = (a : Int) := ⟨k.toNat, by omega⟩
      obtain ⟨d, rfl⟩ : ∃ d : Nat, m = (d : Int) := ⟨m.toNat, by omega⟩
      rw [Int.toNat_natCast, Int.toNat_natCast]
      have h1 : 1 ≤ a := by omega
      have h14 : a + d ≤ 14 := by omega
      have hb1 : 1 ≤ b.length := by omega
      obtain ⟨H, hH⟩ : ∃ H, H = hgt b.length a := ⟨_, rfl⟩
      have hHB : H ≤ 56251 := by rw [hH]; have := hgt_le (n := b.length) h1; unfold blks at this; omega
      obtain ⟨nb, hnb⟩ : ∃ nb, nb = blks n := ⟨_, rfl⟩
      have hup : nb ≤ H * a := by rw [hnb, hH, ← hn]; exact hgt_up h1
      have hnb2 : nb ≤ 56251 := by rw [hnb]; unfold blks; omega
      have HHC := height_any n a
      rw [show hgt n a = H by rw [hH, hn]] at HHC
      have HBC := blocks_any n
      rw [← hnb] at HBC
      have HHC := hide HHC
      have HBC := hide HBC
      have HS := hide (fun (L : ML) (E : Int) (h : sumsAns (dataS b a) (d : Int) L E) => cut_sums h1 hb1 h14 h)
      rw [← hH] at HS ⊢
      have HHH := hide hH
      have HNB := hide hnb
      have hn00 : ¬ (n : Int) = 0 := by omega
      have hn01 : ((n : Int) == 0) = false := by simp; omega
      have hn4 : ((4194304 : Int) < (n : Int)) = False := by simp; omega
      obtain ⟨ab, ao, rfl⟩ := isB_at hA (by omega)
      have hcn : n ≤ c := (isB_len hA).2.1
      have HUP := hide hup
      clear hA hn hb ik im hbad e1 r1 r2 hno hb1 hH hnb hup
      go_enter Try.func27, Try.ntmps27
      go_wp2_with fail
      refine HC.out.mono ?_
      rintro e w1 ⟨v, rfl, o1, k1⟩
      have K1 := hide k1
      clear k1 o1 HC
      go_wp2_with fail
      refine (HHC.out w1 (by omega) h1 (by omega)).mono ?_
      rintro e w2 ⟨rfl, rfl⟩
      go_wp2_with fail
      refine (spnoughts_any a H w1 (by omega) (by omega)).mono ?_
      rintro e w2 ⟨g, R, rfl, g2, k2⟩
      have G2 := hide (g2.more K1.out.size)
      have K2 := hide (K1.out.trans (k2.mono K1.out.size))
      clear g2 k2 K1
      go_wp2_with fail
      refine (HBC.out w2 (by omega)).mono ?_
      rintro e w3 ⟨rfl, rfl⟩
      go_wp2_with fail
      go_loopw [40] (fun i wr => ∃ j : Nat, j ≤ nb ∧ i = .int .i64 (j : Int) ∧ Hid (∃ f, Grid wr w.heap.size g a (H * 16) R f ∧ ∀ x y, x < a → f x y = partS b a j x y) ∧ Hid (Below w.heap.size w wr)) (fun i _ => nb - (intOf i).toNat)
      case atStart => exact ⟨0, Nat.zero_le _, rfl, hide ⟨_, G2.out, fun x y _ => by rw [partS_none]⟩, K2⟩
      case round =>
        clear G2 K2
        obtain ⟨j, hj, rfl, hG, hK⟩ := hrel
        by_cases hlt : j < nb
        · have hji : (j : Int) < (nb : Int) := by omega
          have hj16 : j * 16 < n := by have h := HNB.out; unfold blks at h; omega
          obtain ⟨at_, hat⟩ : ∃ a, a = j * 16 := ⟨_, rfl⟩
          have hatz : (j : Int) * 16 = (at_ : Int) := by omega
          have hat2 : at_ < n := by omega
          have hat3 : at_ ≤ 900000 := by omega
          obtain ⟨en, hen⟩ : ∃ en, en = min (at_ + 16) n := ⟨_, rfl⟩
          have hmn : (if (n : Int) < (at_ : Int) + 16 then (n : Int) else (at_ : Int) + 16) = (en : Int) := by split <;> omega
          have hle1 : at_ < en := by omega
          have hle2 : en ≤ n := by omega
          have hle3 : en ≤ at_ + 16 := by omega
          have hw1 : IntKind.i64.wrap ((at_ : Int) + 16) = (at_ : Int) + 16 := by rw [IntKind.wrap_i64]; omega
          have hc1 : ¬ c = at_ := by omega
          have hc2 : ¬ at_ = c := by omega
          have h01 : (0 : Int) ≤ (at_ : Int) := by omega
          have h02 : (at_ : Int) ≤ (en : Int) := by omega
          have h03 : (en : Int) ≤ (c : Int) := by omega
          have HAT := hide hat
          have HEN := hide hen
          clear hat hen
          go_wp2_with fail
          obtain ⟨f, hf, hfe⟩ := hG.out
          have HF := hide hf
          have HFE := hide hfe
          have IB := hide (isB_sub (HA.out.keep hK.out) at_ (en - at_) (c - at_) (by omega) rfl)
          have HXL : Hid (((b.drop at_).take (en - at_)).length = en - at_) := hide (by rw [List.length_take, List.length_drop, HN.out]; omega)
          have HXB : Hid (∀ x ∈ (b.drop at_).take (en - at_), x < 256) := hide (fun x hx => HB.out x (List.mem_of_mem_drop (List.mem_of_mem_take hx)))
          have hji2 : j / a < H := Nat.div_lt_of_lt_mul (by have := HUP.out; rw [Nat.mul_comm]; omega)
          have HJM := hide (Nat.mod_lt j (show a > 0 by omega))
          have HROW : Hid (j / a * 16 + (en - at_) ≤ H * 16) := hide (by omega)
          clear hf hfe hG
          go_region_law (first
            | (go_simp; go_at_call 64; refine (spot_any j a _ (by omega) h1 (by omega)).mono ?_; rintro e w4 ⟨rfl, k4⟩; have K4 : Hid (Below wr.heap.size wr w4) := hide (by refine Below.trans ?_ k4; exact ⟨rfl, rfl, rfl, Nat.le_refl _, fun _ _ => rfl⟩); clear k4)
            | (go_simp; go_at_call 63; refine (splay_any (HF.out.keep K4.out) (j % a) (j / a) HJM.out (some ⟨ab, ao + at_, none⟩) (en - at_) (c - at_) ((b.drop at_).take (en - at_)) (IB.out.keep K4.out).rd HXL.out (by omega) HROW.out (by omega) HXB.out).mono ?_; rintro e w5 ⟨rfl, g5, b5, t5⟩))
          all_goals
            have G5 : Hid (∃ f, Grid w5 w.heap.size g a (H * 16) R f ∧ ∀ x y, x < a → f x y = partS b a (j + 1) x y) := hide ⟨_, g5, fun x y hx => by
              have h9 := HEN.out
              have h8 := HAT.out
              rw [← partS_step (n := en - at_) h1 (by rw [HN.out]; omega) x y hx]
              unfold updAt
              by_cases hc : x = j % a ∧ j / a * 16 ≤ y ∧ y < j / a * 16 + (en - at_)
              · rw [if_pos hc, if_pos hc]; dsimp only; rw [getD_sub (by omega), h8]
              · rw [if_neg hc, if_neg hc, HFE.out x y hx]⟩
            have K5 : Hid (Below w.heap.size w w5) := hide (b5 w (hK.out.trans (K4.out.mono hK.out.size)))
            clear g5 b5 t5
            go_wp2_with fail
            go_roundw
            case rel => exact ⟨j + 1, by omega, by go_num, G5, K5⟩
            case measure => simp [intOf]; omega
        · obtain rfl : j = nb := by omega
          have hji : ¬ ((j : Int) < (j : Int)) := by omega
          obtain ⟨f, hf, hfe⟩ := hG.out
          have hD : laid a (H * 16) f = dataS b a := by
            unfold dataS
            rw [← HHH.out]
            refine laid_congr (fun x hx y _ => ?_)
            rw [hfe x y hx, partS_all (by rw [HN.out, HNB.out]; unfold blks; omega)]
          have OW := hf.own (by omega) (by omega)
          rw [hD] at OW
          have HLD := hide OW.held
          have SM : SmallM wr (some ⟨g, 0, none⟩) a (dataS b a) := ⟨OW.isM.1, dataS_len b a, by omega, (dataS_shape b a).byte, fun r hr => by rw [(dataS_shape b a).wide r hr, ← HHH.out]; omega⟩
          have SC := hide (sumsC (some ⟨g, 0, none⟩) a a (d : Int) (dataS b a) wr SM (by unfold I64; omega))
          clear hG hf hfe hD OW SM
          go_wp2_with fail
          refine SC.out.mono ?_
          rintro e w6 ⟨v6, L6, E6, rfl, ou6, ow6, an6, k6⟩
          obtain ⟨rfl, hl6, hw6⟩ := HS.out L6 E6 an6
          have ow6 := ow6.more hK.out.size
          obtain ⟨A6, c6, rfl, ro6, m6⟩ := ow6.held.form hl6
          have RO6 := hide ro6
          have NC6 := hide ow6.nilc
          have HL6 := hide (HLD.out.keep k6)
          have K6 := hide (hK.out.trans (k6.mono hK.out.size))
          have LL6 := hide hl6
          have HW6 := hide hw6
          clear ou6 ow6 an6 k6 ro6 m6 hl6 hw6 HLD SC hK
          go_wp2_with (at_builtin; refine halt ?_)
          refine ⟨?_⟩
          refine wpList_append_helds rfl (.tmp 65) (.tmp 66) rfl w.heap.size _ (dataS b a) rfl HL6.out A6 d c6 L6 rfl RO6.out LL6.out NC6.out (by rw [dataS_len]; omega) K6.out.size ?_
          intro v7 w7 h7 k7
          rw [HW6.out] at h7
          have H7 := hide h7
          have K7 := hide (K6.out.trans (k7.mono (Nat.le_refl _)))
          clear h7 k7
          go_wp2_with fail
          go_ret2
          exact ⟨v7, rfl, H7.out, K7.out⟩
end Go.Proofs.Ytehgjkckhjggbaa
namespace Go.Proofs.Ytehgjkckhjggbaa
open Go.RowKit
theorem known_facts : stripsE (List.replicate 40 0) 2 1 = 0 ∧ (stripsL (List.replicate 40 0) 2 1).length = 3 ∧ ((stripsL (List.replicate 40 0) 2 1).getD 0 []).length = 32 ∧ ((stripsL (List.replicate 40 0) 2 1).getD 2 []).length = 32 := by
  have hno : ¬ stripsBad (List.replicate 40 0) 2 1 := by unfold stripsBad; simp
  have e : stripsL (List.replicate 40 0) 2 1 = wordL 2 1 32 (srcS (List.replicate 40 0) 2) := by
    unfold stripsL
    rw [if_neg hno, List.length_replicate]
    rfl
  have hs := wordL_shape 2 1 32 (srcS (List.replicate 40 0) 2)
  rw [e]
  exact ⟨if_neg hno, wordL_len _ _ _ _, (hs.row (i := 0) (by decide)).1, (hs.row (i := 2) (by decide)).1⟩
set_option maxRecDepth 100000 in
set_option maxHeartbeats 1600000 in
theorem known_any (w : World) : Calls Try.prog 31 #[] w fun e w' => e = .returned (.bool true) ∧ Below w.heap.size w w' := by
  obtain ⟨i1, hj, hy0, hy1, hy2⟩ := info_parts Try.info_u8'
  have KF := hide known_facts
  obtain ⟨Z, hZ⟩ : ∃ Z, Z = List.replicate 40 0 := ⟨_, rfl⟩
  rw [← hZ] at KF
  have HZ := hide hZ
  obtain ⟨L, hL⟩ : ∃ L, L = stripsL Z 2 1 := ⟨_, rfl⟩
  rw [← hL] at KF
  have HL := hide hL
  clear hZ hL
  go_enter Try.func31, Try.ntmps31
  go_wp2_with (at_make; refine halt ?_)
  refine ⟨?_⟩
  refine wpList_make_full _ rfl (.const (.int .i64 40)) (.const (.int .i64 40)) 23 rfl w.heap.size 5 i1 (.int .u8 0) 1 Try.underlying23 hj hy0 hy1 .i64 .i64 40 40 40 rfl rfl rfl rfl (by rw [hy2]; omega) (by unfold maxLen; omega) (Nat.le_refl _) ?_
  intro w2 h2 g2
  have o2 := made_bytes (n := 40) h2
  rw [← HZ.out] at o2
  have k2 : Below w.heap.size w w2 := (Below.refl _ _).grown g2 (Nat.le_refl _) (by simp)
  have I2 := hide o2.isB
  have K2 := hide k2
  clear h2 g2 o2 k2 hj hy0 hy1 hy2
  go_wp2_with fail
  refine (cut_any _ 40 40 2 1 Z w2 I2.out (by rw [HZ.out]; rfl) (by rw [HZ.out]; intro x hx; rw [(List.mem_replicate.1 hx).2]; decide) (by omega) (by unfold I64; omega) (by unfold I64; omega)).mono ?_
  rintro e w3 ⟨v, rfl, h3, k3⟩
  rw [KF.out.1]
  rw [← HL.out] at h3
  obtain ⟨A3, c3, rfl, r3, m3⟩ := h3.form KF.out.2.1
  obtain ⟨b, off, A', c', e, q0, _, _, _⟩ := r3.isM.at_ 0 (by rw [KF.out.2.1]; decide)
  subst e
  obtain ⟨b', off', A2', c2', e, q2, _, _, _⟩ := r3.isM.at_ 2 (by rw [KF.out.2.1]; decide)
  cases e
  rw [KF.out.2.2.1] at q0
  rw [KF.out.2.2.2] at q2
  have q0 : w3.cell? ⟨b, off, none⟩ = some (.slice A' 32 c') := q0
  have K3 := hide (K2.out.trans (k3.mono K2.out.size))
  clear h3 k3 r3 m3
  go_wp2_with fail
  go_ret
  exact ⟨rfl, K3.out⟩
end Go.Proofs.Ytehgjkckhjggbaa
namespace Go.Proofs.Ytehgjkckhjggbaa
open Go.RowKit
attribute [local go_sem] Oper.semAt_some
def lenV : Value → Nat
  | .slice _ n _ => n
  | _ => 0
set_option maxRecDepth 100000 in
set_option maxHeartbeats 6400000 in
theorem stripRots_core (A : Option Addr) (n c : Nat) (b : List Nat) (z : Int) (y : Nat) (w : World) (hA : IsB w (.slice A n c) b) (hn : b.length = n) (hb : ∀ x ∈ b, x < 256) (hn63 : n ≤ 9223372036854775807) (hy : y < 256) :
    Calls Try.prog 9 #[.slice A n c, .int .i64 z, .int .u8 (y : Int)] w fun e w' => e = .returned (.bool true) ∧ Below w.heap.size w w' := by
  by_cases h3 : 3000 < n
  · have h3z : (3000 : Int) < (n : Int) := by omega
    go_enter Try.func9, Try.ntmps9
    go_wp2_with fail
    go_ret
    exact ⟨rfl, Below.refl _ _⟩
  · have h3z : ¬ (3000 : Int) < (n : Int) := by omega
    by_cases hn0 : n = 0
    · have hnz : ((n : Int) == 0) = true := by simp; omega
      clear hn0
      go_enter Try.func9, Try.ntmps9
      go_wp2_with fail
      go_ret
      exact ⟨rfl, Below.refl _ _⟩
    · have hnz : ((n : Int) == 0) = false := by simp; omega
      by_cases hy0 : y = 0
      · have hyz : ((y : Int) == 0) = true := by simp; omega
        clear hy0
        go_enter Try.func9, Try.ntmps9
        go_wp2_with fail
        go_ret
        exact ⟨rfl, Below.refl _ _⟩
      · have hyz : ((y : Int) == 0) = false := by simp; omega
        obtain ⟨T, hT⟩ : ∃ T, T = (n + 15) / 16 * 16 := ⟨_, rfl⟩
        have HT16 := hide (show T % 16 = 0 by omega)
        have hnT : n ≤ T := by omega
        have hTb : T ≤ 3008 := by omega
        have hn1 : 1 ≤ n := by omega
        have HA := hide hA
        have HN := hide hn
        have HB := hide hb
        have HY0 := hide hy0
        clear hA hn hb hy0 hT hn0
        go_enter Try.func9, Try.ntmps9
        go_wp2_with fail
        go_loopw [0] (fun bb wr => ∃ (A' : Option Addr) (m c' : Nat) (xs : List Nat), bb = .slice A' m c' ∧ 1 ≤ m ∧ m ≤ T ∧ Hid (IsB wr (.slice A' m c') xs) ∧ Hid (xs.length = m) ∧ Hid (∀ x ∈ xs, x < 256) ∧ Hid (Below w.heap.size w wr)) (fun bb _ => T - lenV bb)
        case atStart => exact ⟨A, n, c, b, rfl, hn1, hnT, HA, HN, HB, hide (Below.refl _ _)⟩
        case round =>
          obtain ⟨A', m, c', xs, rfl, hm1, hmT, IX, LX, BX, KX⟩ := hrel
          obtain ⟨q, hq⟩ : ∃ q, q = m % 16 := ⟨_, rfl⟩
          have hqz : (m : Int) % 16 = (q : Int) := by omega
          by_cases hq0 : q = 0
          · have hqn : ((q : Int) != 0) = false := by simp; omega
            have hm9 : m ≤ 3008 := by omega
            obtain ⟨N, hN⟩ : ∃ N, N = m / 16 := ⟨_, rfl⟩
            have hmN : m = N * 16 := by omega
            have hN1 : 1 ≤ N := by omega
            have hN9 : N ≤ 188 := by omega
            have hmd : (m : Int) / 16 = (N : Int) := by omega
            obtain ⟨ab, ao, rfl⟩ := isB_at IX.out (by omega)
            have FC := hide (file_any 1 2 3 (some ⟨ab, ao, none⟩) m c' xs wr IX.out LX.out BX.out (by omega))
            have hno : ¬ fileBad 1 2 3 xs.length := by
              have h9 := LX.out
              rintro (h | h | h)
              · exact h (by decide)
              · omega
              · omega
            have e1 : fileE 1 2 3 xs = 0 := if_neg hno
            have e2 : fileL 1 2 3 xs = fileB 1 2 3 xs := if_neg hno
            rw [e1, e2] at FC
            obtain ⟨F, hF⟩ : ∃ F, F = 20 + N * 20 := ⟨_, rfl⟩
            have hFl : (fileB 1 2 3 xs).length = F := by
              have h9 := LX.out
              rw [fileB_len (by omega), h9]
              omega
            have hFb : ∀ x ∈ fileB 1 2 3 xs, x < 256 := fileB_byte BX.out
            have RH := hide (fun k (hk : k < 20) => read_rot_head (rows := xs) (N := N) (k := k) (y := y) (by rw [LX.out]; exact hmN) hN1 hk hy HY0.out)
            have RR := hide (fun j (hj : j < N * 20) => read_rot_row (rows := xs) (N := N) (j := j) (y := y) (by rw [LX.out]; exact hmN) hj BX.out hy HY0.out)
            obtain ⟨G, hG⟩ : ∃ G, G = fileB 1 2 3 xs := ⟨_, rfl⟩
            rw [← hG] at FC hFl hFb RH RR
            have hF40 : 40 ≤ F := by omega
            have hF9 : F ≤ 3780 := by omega
            have hFz : ¬ (F : Int) < 40 := by omega
            have HF := hide hF
            have HMN := hide hmN
            have hcc := (isB_len IX.out).2
            have hcc1 := hcc.1
            have hcc2 := hcc.2
            clear hq hqz hq0 hN hmN hno e1 e2 hF hG hcc HT16
            have hqz : (m : Int) % 16 = 0 := by have := HMN.out; omega
            go_wp2_with fail
            refine FC.out.mono ?_
            rintro e w2 ⟨s2, rfl, o2, k2⟩
            obtain ⟨g, c2, rfl, hg, hFc, hc2, hcell, hfz⟩ := o2.at_ hFl (by omega)
            have hlt : z.tmod (F : Int) < (F : Int) := Int.tmod_lt_of_pos z (by omega)
            have hgt : -(F : Int) < z.tmod (F : Int) := by
              have := Int.tmod_lt_of_pos (-z) (show (0 : Int) < F by omega)
              rw [Int.neg_tmod] at this
              omega
            obtain ⟨r, hr⟩ : ∃ r, z.tmod (F : Int) = r := ⟨_, rfl⟩
            have hF0 : ¬ F = 0 := by omega
            have hF0z : ¬ (F : Int) = 0 := by omega
            obtain ⟨k, hk, hkk⟩ : ∃ k : Nat, k < F ∧ (¬ r < 0 ∧ Hid (r = (k : Int)) ∨ r < 0 ∧ Hid (r + (F : Int) = (k : Int))) := by
              rw [hr] at hlt hgt
              by_cases h0 : r < 0
              · exact ⟨(r + F).toNat, by omega, .inr ⟨h0, hide (by omega)⟩⟩
              · exact ⟨r.toNat, by omega, .inl ⟨h0, hide (by omega)⟩⟩
            have qk := hcell k hk
            have fk := hfz k
            obtain ⟨x, hx⟩ : ∃ x, x = G.getD k 0 := ⟨_, rfl⟩
            have hx9 : x < 256 := by rw [hx]; exact getD_byte hFb k
            rw [← hx] at qk
            have hxy := xor8 x y hx9 hy
            have hxy9 : x ^^^ y < 256 := Nat.xor_lt_two_pow (n := 8) hx9 hy
            have eG : G.set k (x ^^^ y) = rotS G k y := by rw [hx]; rfl
            obtain ⟨v, hv⟩ : ∃ v, v = x ^^^ y := ⟨_, rfl⟩
            rw [← hv] at hxy hxy9 eG
            have o3 := o2.stored hFl k v
            rw [eG] at o3
            have hGl : (rotS G k y).length = F := by rw [rotS_len, hFl]
            have RD := hide (read_any (some ⟨g, 0, none⟩) F c2 (rotS G k y) _ o3.isB hGl (rotS_byte hFb hy) (by omega))
            have K2 := hide (KX.out.trans (k2.mono KX.out.size))
            have K3 := hide (K2.out.setCell (p := ⟨g, k, none⟩) (by have := KX.out.size; show w.heap.size ≤ g; omega) (.int .u8 (v : Int)))
            have IX3 := hide (IX.out.keep (k2.setCell (p := ⟨g, k, none⟩) hg (.int .u8 (v : Int))))
            have hk0 : (0 : Int) ≤ (k : Int) := by omega
            have hkF : (k : Int) < (F : Int) := by omega
            rw [hr] at hlt hgt
            clear o2 k2 hcell hfz hg hv hx o3 K2 FC IX hGl eG KX
            rcases hkk with ⟨hr0, HK⟩ | ⟨hr0, HK⟩
            · have e := HK.out
              clear HK
              subst e
              go_wp2_with fail
              clear hr hr0 hlt hgt
              refine RD.out.mono ?_
              rintro e w4 ⟨v4, rfl, o4, k4⟩
              have K4 := hide (K3.out.trans (k4.mono K3.out.size))
              have IX4 := hide (IX3.out.keep k4)
              clear k4 K3 IX3 RD qk fk
              generalize w2.setCell ⟨g, k, none⟩ (.int .u8 (v : Int)) = W3 at *
              by_cases hk20 : k < 20
              · have hkz : (k : Int) < 20 := by omega
                have h9 := RH.out k hk20
                obtain ⟨A4, c4, rfl, -, -⟩ := o4.form rfl
                obtain ⟨R, hR⟩ : ∃ R, R = readS (rotS G k y) := ⟨_, rfl⟩
                rw [← hR] at h9 ⊢
                obtain ⟨r0, r1, r2, r3, rows⟩ := R
                have h9 : r0 ≠ 0 := h9
                have hrz : ((r0 : Int) != 0) = true := by simp; omega
                clear hR o4 h9 RR RH hk20
                dsimp only
                go_wp2_with fail
                refine (known_any _).mono ?_
                rintro e w6 ⟨rfl, k6⟩
                have K6 := hide (K4.out.trans (k6.mono K4.out.size))
                clear k6
                go_wp2_with fail
                go_ret
                exact ⟨rfl, K6.out⟩
              · have hkz : ¬ (k : Int) < 20 := by omega
                obtain ⟨j, hj⟩ : ∃ j, j = k - 20 := ⟨_, rfl⟩
                have hkj : k = 20 + j := by omega
                have hkjz : (k : Int) - 20 = (j : Int) := by omega
                have hjN : j < N * 20 := by have := HF.out; omega
                obtain ⟨h9, hrow⟩ := RR.out j hjN
                rw [← hkj] at h9 hrow
                rw [h9] at o4 ⊢
                obtain ⟨L, hL⟩ : ∃ L, L = rowsR (rotS G k y) N := ⟨_, rfl⟩
                have hLl : L.length = N := by rw [hL, rowsR_len]
                rw [← hL] at hrow o4 ⊢
                obtain ⟨q, hq⟩ : ∃ q, q = j / 20 := ⟨_, rfl⟩
                rw [← hq] at hrow
                have hqz : (j : Int) / 20 = (q : Int) := by omega
                have hj9 : j ≤ 3780 := by omega
                dsimp only at o4 ⊢
                obtain ⟨A4, c4, rfl, r4, m4⟩ := o4.form hLl
                have R4 := hide r4
                have HROW := hide hrow
                have HLL := hide hLl
                clear hj hkj hjN h9 hL hLl hq o4 r4 m4 hrow RR RH hk20
                go_wp2_with fail
                go_loopw [15, 16] (fun i _ wr => ∃ t : Nat, t ≤ N ∧ i = .int .i64 (t : Int) ∧ Hid (∃ d, wr = w4.drewN d)) (fun i _ _ => N - (intOf i).toNat)
                case atStart => exact ⟨0, Nat.zero_le _, rfl, hide ⟨0, rfl⟩⟩
                case round =>
                  obtain ⟨t, ht, rfl, hw⟩ := hrel
                  obtain ⟨d, hd⟩ := hw.out
                  subst hd
                  clear hw
                  by_cases htN : t < N
                  · have htz : (t : Int) < (N : Int) := by omega
                    obtain ⟨rb, ro, A', cr, rfl, q0, i0, l0, m0⟩ := R4.out.at_ t (by rw [HLL.out]; exact htN)
                    have hr9 := HROW.out t htN
                    by_cases htq : t = q
                    · rw [if_pos htq] at hr9
                      rw [hr9] at q0 i0 l0
                      have q1 : (w4.drewN d).cell? _ = _ := q0
                      have htqz : ((t : Int) == (q : Int)) = true := by simp; omega
                      clear hr9 i0 l0 m0 htq q0
                      have HEX := hide (fun d' => (⟨d + d', by rw [World.drewN_drewN]⟩ : ∃ d2, (w4.drewN d).drewN d' = w4.drewN d2))
                      generalize w4.drewN d = W5 at *
                      go_wp2_with fail
                      go_quiet (fail)
                      go_wp2_with fail
                      go_roundw
                      case rel => exact ⟨t + 1, by omega, by go_num, hide (HEX.out _)⟩
                      case measure => simp [intOf]; omega
                    · rw [if_neg htq] at hr9
                      rw [hr9] at q0 i0 l0
                      have hc16 : (chunkS 16 xs t).length = 16 := chunkS_len (N := N) (by rw [LX.out]; exact HMN.out) htN
                      rw [hc16] at q0 i0 l0
                      have q1 : (w4.drewN d).cell? _ = _ := q0
                      have htqz : ((t : Int) == (q : Int)) = false := by simp; omega
                      obtain ⟨p, hp⟩ : ∃ p, p = t * 16 := ⟨_, rfl⟩
                      obtain ⟨u, hu⟩ : ∃ u, u = p + 16 := ⟨_, rfl⟩
                      have hum : u ≤ m := by have := HMN.out; omega
                      have hw1 : IntKind.i64.wrap ((t : Int) * 16) = (p : Int) := by rw [IntWalk.i64_in _ (by omega)]; omega
                      have hw2 : IntKind.i64.wrap ((t : Int) + 1) = (t : Int) + 1 := IntWalk.i64_in _ (by omega)
                      have hw3 : IntKind.i64.wrap (((t : Int) + 1) * 16) = (u : Int) := by rw [IntWalk.i64_in _ (by omega)]; omega
                      have h01 : (p : Int) ≤ (u : Int) := by omega
                      have h02 : (u : Int) ≤ (c' : Int) := by omega
                      have h03 : (0 : Int) ≤ (p : Int) := by omega
                      have hc1 : ¬ c' = p := by omega
                      have hc2 : ¬ p = c' := by omega
                      have KD := hide (below_drewN (Below.refl w4.heap.size w4) d)
                      have HEX := hide (fun d' => (⟨d + d', by rw [World.drewN_drewN]⟩ : ∃ d2, (w4.drewN d).drewN d' = w4.drewN d2))
                      have IA := hide (i0.keep KD.out)
                      have IB : Hid (IsB (w4.drewN d) (.slice (some ⟨ab, ao + p, none⟩) (u - p) (c' - p)) (chunkS 16 xs t)) := hide (by
                        have h9 := isB_sub (IX4.out.keep KD.out) p (u - p) (c' - p) (by omega) rfl
                        rw [show u - p = 16 by omega] at h9 ⊢
                        rw [hp] at h9 ⊢
                        exact h9)
                      have hup : u - p = 16 := by omega
                      rw [hup] at IB
                      have HC16 := hide hc16
                      clear hr9 i0 l0 htq hc16 q0 hp hu KD
                      generalize w4.drewN d = W5 at *
                      go_wp2_with fail
                      go_quiet ((go_at_call 34; refine Calls.quiet_of (v := .bool true) ?_; refine (same_any A' (some ⟨ab, ao + p, none⟩) 16 16 cr (c' - p) _ _ _ (IA.out.rd.drewN _) (IB.out.rd.drewN _) HC16.out.symm HC16.out.symm (by decide) (by decide)).mono ?_; rintro e w' ⟨rfl, d, rfl⟩; exact ⟨by rw [decide_eq_true rfl], d, rfl⟩))
                      go_wp2_with fail
                      go_roundw
                      case rel => exact ⟨t + 1, by omega, by go_num, hide (HEX.out _)⟩
                      case measure => simp [intOf]; omega
                  · obtain rfl : t = N := by omega
                    have htz : ¬ ((t : Int) < (t : Int)) := by omega
                    have K5 := hide (below_drewN K4.out d)
                    clear htN K4 IX4
                    generalize w4.drewN d = W5 at *
                    go_wp2_with fail
                    refine (known_any _).mono ?_
                    rintro e w6 ⟨rfl, k6⟩
                    have K6 := hide (K5.out.trans (k6.mono K5.out.size))
                    clear k6
                    go_wp2_with fail
                    go_ret
                    exact ⟨rfl, K6.out⟩
            · have hrk := HK.out
              clear HK
              go_wp2_with fail
              clear hr hr0 hlt hgt hrk
              refine RD.out.mono ?_
              rintro e w4 ⟨v4, rfl, o4, k4⟩
              have K4 := hide (K3.out.trans (k4.mono K3.out.size))
              have IX4 := hide (IX3.out.keep k4)
              clear k4 K3 IX3 RD qk fk
              generalize w2.setCell ⟨g, k, none⟩ (.int .u8 (v : Int)) = W3 at *
              by_cases hk20 : k < 20
              · have hkz : (k : Int) < 20 := by omega
                have h9 := RH.out k hk20
                obtain ⟨A4, c4, rfl, -, -⟩ := o4.form rfl
                obtain ⟨R, hR⟩ : ∃ R, R = readS (rotS G k y) := ⟨_, rfl⟩
                rw [← hR] at h9 ⊢
                obtain ⟨r0, r1, r2, r3, rows⟩ := R
                have h9 : r0 ≠ 0 := h9
                have hrz : ((r0 : Int) != 0) = true := by simp; omega
                clear hR o4 h9 RR RH hk20
                dsimp only
                go_wp2_with fail
                refine (known_any _).mono ?_
                rintro e w6 ⟨rfl, k6⟩
                have K6 := hide (K4.out.trans (k6.mono K4.out.size))
                clear k6
                go_wp2_with fail
                go_ret
                exact ⟨rfl, K6.out⟩
              · have hkz : ¬ (k : Int) < 20 := by omega
                obtain ⟨j, hj⟩ : ∃ j, j = k - 20 := ⟨_, rfl⟩
                have hkj : k = 20 + j := by omega
                have hkjz : (k : Int) - 20 = (j : Int) := by omega
                have hjN : j < N * 20 := by have := HF.out; omega
                obtain ⟨h9, hrow⟩ := RR.out j hjN
                rw [← hkj] at h9 hrow
                rw [h9] at o4 ⊢
                obtain ⟨L, hL⟩ : ∃ L, L = rowsR (rotS G k y) N := ⟨_, rfl⟩
                have hLl : L.length = N := by rw [hL, rowsR_len]
                rw [← hL] at hrow o4 ⊢
                obtain ⟨q, hq⟩ : ∃ q, q = j / 20 := ⟨_, rfl⟩
                rw [← hq] at hrow
                have hqz : (j : Int) / 20 = (q : Int) := by omega
                have hj9 : j ≤ 3780 := by omega
                dsimp only at o4 ⊢
                obtain ⟨A4, c4, rfl, r4, m4⟩ := o4.form hLl
                have R4 := hide r4
                have HROW := hide hrow
                have HLL := hide hLl
                clear hj hkj hjN h9 hL hLl hq o4 r4 m4 hrow RR RH hk20
                go_wp2_with fail
                go_loopw [15, 16] (fun i _ wr => ∃ t : Nat, t ≤ N ∧ i = .int .i64 (t : Int) ∧ Hid (∃ d, wr = w4.drewN d)) (fun i _ _ => N - (intOf i).toNat)
                case atStart => exact ⟨0, Nat.zero_le _, rfl, hide ⟨0, rfl⟩⟩
                case round =>
                  obtain ⟨t, ht, rfl, hw⟩ := hrel
                  obtain ⟨d, hd⟩ := hw.out
                  subst hd
                  clear hw
                  by_cases htN : t < N
                  · have htz : (t : Int) < (N : Int) := by omega
                    obtain ⟨rb, ro, A', cr, rfl, q0, i0, l0, m0⟩ := R4.out.at_ t (by rw [HLL.out]; exact htN)
                    have hr9 := HROW.out t htN
                    by_cases htq : t = q
                    · rw [if_pos htq] at hr9
                      rw [hr9] at q0 i0 l0
                      have q1 : (w4.drewN d).cell? _ = _ := q0
                      have htqz : ((t : Int) == (q : Int)) = true := by simp; omega
                      clear hr9 i0 l0 m0 htq q0
                      have HEX := hide (fun d' => (⟨d + d', by rw [World.drewN_drewN]⟩ : ∃ d2, (w4.drewN d).drewN d' = w4.drewN d2))
                      generalize w4.drewN d = W5 at *
                      go_wp2_with fail
                      go_quiet (fail)
                      go_wp2_with fail
                      go_roundw
                      case rel => exact ⟨t + 1, by omega, by go_num, hide (HEX.out _)⟩
                      case measure => simp [intOf]; omega
                    · rw [if_neg htq] at hr9
                      rw [hr9] at q0 i0 l0
                      have hc16 : (chunkS 16 xs t).length = 16 := chunkS_len (N := N) (by rw [LX.out]; exact HMN.out) htN
                      rw [hc16] at q0 i0 l0
                      have q1 : (w4.drewN d).cell? _ = _ := q0
                      have htqz : ((t : Int) == (q : Int)) = false := by simp; omega
                      obtain ⟨p, hp⟩ : ∃ p, p = t * 16 := ⟨_, rfl⟩
                      obtain ⟨u, hu⟩ : ∃ u, u = p + 16 := ⟨_, rfl⟩
                      have hum : u ≤ m := by have := HMN.out; omega
                      have hw1 : IntKind.i64.wrap ((t : Int) * 16) = (p : Int) := by rw [IntWalk.i64_in _ (by omega)]; omega
                      have hw2 : IntKind.i64.wrap ((t : Int) + 1) = (t : Int) + 1 := IntWalk.i64_in _ (by omega)
                      have hw3 : IntKind.i64.wrap (((t : Int) + 1) * 16) = (u : Int) := by rw [IntWalk.i64_in _ (by omega)]; omega
                      have h01 : (p : Int) ≤ (u : Int) := by omega
                      have h02 : (u : Int) ≤ (c' : Int) := by omega
                      have h03 : (0 : Int) ≤ (p : Int) := by omega
                      have hc1 : ¬ c' = p := by omega
                      have hc2 : ¬ p = c' := by omega
                      have KD := hide (below_drewN (Below.refl w4.heap.size w4) d)
                      have HEX := hide (fun d' => (⟨d + d', by rw [World.drewN_drewN]⟩ : ∃ d2, (w4.drewN d).drewN d' = w4.drewN d2))
                      have IA := hide (i0.keep KD.out)
                      have IB : Hid (IsB (w4.drewN d) (.slice (some ⟨ab, ao + p, none⟩) (u - p) (c' - p)) (chunkS 16 xs t)) := hide (by
                        have h9 := isB_sub (IX4.out.keep KD.out) p (u - p) (c' - p) (by omega) rfl
                        rw [show u - p = 16 by omega] at h9 ⊢
                        rw [hp] at h9 ⊢
                        exact h9)
                      have hup : u - p = 16 := by omega
                      rw [hup] at IB
                      have HC16 := hide hc16
                      clear hr9 i0 l0 htq hc16 q0 hp hu KD
                      generalize w4.drewN d = W5 at *
                      go_wp2_with fail
                      go_quiet ((go_at_call 34; refine Calls.quiet_of (v := .bool true) ?_; refine (same_any A' (some ⟨ab, ao + p, none⟩) 16 16 cr (c' - p) _ _ _ (IA.out.rd.drewN _) (IB.out.rd.drewN _) HC16.out.symm HC16.out.symm (by decide) (by decide)).mono ?_; rintro e w' ⟨rfl, d, rfl⟩; exact ⟨by rw [decide_eq_true rfl], d, rfl⟩))
                      go_wp2_with fail
                      go_roundw
                      case rel => exact ⟨t + 1, by omega, by go_num, hide (HEX.out _)⟩
                      case measure => simp [intOf]; omega
                  · obtain rfl : t = N := by omega
                    have htz : ¬ ((t : Int) < (t : Int)) := by omega
                    have K5 := hide (below_drewN K4.out d)
                    clear htN K4 IX4
                    generalize w4.drewN d = W5 at *
                    go_wp2_with fail
                    refine (known_any _).mono ?_
                    rintro e w6 ⟨rfl, k6⟩
                    have K6 := hide (K5.out.trans (k6.mono K5.out.size))
                    clear k6
                    go_wp2_with fail
                    go_ret
                    exact ⟨rfl, K6.out⟩
          · have hqn : ((q : Int) != 0) = true := by simp; omega
            have hmT2 : m + 1 ≤ T := by have := HT16.out; omega
            have hm9 : m ≤ 3008 := by omega
            have hq9 : q < 16 := by omega
            clear hq hq0
            have nb : Below wr.heap.size wr (wr.alloc (.cells #[] 5)) := (Below.refl _ _).alloc (Nat.le_refl _) _
            go_wp2_with (at_builtin; refine halt ?_)
            refine ⟨?_⟩
            refine wpList_append_bytes rfl (.tmp 33) (.tmp 34) rfl wr.heap.size _ [] rfl (own_lit wr #[] [] rfl (by decide)) _ xs rfl (IX.out.keep nb) (by rw [LX.out, List.length_nil]; omega) nb.size ?_
            intro s1 w1 o1 k1
            have nb1 := nb.trans k1
            clear nb k1
            go_wp2_with (at_builtin; refine halt ?_)
            refine ⟨?_⟩
            have o1' := o1.keep ((Below.refl _ _).alloc (Nat.le_refl _) (.cells #[.int .u8 1] 5))
            refine wpList_append_bytes rfl (.tmp 35) (.tmp 36) rfl wr.heap.size _ _ rfl o1' _ [1] rfl (isB_new w1 _ [1] rfl (by decide) _ _ rfl rfl) (by rw [List.nil_append, LX.out]; simp; omega) (by have := nb1.size; simp; omega) ?_
            intro s2 w2 o2 k2
            have nb2 := (nb1.alloc nb1.size (.cells #[.int .u8 1] 5)).trans k2
            clear nb1 k2 o1 o1'
            obtain ⟨A2, c2, rfl, i2, l2, m2⟩ := o2.isB.form (n := m + 1) (by rw [List.nil_append, List.length_append, LX.out]; rfl)
            have I2 := hide i2
            have L2 : Hid (([] ++ xs ++ [1]).length = m + 1) := hide (by rw [List.nil_append, List.length_append, LX.out]; rfl)
            have B2 : Hid (∀ x ∈ [] ++ xs ++ [1], x < 256) := hide (by rw [List.nil_append]; exact byte_app' BX.out (by simp))
            have K2 := hide (KX.out.trans (nb2.mono KX.out.size))
            clear i2 l2 m2 o2 nb2
            go_wp2_with fail
            go_roundw
            case rel => exact ⟨A2, m + 1, c2, _, rfl, by omega, hmT2, I2, L2, B2, K2⟩
            case measure => simp [lenV]; omega
theorem stripRots_walk (a0 : Option Addr) (len0 cap0 : Nat) (z0 : List Int) (a1 a2 : Int) (W : World) (w0 : IsRow .u8 W a0 len0 cap0 z0) (_ : (Lit.int .i64 a1).wf = true) (w2 : (Lit.int .u8 a2).wf = true) :
    Calls Try.prog 9 #[.slice a0 len0 cap0, .int .i64 a1, .int .u8 a2] W fun e w' => e = .returned (.bool true) ∧ Below W.heap.size W w' := by
  obtain ⟨xs, h1, h2, h3, h4⟩ := w0.isB
  have h9 := w2
  simp [Lit.wf, IntKind.min, IntKind.max, IntKind.signed, IntKind.bits] at h9
  obtain ⟨y, rfl⟩ : ∃ y : Nat, a2 = (y : Int) := ⟨a2.toNat, by omega⟩
  exact stripRots_core a0 len0 cap0 xs a1 y W h3 h1 h2 h4 (by omega)
end Go.Proofs.Ytehgjkckhjggbaa
