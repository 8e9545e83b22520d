/- The contract of the document's Cut. Condition: at most 900000 bytes. The walk of the law StripCuts. -/
import Derived.Test.YtehgjkckhjggbaaSp18
import Derived.Test.YtehgjkckhjggbaaSp8
import Derived.Test.YtehgjkckhjggbaaSp12
import Derived.Test.YtehgjkckhjggbaaSp11
import Derived.Test.YtehgjkckhjggbaaSp9
namespace Go.Proofs.Ytehgjkckhjggbaa
open Go.RowKit
theorem rheight_any (n k : Nat) (w : World) (hn : n ≤ 4294967296) (hk : 1 ≤ k) (hk2 : k ≤ 1000) : Calls Try.prog 67 #[.int .i64 (n : Int), .int .i64 (k : Int)] w fun e w' => e = .returned (.int .i64 (hgt n k : Nat)) ∧ w = w' := by
  obtain ⟨a, ha⟩ : ∃ a, a = k * 16 := ⟨_, rfl⟩
  have haz : (k : Int) * 16 = (a : Int) := by omega
  have e : ((hgt n k : Nat) : Int) = ((n : Int) + (a : Int) - 1) / (a : Int) := by
    rw [← hgt_ref hk, ← ha, Int.natCast_ediv, show ((n + a - 1 : Nat) : Int) = (n : Int) + (a : Int) - 1 by omega]
  rw [e]
  have ha1 : 16 ≤ a := by omega
  have ha2 : a ≤ 16000 := by omega
  have ha0 : ¬ (a : Int) = 0 := by omega
  clear e ha
  go_enter Try.func67, Try.ntmps67
  go_wp2_with fail
  go_ret
  exact ⟨rfl, rfl⟩
set_option maxRecDepth 100000 in
set_option maxHeartbeats 6400000 in
theorem rcut_any (A : Option Addr) (n c : Nat) (k m : Int) (b : List Nat) (w : World) (hA : IsB w (.slice A n c) b) (hn : b.length = n) (hb : ∀ x ∈ b, x < 256) (h9 : n ≤ 900000) (ik : I64 k) (im : I64 m) :
    Calls Try.prog 28 #[.slice A n c, .int .i64 k, .int .i64 m] w fun e w' => ∃ v, e = .returned (.tuple #[v, .int .i64 (stripsE b k m)]) ∧ Held w' w.heap.size v (stripsL b k m) ∧ Below w.heap.size w w' := by
  have HA := hide hA
  have HN := hide hn
  have HB := hide hb
  have HC := hide (rcode_all k m w ik.1 ik.2 im.1 im.2)
  by_cases hbad : k < 1 ∨ m < 0 ∨ 14 < k + m
  · have e1 : codeE k m = 1 := if_pos hbad
    rw [e1] at HC
    have r1 : stripsE b k m = 1 := if_pos (.inl hbad)
    have r2 : stripsL b k m = [] := if_pos (.inl hbad)
    rw [r1, r2]
    clear hA hn hb ik im hbad e1 r1 r2
    go_enter Try.func28, Try.ntmps28
    go_wp2_with fail
    refine HC.out.mono ?_
    rintro e w1 ⟨v, rfl, o1, k1⟩
    go_wp2_with fail
    go_ret2
    exact ⟨_, rfl, Held.nil _ _, k1⟩
  · have e1 : codeE k m = 0 := if_neg hbad
    rw [e1] at HC
    by_cases hn0 : n = 0
    · subst hn0
      have r1 : stripsE b k m = 1 := if_pos (.inr hn)
      have r2 : stripsL b k m = [] := if_pos (.inr hn)
      rw [r1, r2]
      clear hA hn hb ik im hbad e1 r1 r2
      go_enter Try.func28, Try.ntmps28
      go_wp2_with fail
      refine HC.out.mono ?_
      rintro e w1 ⟨v, rfl, o1, k1⟩
      go_wp2_with fail
      go_ret2
      exact ⟨_, rfl, Held.nil _ _, k1⟩
    · have hno : ¬ stripsBad b k m := fun h => h.elim hbad (fun h => hn0 (by omega))
      have r1 : stripsE b k m = 0 := if_neg hno
      have r2 : stripsL b k m = wordL k.toNat m.toNat (hgt b.length k.toNat * 16) (srcS b k.toNat) := if_neg hno
      rw [r1, r2]
      obtain ⟨a, rfl⟩ : ∃ a : Nat, k = (a : Int) := ⟨k.toNat, by omega⟩
      obtain ⟨d, rfl⟩ : ∃ d : Nat, m = (d : Int) := ⟨m.toNat, by omega⟩
      rw [Int.toNat_natCast, Int.toNat_natCast]
      have h1 : 1 ≤ a := by omega
      have h14 : a + d ≤ 14 := by omega
      have hb1 : 1 ≤ b.length := by omega
      obtain ⟨H, hH⟩ : ∃ H, H = hgt b.length a := ⟨_, rfl⟩
      have hHB : H ≤ 56251 := by rw [hH]; have := hgt_le (n := b.length) h1; unfold blks at this; omega
      have hup : blks n ≤ H * a := by rw [hH, ← hn]; exact hgt_up h1
      have HHC := rheight_any n a
      rw [show hgt n a = H by rw [hH, hn]] at HHC
      have HHC := hide HHC
      have HS := hide (fun (L : ML) (E : Int) (h : sumsAns (dataS b a) (d : Int) L E) => cut_sums h1 hb1 h14 h)
      have HRS := hide (rowsS_all (k := a) hb)
      rw [← hH] at HS HRS ⊢
      have HHH := hide hH
      -- how many blocks, and how many bytes they have
      obtain ⟨nb, hnb⟩ : ∃ nb, nb = H * a := ⟨_, rfl⟩
      have hnbz : (H : Int) * (a : Int) = (nb : Int) := by rw [hnb]; exact (Int.natCast_mul _ _).symm
      have hnb2 : nb ≤ 800000 := by rw [hnb]; exact Nat.le_trans (Nat.mul_le_mul hHB (show a ≤ 14 by omega)) (by decide)
      rw [← hnb] at HRS hup
      obtain ⟨T, hT⟩ : ∃ T, T = nb * 16 := ⟨_, rfl⟩
      have hTz : (nb : Int) * 16 = (T : Int) := by omega
      have hnT : n ≤ T := by unfold blks at hup; omega
      have hTb : T ≤ 12800000 := by omega
      obtain ⟨z, hz⟩ : ∃ z, z = T - n := ⟨_, rfl⟩
      have hzz : (T : Int) - (n : Int) = (z : Int) := by omega
      have HNB := hide hnb
      have HT := hide hT
      have HZ := hide hz
      have hn00 : ¬ (n : Int) = 0 := by omega
      have hn01 : ((n : Int) == 0) = false := by simp; omega
      have hn4 : ((4194304 : Int) < (n : Int)) = False := by simp; omega
      clear hA hn ik im hbad e1 r1 r2 hno hb1 hH hnb hup hT hz hb
      go_enter Try.func28, Try.ntmps28
      go_wp2_with fail
      refine HC.out.mono ?_
      rintro e w1 ⟨v, rfl, o1, k1⟩
      have K1 := hide k1
      clear k1 o1 HC
      go_wp2_with fail
      refine (HHC.out w1 (by omega) h1 (by omega)).mono ?_
      rintro e w2 ⟨rfl, rfl⟩
      have nb0 : Below w1.heap.size w1 (w1.alloc (.cells #[] 5)) := (Below.refl _ _).alloc (Nat.le_refl _) _
      go_wp2_with (at_builtin; refine halt ?_)
      refine ⟨?_⟩
      refine wpList_append_bytes rfl (.tmp 36) (.tmp 37) rfl w1.heap.size _ [] rfl (own_lit w1 #[] [] rfl (by decide)) _ b rfl ((HA.out.keep K1.out).keep nb0) (by rw [HN.out, List.length_nil]; omega) nb0.size ?_
      intro s1 w2 o1 k1
      rw [List.nil_append] at o1
      have K2 := hide (K1.out.trans ((nb0.trans k1).mono K1.out.size))
      obtain ⟨v3, w3, hr3, o3, k3⟩ := run_zeros 23 o1 z (by rw [HN.out, HZ.out]; omega) (Nat.le_trans nb0.size k1.size)
      obtain ⟨A3, c3, rfl, i3, l3, m3⟩ := o3.isB.form (n := T) (by rw [List.length_append, List.length_replicate, HN.out, HZ.out]; omega)
      obtain ⟨ab, ao, rfl⟩ := isB_at i3 (by omega)
      have HR3 := hide hr3
      have I3 := hide i3
      have K3 := hide (K2.out.trans (k3.mono (Nat.le_trans K1.out.size (Nat.le_refl _))))
      clear o1 k1 k3 o3 nb0 hr3 i3
      go_wp2_with (at_builtin; refine halt ?_)
      refine ⟨?_⟩
      refine Lib.wpList_append_run _ rfl _ _ _ _ rfl _ _ rfl rfl _ _ HR3.out ?_
      clear HR3
      obtain ⟨i0, hi0, hz0, hz1, hz2⟩ := info_parts Try.info_rows
      go_wp2_with (at_make; refine halt ?_)
      refine ⟨?_⟩
      refine wpList_make_full _ rfl (.tmp 47) (.tmp 47) 42 rfl w3.heap.size 23 i0 (.slice none 0 0) 1 Try.underlying42 hi0 hz0 hz1 .i64 .i64 a a a rfl rfl rfl rfl (by rw [hz2]; omega) (by unfold maxLen; omega) (Nat.le_refl _) ?_
      intro w4 h4 g4
      have r4 := RowsA.nils (made_nils h4)
      have k4 : Below w3.heap.size w3 w4 := (Below.refl _ _).grown g4 (Nat.le_refl _) (by simp)
      obtain ⟨g, hg⟩ : ∃ g, g = w3.heap.size := ⟨_, rfl⟩
      rw [← rowsS_none b a] at r4
      have I3' := hide (show ∀ wr : World, Below g w3 wr → IsB wr (.slice (some ⟨ab, ao, none⟩) T c3) (b ++ List.replicate z 0) from fun wr h => I3.out.keep (by rw [← hg]; exact h))
      have KW := hide (show ∀ wr : World, Below g w3 wr → Below w.heap.size w wr from fun wr h => K3.out.trans (h.mono (by rw [hg]; exact K3.out.size)))
      have HGW : Hid (w.heap.size ≤ g) := hide (by rw [hg]; exact K3.out.size)
      rw [← hg] at r4 k4 ⊢
      have R4 : Hid (RowsA w4 g g a (rowsS b a 0)) := hide r4
      have K4 : Hid (Below g w3 w4) := hide k4
      clear h4 g4 r4 k4 hg hi0 hz0 hz1 hz2 K1 K2 K3 I3
      go_wp2_with fail
      go_loopw [13] (fun i wr => ∃ j : Nat, j ≤ nb ∧ i = .int .i64 (j : Int) ∧ Hid (RowsA wr g g a (rowsS b a j)) ∧ Hid (Below g w3 wr)) (fun i _ => nb - (intOf i).toNat)
      case atStart => exact ⟨0, Nat.zero_le _, rfl, R4, K4⟩
      case round =>
        clear R4 K4
        obtain ⟨j, hj, rfl, hR, hK⟩ := hrel
        by_cases hlt : j < nb
        · have hji : (j : Int) < (nb : Int) := by omega
          obtain ⟨i, hi⟩ : ∃ i, i = j % a := ⟨_, rfl⟩
          have hia : i < a := by rw [hi]; exact Nat.mod_lt j (by omega)
          have hiz : (j : Int) % (a : Int) = (i : Int) := by rw [hi]; exact (Int.natCast_emod _ _).symm
          obtain ⟨p, hp⟩ : ∃ p, p = j * 16 := ⟨_, rfl⟩
          have hpz : (j : Int) * 16 = (p : Int) := by omega
          have hqz : ((j : Int) + 1) * 16 = ((p + 16 : Nat) : Int) := by omega
          obtain ⟨q, hq⟩ : ∃ q, q = p + 16 := ⟨_, rfl⟩
          rw [← hq] at hqz
          have hqT : q ≤ T := by rw [hq, hp, HT.out]; omega
          have hpq : p < q := by omega
          have hp2 : p ≤ 12800000 := by omega
          have hq2 : q ≤ 12800000 := by omega
          have hw1 : IntKind.i64.wrap (p : Int) = (p : Int) := by rw [IntKind.wrap_i64]; omega
          have hw2 : IntKind.i64.wrap (q : Int) = (q : Int) := by rw [IntKind.wrap_i64]; omega
          have hw3 : IntKind.i64.wrap ((j : Int) + 1) = (j : Int) + 1 := by rw [IntKind.wrap_i64]; omega
          have hc1 : ¬ c3 = p := by omega
          have hc2 : ¬ p = c3 := by omega
          have h01 : (p : Int) ≤ (q : Int) := by omega
          have h02 : (q : Int) ≤ (c3 : Int) := by omega
          have h03 : (0 : Int) ≤ (p : Int) := by omega
          have h04 : (0 : Int) ≤ (i : Int) := by omega
          have h05 : (i : Int) < (a : Int) := by omega
          have ha0 : ¬ (a : Int) = 0 := by omega
          have ha00 : ¬ a = 0 := by omega
          have hit : (j : Int).tmod (a : Int) = (i : Int) := by rw [Int.tmod_eq_emod_of_nonneg (by omega)]; exact hiz
          have ha1 : ((a : Int) == 0) = false := by simp; omega
          have KD : Hid (Below wr.heap.size wr wr.drew) := hide ⟨rfl, rfl, rfl, Nat.le_refl _, fun _ _ => rfl⟩
          have RD := hide (hR.out.keep KD.out)
          obtain ⟨A5, c5, hc5, ho5, hf5⟩ := RD.out.row i hia
          have hrow : (rowsS b a j).getD i [] = (List.range (cntS a j i * 16)).map fun y => b.getD (srcAt a i y) 0 := rowsS_row hia
          have hlen : ((rowsS b a j).getD i []).length ≤ 12800000 := by
            rw [hrow, List.length_map, List.length_range]
            have hcn : cntS a j i ≤ j := by
              unfold cntS
              have : (j + a - 1 - i) / a ≤ (j * a) / a ∨ j = 0 := by
                rcases Nat.eq_zero_or_pos j with h | h
                · exact .inr h
                · refine .inl (Nat.div_le_div_right ?_)
                  obtain ⟨j', rfl⟩ : ∃ j', j = j' + 1 := ⟨j - 1, by omega⟩
                  obtain ⟨a', rfl⟩ : ∃ a', a = a' + 1 := ⟨a - 1, by omega⟩
                  rw [Nat.add_mul, Nat.mul_add]
                  have := Nat.zero_le (j' * a')
                  omega
              rcases this with h | h
              · rwa [Nat.mul_div_cancel _ (by omega)] at h
              · subst h
                rw [Nat.div_eq_of_lt (by omega)]
                exact Nat.le_refl _
            omega
          obtain ⟨l5, hl5⟩ : ∃ l, l = ((rowsS b a j).getD i []).length := ⟨_, rfl⟩
          rw [← hl5] at hc5 ho5 hlen
          have HL5 := hide hl5
          have C5 := hide hc5
          have O5 := hide ho5
          have HI := hide hi
          have HP := hide hp
          have HQ := hide hq
          have IB : Hid (IsB wr.drew (.slice (some ⟨ab, ao + p, none⟩) (q - p) (c3 - p)) (blkAt b j)) := hide (by
            have h9 := isB_sub ((I3'.out wr hK.out).keep KD.out) p (q - p) (c3 - p) (by omega) rfl
            have e9 := blk_take (b := b) (n := T) (j := j) (by rw [HN.out]; exact hnT) (by omega)
            rw [HN.out, ← HZ.out, ← hp] at e9
            rw [show q - p = 16 by omega] at h9 ⊢
            rw [e9] at h9
            exact h9)
          clear hrow hl5 ho5 hi hp hq
          go_wp2_with fail
          go_region_law (refine step_append_at rfl (.tmp 65) (.tmp 72) rfl g (.slice A5 l5 c5) _ rfl O5.out _ (blkAt b j) rfl IB.out (by rw [← HL5.out, blkAt_len]; omega) (Nat.le_of_lt RD.out.base.2) ?_; intro v6 w6 o6 g6 l6; obtain ⟨c6, f6⟩ := RD.out.stay hia C5.out g6; obtain ⟨A7, c7, rfl, i7, _, _⟩ := o6.isB.form (n := l5 + 16) (by rw [List.length_append, ← HL5.out, blkAt_len]); clear i7)
          all_goals
            have HJI := HI.out
            have R7 : Hid (RowsA (w6.setCell ⟨g, i, none⟩ (.slice A7 (l5 + 16) c7)) g g a (rowsS b a (j + 1))) := hide (by
              have h9 := RD.out.grow hia C5.out o6 g6 l6
              rw [HJI, rowsS_step h1] at h9
              rw [HJI]
              exact h9)
            have K7 : Hid (Below g w3 (w6.setCell ⟨g, i, none⟩ (.slice A7 (l5 + 16) c7))) := hide (by
              have kk : Below g w3 wr.drew := ⟨hK.out.os, hK.out.tape, hK.out.output, hK.out.size, hK.out.block⟩
              exact (kk.grown g6 (Nat.le_of_lt RD.out.base.2) (fun k hk => (O5.out.lt k hk).1)).setCell RD.out.base.1 _)
            clear HJI o6 g6 l6 c6 f6
            go_wp2_with fail
            go_roundw
            case rel => exact ⟨j + 1, by omega, by go_num, R7, K7⟩
            case measure => simp [intOf]; omega
        · obtain rfl : j = nb := by omega
          have hji : ¬ ((j : Int) < (j : Int)) := by omega
          have OW := (hR.out.own (by omega)).more HGW.out
          rw [HRS.out] at OW
          have HLD := hide OW.held
          have KWR := hide (KW.out wr hK.out)
          have SC := hide (rsums_any (some ⟨g, 0, none⟩) a a (d : Int) (dataS b a) wr OW.isM.1 (dataS_len b a) (by omega) (dataS_shape b a).byte (fun r hr => by rw [(dataS_shape b a).wide r hr, ← HHH.out]; omega) (by omega) (by omega))
          clear OW hR hK KW I3'
          go_wp2_with fail
          refine SC.out.mono ?_
          rintro e w6 ⟨v6, L6, E6, rfl, ow6, an6, k6⟩
          obtain ⟨rfl, hl6, hw6⟩ := HS.out L6 E6 an6
          have ow6 := ow6.more KWR.out.size
          obtain ⟨A6, c6, rfl, ro6, m6⟩ := ow6.held.form hl6
          have RO6 := hide ro6
          have NC6 := hide ow6.nilc
          have HL6 := hide (HLD.out.keep k6)
          have K6 := hide (KWR.out.trans (k6.mono KWR.out.size))
          have LL6 := hide hl6
          have HW6 := hide hw6
          clear ow6 an6 k6 ro6 m6 hl6 hw6 HLD SC
          go_wp2_with (at_builtin; refine halt ?_)
          refine ⟨?_⟩
          refine wpList_append_helds rfl (.tmp 81) (.tmp 82) rfl w.heap.size _ (dataS b a) rfl HL6.out A6 d c6 L6 rfl RO6.out LL6.out NC6.out (by rw [dataS_len]; omega) K6.out.size ?_
          intro v7 w7 h7 k7
          rw [HW6.out] at h7
          have H7 := hide h7
          have K7 := hide (K6.out.trans (k7.mono (Nat.le_refl _)))
          clear h7 k7
          go_wp2_with fail
          go_ret2
          exact ⟨v7, rfl, H7.out, K7.out⟩
end Go.Proofs.Ytehgjkckhjggbaa
namespace Go.Proofs.Ytehgjkckhjggbaa
open Go.RowKit
set_option maxRecDepth 100000 in
set_option maxHeartbeats 3200000 in
theorem stripCuts_core (A : Option Addr) (n c : Nat) (b : List Nat) (k m : Int) (w : World) (hA : IsB w (.slice A n c) b) (hn : b.length = n) (hb : ∀ x ∈ b, x < 256) (hn63 : n ≤ 9223372036854775807) (ik : I64 k) (im : I64 m) :
    Calls Try.prog 7 #[.slice A n c, .int .i64 k, .int .i64 m] w fun e w' => e = .returned (.bool true) ∧ Below w.heap.size w w' := by
  by_cases h3 : 3000 < n
  · have h3z : (3000 : Int) < (n : Int) := by omega
    go_enter Try.func7, Try.ntmps7
    go_wp2_with fail
    go_ret
    exact ⟨rfl, Below.refl _ _⟩
  · have h3z : ¬ (3000 : Int) < (n : Int) := by omega
    have HA := hide hA
    have HN := hide hn
    have HB := hide hb
    have IK := hide ik
    have IM := hide im
    obtain ⟨E, hE⟩ : ∃ E, E = stripsE b k m := ⟨_, rfl⟩
    obtain ⟨L, hL⟩ : ∃ L, L = stripsL b k m := ⟨_, rfl⟩
    have CP := hide (fun (A : Option Addr) (c : Nat) (w : World) (hA : IsB w (.slice A n c) b) => cut_any A n c k m b w hA hn hb (by omega) ik im)
    have CR := hide (fun (A : Option Addr) (c : Nat) (w : World) (hA : IsB w (.slice A n c) b) => rcut_any A n c k m b w hA hn hb (by omega) ik im)
    rw [← hE, ← hL] at CP CR
    clear hA hn hb ik im hE hL
    go_enter Try.func7, Try.ntmps7
    go_wp2_with fail
    refine (small_any k m w).mono ?_
    rintro e w1 ⟨⟨s, rfl⟩, rfl⟩
    cases s with
    | false =>
      go_wp2_with fail
      go_ret
      exact ⟨rfl, Below.refl _ _⟩
    | true =>
      go_wp2_with fail
      refine (roomy_any A n c b w HA.out HN.out (by omega)).mono ?_
      rintro e w1 ⟨A1, c1, rfl, i1, l1, m1, k1⟩
      have i1t := i1.take n (by omega)
      rw [List.take_left' HN.out] at i1t
      have I1 := hide i1
      have I1T := hide i1t
      have K1 := hide k1
      have hnc : (n : Int) ≤ (c1 : Int) := by omega
      clear i1 i1t k1
      go_wp2_with fail
      refine (CP.out A1 c1 w1 I1T.out).mono ?_
      rintro e w2 ⟨v2, rfl, h2, k2⟩
      obtain ⟨A2, c2, rfl, r2, m2⟩ := h2.form (n := L.length) rfl
      have R2 := hide r2.isM
      have K2 := hide (K1.out.trans (k2.mono K1.out.size))
      have I2 := hide (I1.out.keep k2)
      clear h2 r2 k2 K1 I1 I1T CP
      go_wp2_with fail
      refine (CR.out A c w2 (HA.out.keep K2.out)).mono ?_
      rintro e w3 ⟨v3, rfl, h3, k3⟩
      obtain ⟨A3, c3, rfl, r3, m3⟩ := h3.form (n := L.length) rfl
      have R3 := hide r3.isM
      have R2 := hide (R2.out.below k3)
      have K3 := hide (K2.out.trans (k3.mono K2.out.size))
      have I3 := hide (I2.out.keep k3)
      clear h3 r3 k3 K2 I2 CR
      go_wp2_with fail
      refine (rows_same A2 A3 L.length c2 c3 L w3 R2.out R3.out rfl m2).mono ?_
      rintro e w4 ⟨rfl, d4, rfl⟩
      have K4 := hide (below_drewN K3.out d4)
      have I4 : Hid (IsB (w3.drewN d4) (.slice A1 (n + 1) c1) (b ++ [171])) := hide (I3.out)
      have HA4 := hide (HA.out.keep K4.out)
      generalize w3.drewN d4 = W4 at *
      go_wp2_with fail
      refine (stands_any A1 c1 A n c b W4 I4.out HA4.out HN.out (by omega) (by omega) m1).mono ?_
      rintro e w5 ⟨rfl, d5, rfl⟩
      have K5 := hide (below_drewN K4.out d5)
      generalize W4.drewN d5 = W5 at *
      go_wp2_with fail
      refine (known_any W5).mono ?_
      rintro e w6 ⟨rfl, k6⟩
      have K6 := hide (K5.out.trans (k6.mono K5.out.size))
      clear k6
      go_wp2_with fail
      go_ret
      exact ⟨rfl, K6.out⟩
theorem i64_wf {z : Int} (h : (Lit.int .i64 z).wf = true) : I64 z := by
  simp [Lit.wf, IntKind.min, IntKind.max, IntKind.signed, IntKind.bits] at h
  unfold I64
  omega
theorem stripCuts_walk (a0 : Option Addr) (len0 cap0 : Nat) (z0 : List Int) (a1 a2 : Int) (W : World) (w0 : IsRow .u8 W a0 len0 cap0 z0) (w1 : (Lit.int .i64 a1).wf = true) (w2 : (Lit.int .i64 a2).wf = true) :
    Calls Try.prog 7 #[.slice a0 len0 cap0, .int .i64 a1, .int .i64 a2] W fun e w' => e = .returned (.bool true) ∧ Below W.heap.size W w' := by
  obtain ⟨xs, h1, h2, h3, h4⟩ := w0.isB
  exact stripCuts_core a0 len0 cap0 xs a1 a2 W h3 h1 h2 h4 (i64_wf w1) (i64_wf w2)
end Go.Proofs.Ytehgjkckhjggbaa
