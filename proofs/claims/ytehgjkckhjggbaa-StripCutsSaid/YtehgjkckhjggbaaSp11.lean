/- The contract of the document's Sums: the rows of sums, or refused. No condition but the widths. The contract of the law's own small(): some truth. No condition. -/
import Derived.Test.YtehgjkckhjggbaaSp10
import Derived.Test.YtehgjkckhjggbaaSp8
import Derived.BigQuiet
namespace Go.Proofs.Ytehgjkckhjggbaa
open Go.RowKit
set_option maxHeartbeats 6400000 in
set_option maxRecDepth 100000 in
theorem rsums_any (A : Option Addr) (n c : Nat) (m : Int) (D : ML) (w : World) (hA : IsM w A D) (hn : D.length = n) (h63 : n ≤ 9223372036854775807) (bD : ∀ r ∈ D, ∀ x ∈ r, x < 256) (h47 : ∀ r ∈ D, r.length ≤ 1000000) (m1 : -9223372036854775808 ≤ m) (m2 : m ≤ 9223372036854775807) :
    Calls Try.prog 68 #[.slice A n c, .int .i64 m] w fun e w' => ∃ v L E, e = .returned (.tuple #[v, .int .i64 E]) ∧ OwnMt w' w.heap.size v L ∧ sumsAns D m L E ∧ Below w.heap.size w w' := by
  have HA := hide hA
  have HN := hide hn
  have BD := hide (And.intro bD h47)
  have M1 := hide (rcode_all n m w (by omega) (by omega) m1 m2)
  obtain ⟨E, hE⟩ : ∃ E, E = codeE n m := ⟨_, rfl⟩
  obtain ⟨L, hL⟩ : ∃ L, L = codeR n m := ⟨_, rfl⟩
  rw [← hE, ← hL] at M1
  have HE := hide hE
  have HL := hide hL
  clear hA hn bD h47 hE hL
  go_enter Try.func68, Try.ntmps68
  go_wp2_with fail
  refine M1.out.mono ?_
  rintro e w1 ⟨v, rfl, o1, k1⟩
  by_cases e0 : E = 0
  · subst e0
    have hg : ¬ ((n : Int) < 1 ∨ m < 0 ∨ 14 < (n : Int) + m) := fun q => by
      have := HE.out
      unfold codeE at this
      rw [if_pos q] at this
      cases this
    obtain ⟨b, rfl⟩ : ∃ b : Nat, m = (b : Int) := ⟨m.toNat, by omega⟩
    have hLc : L = codeL n b := by
      rw [HL.out]
      unfold codeR
      rw [if_neg hg, Int.toNat_natCast, Int.toNat_natCast]
    rw [hLc] at o1
    obtain ⟨A1, c1, rfl, i1, l1⟩ := o1.form (n := n + b) (by unfold codeL; rw [laid_len])
    have I1 := hide i1
    have K1 := hide k1
    have hn1 : 1 ≤ n := by omega
    have hnb : n + b ≤ 14 := by omega
    obtain ⟨b2, off2, A2, c2, rfl, cr0, -, l2, m2'⟩ := HA.out.at_ 0 (by rw [HN.out]; omega)
    obtain ⟨len0, hlen0⟩ : ∃ len0, len0 = (D.getD 0 []).length := ⟨_, rfl⟩
    rw [← hlen0] at cr0 l2
    have HLE := hide hlen0
    have CR0 := hide (show w.cell? ⟨b2, off2, none⟩ = some (.slice A2 len0 c2) from cr0)
    have cr1 := (k1.cell (cell_lt CR0.out)).trans CR0.out
    have hn0 : 0 < (n : Int) := by omega
    clear o1 i1 k1 hLc hg cr0 hlen0 M1 m1 m2
    go_wp2_with fail
    go_loopw [9] (fun i wr => ∃ y d : Nat, y ≤ n ∧ i = .int .i64 (y : Int) ∧ Hid (∀ t, t < y → (D.getD t []).length ≠ 0 ∧ (D.getD t []).length = len0) ∧ wr = w1.drewN d) (fun i _ => n - (intOf i).toNat)
    case atStart => exact ⟨0, 0, Nat.zero_le _, rfl, hide (fun t ht => absurd ht (Nat.not_lt_zero t)), rfl⟩
    case round =>
      obtain ⟨y, d, hy, rfl, hall, rfl⟩ := hrel
      by_cases hlt : y < n
      · obtain ⟨b3, off3, A3, c3, e3, cy0, -, l3, m3⟩ := HA.out.at_ y (by rw [HN.out]; exact hlt)
        cases e3
        obtain ⟨ly, hly⟩ : ∃ ly, ly = (D.getD y []).length := ⟨_, rfl⟩
        rw [← hly] at cy0 l3
        have HLY := hide hly
        have cy := (K1.out.cell (cell_lt cy0)).trans cy0
        have HMEM := hide (show D.getD y [] ∈ D from mem_getD (by rw [HN.out]; exact hlt))
        clear hly cy0
        by_cases hz : ly = 0
        · have hz0 : ((ly : Int) == 0) = true := by simp [hz]
          have HZ := hide hz
          clear hz
          go_wp2_with fail
          go_quiet (fail)
          go_wp2_with fail
          go_ret2
          exact ⟨_, [], _, rfl, OwnMt.nil _ _, .inl ⟨rfl, rfl, .inr (.inr (.inr ⟨_, HMEM.out, .inl (List.eq_nil_of_length_eq_zero (by rw [← HLY.out]; exact HZ.out))⟩))⟩, below_draw (below_draw K1.out d) _⟩
        · have hz0 : ((ly : Int) == 0) = false := by simp; omega
          by_cases hq : ly = len0
          · have hne : ((ly : Int) != (len0 : Int)) = false := by simp [hq]
            have HQ := hide hq
            have HZ := hide hz
            clear hq hz
            go_wp2_with fail
            go_quiet (fail)
            go_wp2_with fail
            go_roundw
            case rel =>
              refine ⟨y + 1, _, by omega, by go_num, hide (fun t ht => ?_), rfl⟩
              by_cases e : t = y
              · subst e; rw [← HLY.out]; exact ⟨HZ.out, HQ.out⟩
              · exact hall.out t (by omega)
            case measure => simp [intOf]; omega
          · have hne : ((ly : Int) != (len0 : Int)) = true := by simp; omega
            have HQ := hide hq
            clear hq hz
            go_wp2_with fail
            go_quiet (fail)
            go_wp2_with fail
            go_ret2
            exact ⟨_, [], _, rfl, OwnMt.nil _ _, .inl ⟨rfl, rfl, .inr (.inr (.inr ⟨_, HMEM.out, .inr (by rw [← HLY.out, ← HLE.out]; exact HQ.out)⟩))⟩, below_draw (below_draw K1.out d) _⟩
      · obtain rfl : y = n := by omega
        have hnb1 : ¬ sumsBad D (b : Int) := by
          rintro (q | q | q | ⟨r, hr, q⟩)
          · rw [HN.out] at q; omega
          · omega
          · rw [HN.out] at q; omega
          · obtain ⟨t, ht, rfl⟩ := List.getElem_of_mem hr
            have h2 := hall.out t (by rw [← HN.out]; exact ht)
            have e : D.getD t [] = D[t] := by simp [ht]
            rw [e] at h2
            rcases q with q | q
            · rw [q] at h2; simp at h2
            · exact q (by rw [h2.2, HLE.out])
        have HNB := hide hnb1
        obtain ⟨b', hb', -, -, h1l, hsD⟩ := sums_fit hnb1 BD.out.1
        rw [← HLE.out] at h1l hsD
        rw [HN.out] at hsD
        have HSD := hide hsD
        have KD := hide (below_draw K1.out d)
        have ID := hide (I1.out.drewN d)
        obtain ⟨W0, hW0⟩ : ∃ W0, W0 = w1.drewN d := ⟨_, rfl⟩
        rw [← hW0] at KD ID ⊢
        have HW0L := hide (show ((wordL y b len0 (en D)).drop y).length = b ∧ ∀ i, i < b → ((wordL y b len0 (en D)).drop y).getD i [] = (wordL y b len0 (en D)).getD (y + i) [] from ⟨by rw [List.length_drop, wordL_len]; omega, fun i hi => by simp⟩)
        have HANS := hide (show (wordL D.length (b : Int).toNat (D.getD 0 []).length (en D)).drop D.length = (wordL y b len0 (en D)).drop y by rw [HN.out, HLE.out, Int.toNat_natCast])
        obtain ⟨S, hS⟩ : ∃ S, S = (wordL y b len0 (en D)).drop y := ⟨_, rfl⟩
        have HRW := hide (fun l (hl : l < y + b) => word_row (a := y) (b := b) (n := len0) (l := l) (en D) hl (W := D) (fun _ _ _ _ => rfl))
        rw [← hS] at HW0L HANS
        have h47 := hide (show len0 ≤ 1000000 by rw [HLE.out]; exact BD.out.2 _ (mem_getD (by rw [HN.out]; omega)))
        have hyb : (y : Int) + (b : Int) ≤ 14 := by omega
        have hyb0 : 0 ≤ (y : Int) + (b : Int) := by omega
        clear hW0 hnb1 hb' hsD hS hall cr1
        go_wp2_with fail
        go_loopw [10, 11] (fun s i wr => ∃ q : Nat, q ≤ b ∧ i = .int .i64 ((y + q : Nat) : Int) ∧ Hid (OwnMt wr W0.heap.size s (S.take q)) ∧ Hid (Below W0.heap.size W0 wr)) (fun _ i _ => y + b - (intOf i).toNat)
        case atStart => exact ⟨0, Nat.zero_le _, rfl, hide (OwnMt.nil _ _), hide (Below.refl _ _)⟩
        case round =>
          obtain ⟨q, hq, rfl, hown, hbel⟩ := hrel
          have hcast : ((y + q : Nat) : Int) = (y : Int) + (q : Int) := by omega
          rw [hcast]
          by_cases hltq : q < b
          · obtain ⟨b5, off5, A5, c5, e5, cc0, ic, l5, m5⟩ := (ID.out.below hbel.out).at_ (y + q) (by unfold codeL; rw [laid_len]; omega)
            cases e5
            have hrowc := (laid_shape (y + b) y (codeRow y)).row (show y + q < y + b by omega)
            rw [show ((codeL y b).getD (y + q) []).length = y from hrowc.1] at cc0 l5 ic
            have kw := below_step KD.out hbel.out
            have HBL := rblend_any A5 (some ⟨b2, off2, none⟩) y c5 y len0 c ((codeL y b).getD (y + q) []) D wr ic.rd hrowc.1 hrowc.2 (HA.out.below kw) HSD.out hn1 (Nat.le_refl _) h47.out (by omega) (by omega)
            rw [HRW.out (y + q) (by omega), ← HW0L.out.2 q hltq] at HBL
            have HBL := hide HBL
            have HST := hide (take_snoc S q (by rw [HW0L.out.1]; exact hltq))
            have HGS := hide hbel.out.size
            have HBE := hide hbel.out
            have HOW := hide hown.out
            have hqi : (y : Int) + (q : Int) < (y : Int) + (b : Int) := by omega
            have hqi2 : (y : Int) + (q : Int) < ((y + b : Nat) : Int) := by omega
            clear kw ic hrowc hown hbel hcast
            go_wp2_with fail
            refine HBL.out.mono ?_
            rintro e w5 ⟨g5, rfl, o5, k5⟩
            have K5 := hide (HBE.out.trans (k5.mono HGS.out))
            have O5 := hide (o5.more HGS.out)
            have OM := hide (HOW.out.keep k5)
            have HG5 := hide (Nat.le_trans HGS.out k5.size)
            clear o5 k5
            go_wp2_with (at_builtin; refine halt ?_)
            refine ⟨?_⟩
            have ka := below_alloc w5 (.cells #[.slice (some ⟨g5, 0, none⟩) len0 len0] 23)
            have hlr : (S.getD q []).length = len0 := by
              rw [HW0L.out.2 q hltq]
              exact ((wordL_shape y b len0 (en D)).row (by omega)).1
            refine wpList_append_mrow rfl (.tmp 53) (.tmp 60) rfl W0.heap.size _ _ rfl (OM.out.keep ka) _ _ _ rfl (cell_newAt _ _ _ rfl) (O5.out.keep ka) (by rw [List.length_take]; omega) (Nat.le_trans HG5.out ka.size) ?_
            intro v' w7 o7 k7
            rw [← HST.out] at o7
            have O7 := hide o7
            have K7 := hide ((K5.out.trans (ka.mono HG5.out)).trans k7)
            clear o7 k7 ka OM O5 K5 HG5 hlr
            go_wp2_with fail
            go_roundw
            case rel => exact ⟨q + 1, by omega, by go_num, O7, K7⟩
            case measure => simp [intOf]; omega
          · obtain rfl : q = b := by omega
            go_wp2_with fail
            go_ret2
            have := hown.out
            rw [List.take_of_length_le (by rw [HW0L.out.1]; exact Nat.le_refl _)] at this
            exact ⟨_, S, _, rfl, this.more KD.out.size, .inr ⟨rfl, HNB.out, HANS.out.symm⟩, below_step KD.out hbel.out⟩
  · have hE1 : (E != 0) = true := by simp [e0]
    have K1 := hide k1
    have HB1 : Hid (sumsBad D m) := by
      unfold Hid sumsBad
      rw [HN.out]
      have := HE.out
      unfold codeE at this
      by_cases q : (n : Int) < 1 ∨ m < 0 ∨ 14 < (n : Int) + m
      · rcases q with q | q | q
        · exact .inl (by omega)
        · exact .inr (.inl q)
        · exact .inr (.inr (.inl q))
      · rw [if_neg q] at this
        exact absurd this e0
    clear o1 k1 e0
    go_wp2_with fail
    go_ret2
    exact ⟨_, [], _, rfl, OwnMt.nil _ _, .inl ⟨rfl, rfl, HB1.out⟩, K1.out⟩
end Go.Proofs.Ytehgjkckhjggbaa
namespace Go.Proofs.Ytehgjkckhjggbaa
open Go.RowKit
def ABoolS (e : Ending) : Prop := ∃ s : Bool, e = .returned (.bool s)
theorem small_any (k m : Int) (w : World) : Calls Try.prog 25 #[.int .i64 k, .int .i64 m] w fun e w' => ABoolS e ∧ w = w' := by
  by_cases h1 : k < 20
  · by_cases h2 : m < 20
    · by_cases h3 : -20 < k
      · by_cases h4 : -20 < m
        all_goals
          go_enter Try.func25, Try.ntmps25
          go_wp2_with fail
          go_ret
          exact ⟨⟨_, rfl⟩, rfl⟩
      · go_enter Try.func25, Try.ntmps25
        go_wp2_with fail
        go_ret
        exact ⟨⟨_, rfl⟩, rfl⟩
    · go_enter Try.func25, Try.ntmps25
      go_wp2_with fail
      go_ret
      exact ⟨⟨_, rfl⟩, rfl⟩
  · go_enter Try.func25, Try.ntmps25
    go_wp2_with fail
    go_ret
    exact ⟨⟨_, rfl⟩, rfl⟩
end Go.Proofs.Ytehgjkckhjggbaa
