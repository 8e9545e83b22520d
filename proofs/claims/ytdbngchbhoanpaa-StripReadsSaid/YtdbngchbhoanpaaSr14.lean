/- The contracts of the document's own Encode and Decode of records. Condition: rows below 2 to the 39. The contract of the document's own Decode: any bytes begin with a record, or are refused for the first reason of all. Condition: rows below 2 to the 39. -/
import Derived.Test.YtdbngchbhoanpaaSr13
import Derived.Test.YtdbngchbhoanpaaSr12
import Derived.Deep.RegionLaw
namespace Go.Proofs.Ytdbngchbhoanpaa
open Go.RowKit
set_option maxHeartbeats 800000 in
theorem rencode_any (A : Option Addr) (n c : Nat) (p : List Nat) (w : World) (hA : IsB w (.slice A n c) p) (hn : p.length = n) (hb : ∀ x ∈ p, x < 256) (h : n ≤ 1048576) :
    Calls Try.prog 20 #[.slice A n c] w fun e w' => ∃ s, e = .returned (.tuple #[s, .int .i64 0]) ∧ Own w' w.heap.size s (frameL p) ∧ Below w.heap.size w w' := by
  have HA := hide hA
  have HN := hide hn
  have HB := hide hb
  clear hA hn hb
  go_enter Try.func20, Try.ntmps20
  go_wp2_with fail
  refine (rput32_any _ n (by omega) _ (by omega)).mono ?_
  rintro e w1 ⟨s1, rfl, o1, k1⟩
  have O1 := hide o1
  have I1 := hide o1.isB
  have K1 := hide k1
  clear o1 k1
  go_wp2_with (at_builtin; refine halt ?_)
  refine ⟨?_⟩
  have nb : Below w1.heap.size w1 (w1.alloc (.cells #[] 5)) := (Below.refl _ _).alloc (Nat.le_refl _) _
  refine wpList_append_bytes rfl (.tmp 13) (.tmp 14) rfl w1.heap.size _ [] rfl (own_lit w1 #[] [] rfl (by decide)) _ (be32 n) rfl (I1.out.keep nb) (by rw [be32_len]; decide) nb.size ?_
  intro s2 w2 o2 k2
  rw [List.nil_append] at o2
  have nb2 := nb.trans k2
  go_wp2_with (at_builtin; refine halt ?_)
  refine ⟨?_⟩
  refine wpList_append_bytes rfl (.tmp 15) (.tmp 16) rfl w1.heap.size _ (be32 n) rfl o2 _ p rfl (HA.out.keep (below_step K1.out nb2)) (by rw [be32_len, HN.out]; omega) nb2.size ?_
  intro s3 w3 o3 k3
  obtain ⟨A3, c3, rfl, i3, l3, m3⟩ := o3.isB.form (n := 4 + n) (by rw [List.length_append, be32_len, HN.out])
  have I3 := hide i3
  have nb3 := nb2.trans k3
  have O1 := hide (O1.out.keep nb3)
  have K3 := hide (below_step K1.out nb3)
  clear nb nb2 o2 k2 o3 k3 i3 nb3 I1 K1
  go_wp2_with fail
  refine (rsum_any A3 (4 + n) c3 (be32 n ++ p) _ I3.out.rd (by rw [List.length_append, be32_len, HN.out]) (byte_app (be32_byte n) HB.out) (by omega)).mono ?_
  rintro e w4 ⟨rfl, k4⟩
  have O1 := hide (O1.out.keep k4)
  have K4 := hide (below_step K3.out k4)
  clear k4 K3 I3
  have HS := hide (sumS_lt (be32 n ++ p))
  have HF : Hid (frameL p = be32 n ++ be32 (sumS (be32 n ++ p)) ++ p) := by unfold Hid frameL; rw [HN.out]
  obtain ⟨t, ht⟩ : ∃ t, t = sumS (be32 n ++ p) := ⟨_, rfl⟩
  rw [← ht] at HS HF ⊢
  clear ht
  go_wp2_with fail
  refine (rput32_any _ t rfl _ HS.out).mono ?_
  rintro e w5 ⟨s5, rfl, o5, k5⟩
  have O1 := hide (O1.out.keep k5)
  have I5 := hide o5.isB
  have K5 := hide (below_step K4.out k5)
  clear o5 k5 K4
  go_wp2_with (at_builtin; refine halt ?_)
  refine ⟨?_⟩
  refine wpList_append_bytes rfl (.tmp 20) (.tmp 21) rfl w.heap.size _ (be32 n) rfl O1.out _ (be32 t) rfl I5.out (by rw [be32_len, be32_len]; decide) K5.out.size ?_
  intro s6 w6 o6 k6
  have O6 := hide o6
  have K6 := hide (K5.out.trans k6)
  clear o6 k6 O1 I5 K5
  go_wp2_with (at_builtin; refine halt ?_)
  refine ⟨?_⟩
  refine wpList_append_bytes rfl (.tmp 22) (.tmp 23) rfl w.heap.size _ (be32 n ++ be32 t) rfl O6.out _ p rfl (HA.out.keep K6.out) (by rw [List.length_append, be32_len, be32_len, HN.out]; omega) K6.out.size ?_
  intro s7 w7 o7 k7
  rw [← HF.out] at o7
  have O7 := hide o7
  have K7 := hide (K6.out.trans k7)
  clear o7 k7 O6 K6
  go_wp2_with fail
  go_ret2
  exact ⟨_, rfl, O7.out, K7.out⟩
end Go.Proofs.Ytdbngchbhoanpaa
namespace Go.Proofs.Ytdbngchbhoanpaa
open Go.RowKit
theorem own_empties {W : World} {B : Nat} (hB : B ≤ W.heap.size) (b : Nat) (hb : b = W.heap.size) : Own (W.alloc (.cells #[] 5)) B (.slice (some ⟨b, 0, none⟩) 0 0) [] := by
  subst hb
  exact (own_lit W #[] [] rfl (by decide)).more hB
set_option maxRecDepth 100000 in
set_option maxHeartbeats 3200000 in
theorem rdecode_any (A : Option Addr) (n c : Nat) (b : List Nat) (w : World) (hA : IsB w (.slice A n c) b) (hn : b.length = n) (hb : ∀ x ∈ b, x < 256) (h3 : n ≤ 549755813888) (hc : n ≤ c) (lc : c ≤ 9223372036854775807) :
    Calls Try.prog 25 #[.slice A n c] w fun e w' => ∃ s, e = .returned (.tuple #[s, .int .i64 ((decL b).2.1 : Nat), .int .i64 ((decL b).2.2 : Nat)]) ∧ Own w' w.heap.size s (decL b).1 ∧ Below w.heap.size w w' := by
  have HA := hide hA
  have HN := hide hn
  have HB := hide hb
  by_cases h8 : n < 8
  · have e : decL b = ([], 0, 2) := by unfold decL; rw [if_pos (by rw [hn]; exact h8)]
    rw [e]
    clear hA hn hb e
    go_enter Try.func25, Try.ntmps25
    go_wp2_with fail
    go_ret3
    exact ⟨_, rfl, World.ownsRow_nil _ _ _ _, Below.refl _ _⟩
  · obtain ⟨g, off, rfl⟩ := hA.at_ (by omega)
    have hv := val32_lt hb
    have hv4 := val32_lt (xs := b.drop 4) (fun x hx => hb x (List.mem_of_mem_drop hx))
    obtain ⟨v, hve⟩ : ∃ v, v = val32 b := ⟨_, rfl⟩
    rw [← hve] at hv
    have HV := hide hve
    by_cases hbig : 1048576 < v
    · have e : decL b = ([], 0, 5) := by unfold decL; rw [if_neg (by rw [hn]; exact h8), if_pos (by rw [← hve]; exact hbig)]
      rw [e]
      clear hA hn hb e hve hv4
      go_enter Try.func25, Try.ntmps25
      go_wp2_with fail
      refine (rget32_any _ n _ b _ HA.out.rd HN.out.symm HB.out (by omega) (by omega)).mono ?_
      rintro e w1 ⟨rfl, d, rfl⟩
      rw [← HV.out]
      go_wp2_with fail
      go_ret3
      exact ⟨_, rfl, World.ownsRow_nil _ _ _ _, below_drewN (Below.refl _ _) d⟩
    · by_cases hend : n < 8 + v
      · have e : decL b = ([], 0, 2) := by unfold decL; rw [if_neg (by rw [hn]; exact h8), if_neg (by rw [← hve]; exact hbig), if_pos (by rw [← hve, hn]; exact hend)]
        rw [e]
        clear hA hn hb e hve hv4
        go_enter Try.func25, Try.ntmps25
        go_wp2_with fail
        refine (rget32_any _ n _ b _ HA.out.rd HN.out.symm HB.out (by omega) (by omega)).mono ?_
        rintro e w1 ⟨rfl, d, rfl⟩
        rw [← HV.out]
        go_wp2_with fail
        go_ret3
        exact ⟨_, rfl, World.ownsRow_nil _ _ _ _, below_drewN (Below.refl _ _) d⟩
      · obtain ⟨p, hp⟩ : ∃ p, p = (b.drop 8).take v := ⟨_, rfl⟩
        have hpl : p.length = v := by rw [hp, List.length_take, List.length_drop, hn]; omega
        have hpb : ∀ x ∈ p, x < 256 := fun x hx => hb x (List.mem_of_mem_drop (List.mem_of_mem_take (by rw [← hp]; exact hx)))
        obtain ⟨q, hq⟩ : ∃ q, q = val32 (b.drop 4) := ⟨_, rfl⟩
        rw [← hq] at hv4
        obtain ⟨t, ht⟩ : ∃ t, t = sumS (b.take 4 ++ p) := ⟨_, rfl⟩
        have hdec : decL b = if q ≠ t then ([], 0, 4) else (p, 8 + v, 0) := by
          unfold decL
          rw [if_neg (by rw [hn]; exact h8), if_neg (by rw [← hve]; exact hbig), if_neg (by rw [← hve, hn]; exact hend), ← hve, ← hp, ← hq, ← ht]
        have P := hide (And.intro hpl hpb)
        have i4 := hA.drop 4 (n - 4) (c - 4) rfl rfl (by omega)
        have I4 := hide i4
        have i8 : IsB w (.slice (some ⟨g, if c = 8 then off else off + 8, none⟩) v (c - 8)) p := by
          by_cases hc8 : c = 8
          · have hv0 : v = 0 := by omega
            have hp0 : p = [] := List.eq_nil_of_length_eq_zero (by omega)
            rw [if_pos hc8, hp0, hv0]
            exact ⟨_, _, rfl, fun h => absurd rfl h, (fun h => by cases h), Nat.zero_le _, by omega⟩
          · rw [if_neg hc8]
            have := (hA.drop 8 (n - 8) (c - 8) rfl rfl (by omega)).take v (by omega)
            rw [← hp] at this
            exact this
        have I8 := hide i8
        have IT := hide (hA.take 4 (by omega))
        have HQ := hide hq
        have HT := hide ht
        have LT : Hid ((b.take 4).length = 4) := by unfold Hid; rw [List.length_take, hn]; omega
        have L4 : Hid (n - 4 = (b.drop 4).length) := by unfold Hid; rw [List.length_drop, hn]
        have BT : Hid (∀ x ∈ b.take 4, x < 256) := fun x hx => hb x (List.mem_of_mem_take hx)
        have B4 : Hid (∀ x ∈ b.drop 4, x < 256) := fun x hx => hb x (List.mem_of_mem_drop hx)
        have HD := hide hdec
        clear hA hn hb hp hq ht hdec hve i4 i8 hpl hpb
        have hsub : (8 : Int) + (v : Int) - 8 = (v : Int) := by omega
        have hqt : ((t : Int) != (q : Int)) = true ∧ Hid (decL b = ([], 0, 4)) ∨ ((t : Int) != (q : Int)) = false ∧ Hid (decL b = (p, 8 + v, 0)) := by
          by_cases e : q = t
          · right
            exact ⟨by simp [e], by have := HD.out; rw [if_neg (by simp [e])] at this; exact this⟩
          · left
            exact ⟨by simp; omega, by have := HD.out; rw [if_pos e] at this; exact this⟩
        have hsubN : 8 + v - 8 = v := by omega
        have hc4 : (4 : Int) ≤ (c : Int) := by omega
        have hn4 : (4 : Int) ≤ (n : Int) := by omega
        have hc4' : ¬ (c = 4) := by omega
        have hcases : c = 8 ∧ Hid (IsB w (.slice (some ⟨g, off, none⟩) v 0) p) ∨ ¬ c = 8 ∧ Hid (IsB w (.slice (some ⟨g, off + 8, none⟩) v (c - 8)) p) := by
          by_cases hc8 : c = 8
          · left
            have h := I8.out
            rw [if_pos hc8, hc8] at h
            exact ⟨hc8, h⟩
          · right
            have h := I8.out
            rw [if_neg hc8] at h
            exact ⟨hc8, h⟩
        clear I8
        rcases hcases with ⟨rfl, I8⟩ | ⟨hc8, I8⟩ <;> rcases hqt with ⟨hqt, HE⟩ | ⟨hqt, HE⟩
        all_goals
          rw [HE.out]
          go_enter Try.func25, Try.ntmps25
          go_wp2_with fail
          refine (rget32_any _ n _ b _ HA.out.rd HN.out.symm HB.out (by omega) (by omega)).mono ?_
          rintro e w1 ⟨rfl, d, rfl⟩
          rw [← HV.out]
          go_wp2_with (at_builtin; refine halt ?_)
          refine ⟨?_⟩
          have K0 : Below w.heap.size w (w.drewN d) := below_drewN (Below.refl _ _) d
          have K1 := K0.alloc K0.size (.cells #[] 5)
          rw [hsubN]
          refine wpList_append_bytes rfl (.tmp 20) (.tmp 24) rfl w.heap.size _ [] rfl (own_empties (W := w.drewN d) K0.size _ rfl) _ p rfl (I8.out.keep K1) (by rw [P.out.1, List.length_nil]; omega) K1.size ?_
          intro s2 w2 o2 k2
          rw [List.nil_append] at o2
          have K2 := K1.trans k2
          have JP := hide (fun W (h : Below w2.heap.size w2 W) => o2.keep h)
          have JT := hide (fun W (h : Below w2.heap.size w2 W) => IT.out.keep (below_step K2 h))
          have J4 := hide (fun W (h : Below w2.heap.size w2 W) => (I4.out.keep (below_step K2 h)).rd)
          clear K0 K1 o2 k2
          have KA : Below w2.heap.size w2 (w2.alloc (.cells #[] 5)) := (Below.refl _ _).alloc (Nat.le_refl _) _
          have KZ : Below w2.heap.size w2 w2 := Below.refl _ _
          go_wp2_with fail
          go_region_law (first
            | (refine step_append_bytes rfl (.tmp 26) (.tmp 28) rfl w2.heap.size _ [] rfl (own_empties (W := w2) (Nat.le_refl _) _ rfl) _ (b.take 4) rfl (JT.out _ ⟨KA.os, KA.tape, KA.output, KA.size, KA.block⟩) (by rw [LT.out, List.length_nil]; decide) KA.size ?_; intro s3 w3 o3 k3; rw [List.nil_append] at o3; have K3 : Below w2.heap.size w2 w3 := (by refine Below.trans ?_ k3; exact ⟨KA.os, KA.tape, KA.output, KA.size, KA.block⟩))
            | (refine step_append_bytes rfl (.tmp 29) (.tmp 30) rfl w2.heap.size _ (b.take 4) rfl o3 _ p rfl (JP.out _ ⟨K3.os, K3.tape, K3.output, K3.size, K3.block⟩).isB (by rw [LT.out, P.out.1]; omega) K3.size ?_; intro s4 w4 o4 k4; have K4 : Below w2.heap.size w2 w4 := (by refine Below.trans ?_ k4; exact ⟨K3.os, K3.tape, K3.output, K3.size, K3.block⟩); obtain ⟨A4, c4, rfl, i4, _, _⟩ := o4.isB.form (n := 4 + v) (by rw [List.length_append, LT.out, P.out.1]))
            | (go_simp; go_at_call 32; refine (rsum_any _ (4 + v) _ (b.take 4 ++ p) _ i4.rd (by rw [List.length_append, LT.out, P.out.1]) (byte_app BT.out P.out.2) (by omega)).mono ?_; rintro e w5 ⟨rfl, k5⟩; rw [← HT.out]; have K5 : Below w2.heap.size w2 w5 := (by refine below_step ?_ k5; exact ⟨K4.os, K4.tape, K4.output, K4.size, K4.block⟩))
            | (go_simp; go_at_call 27; refine (rget32_any _ (n - 4) _ (b.drop 4) _ (J4.out _ (by first | exact ⟨K5.os, K5.tape, K5.output, K5.size, K5.block⟩ | exact ⟨K4.os, K4.tape, K4.output, K4.size, K4.block⟩ | exact ⟨K3.os, K3.tape, K3.output, K3.size, K3.block⟩ | exact ⟨KA.os, KA.tape, KA.output, KA.size, KA.block⟩ | exact ⟨KZ.os, KZ.tape, KZ.output, KZ.size, KZ.block⟩)) L4.out B4.out (by omega) (by omega)).mono ?_; rintro e w6 ⟨rfl, d6, rfl⟩; rw [← HQ.out]))
          all_goals
            go_wp2_with fail
            go_ret3
            first
              | exact ⟨_, rfl, World.ownsRow_nil _ _ _ _, by refine below_step K2 ?_; exact ⟨K5.os, K5.tape, K5.output, K5.size, K5.block⟩⟩
              | exact ⟨s2, by simp, by refine JP.out _ ?_; exact ⟨K5.os, K5.tape, K5.output, K5.size, K5.block⟩, by refine below_step K2 ?_; exact ⟨K5.os, K5.tape, K5.output, K5.size, K5.block⟩⟩
end Go.Proofs.Ytdbngchbhoanpaa
