/- The contracts of the document's own Encode and Decode of records. Condition: rows below 2 to the 39. The contract of the document's own Index. Conditions: the widths; fewer than 2 to the 39 places. -/
import Derived.Test.YtdbngchbhoanpaaSx12
import Derived.Test.YtdbngchbhoanpaaSx11
import Derived.Deep.RegionLaw
import Derived.Test.YtdbngchbhoanpaaSx5
namespace Go.Proofs.Ytdbngchbhoanpaa
open Go.RowKit
set_option maxHeartbeats 800000 in
theorem rencode_any (A : Option Addr) (n c : Nat) (p : List Nat) (w : World) (hA : IsB w (.slice A n c) p) (hn : p.length = n) (hb : ∀ x ∈ p, x < 256) (h : n ≤ 1048576) :
    Calls Try.prog 20 #[.slice A n c] w fun e w' => ∃ s, e = .returned (.tuple #[s, .int .i64 0]) ∧ Own w' w.heap.size s (frameL p) ∧ Below w.heap.size w w' := by
  have HA := hide hA
  have HN := hide hn
  have HB := hide hb
  clear hA hn hb
  go_enter Try.func20, Try.ntmps20
  go_wp2_with fail
  refine (rput32_any _ n (by omega) _ (by omega)).mono ?_
  rintro e w1 ⟨s1, rfl, o1, k1⟩
  have O1 := hide o1
  have I1 := hide o1.isB
  have K1 := hide k1
  clear o1 k1
  go_wp2_with (at_builtin; refine halt ?_)
  refine ⟨?_⟩
  have nb : Below w1.heap.size w1 (w1.alloc (.cells #[] 5)) := (Below.refl _ _).alloc (Nat.le_refl _) _
  refine wpList_append_bytes rfl (.tmp 13) (.tmp 14) rfl w1.heap.size _ [] rfl (own_lit w1 #[] [] rfl (by decide)) _ (be32 n) rfl (I1.out.keep nb) (by rw [be32_len]; decide) nb.size ?_
  intro s2 w2 o2 k2
  rw [List.nil_append] at o2
  have nb2 := nb.trans k2
  go_wp2_with (at_builtin; refine halt ?_)
  refine ⟨?_⟩
  refine wpList_append_bytes rfl (.tmp 15) (.tmp 16) rfl w1.heap.size _ (be32 n) rfl o2 _ p rfl (HA.out.keep (below_step K1.out nb2)) (by rw [be32_len, HN.out]; omega) nb2.size ?_
  intro s3 w3 o3 k3
  obtain ⟨A3, c3, rfl, i3, l3, m3⟩ := o3.isB.form (n := 4 + n) (by rw [List.length_append, be32_len, HN.out])
  have I3 := hide i3
  have nb3 := nb2.trans k3
  have O1 := hide (O1.out.keep nb3)
  have K3 := hide (below_step K1.out nb3)
  clear nb nb2 o2 k2 o3 k3 i3 nb3 I1 K1
  go_wp2_with fail
  refine (rsum_any A3 (4 + n) c3 (be32 n ++ p) _ I3.out.rd (by rw [List.length_append, be32_len, HN.out]) (byte_app (be32_byte n) HB.out) (by omega)).mono ?_
  rintro e w4 ⟨rfl, k4⟩
  have O1 := hide (O1.out.keep k4)
  have K4 := hide (below_step K3.out k4)
  clear k4 K3 I3
  have HS := hide (sumS_lt (be32 n ++ p))
  have HF : Hid (frameL p = be32 n ++ be32 (sumS (be32 n ++ p)) ++ p) := by unfold Hid frameL; rw [HN.out]
  obtain ⟨t, ht⟩ : ∃ t, t = sumS (be32 n ++ p) := ⟨_, rfl⟩
  rw [← ht] at HS HF ⊢
  clear ht
  go_wp2_with fail
  refine (rput32_any _ t rfl _ HS.out).mono ?_
  rintro e w5 ⟨s5, rfl, o5, k5⟩
  have O1 := hide (O1.out.keep k5)
  have I5 := hide o5.isB
  have K5 := hide (below_step K4.out k5)
  clear o5 k5 K4
  go_wp2_with (at_builtin; refine halt ?_)
  refine ⟨?_⟩
  refine wpList_append_bytes rfl (.tmp 20) (.tmp 21) rfl w.heap.size _ (be32 n) rfl O1.out _ (be32 t) rfl I5.out (by rw [be32_len, be32_len]; decide) K5.out.size ?_
  intro s6 w6 o6 k6
  have O6 := hide o6
  have K6 := hide (K5.out.trans k6)
  clear o6 k6 O1 I5 K5
  go_wp2_with (at_builtin; refine halt ?_)
  refine ⟨?_⟩
  refine wpList_append_bytes rfl (.tmp 22) (.tmp 23) rfl w.heap.size _ (be32 n ++ be32 t) rfl O6.out _ p rfl (HA.out.keep K6.out) (by rw [List.length_append, be32_len, be32_len, HN.out]; omega) K6.out.size ?_
  intro s7 w7 o7 k7
  rw [← HF.out] at o7
  have O7 := hide o7
  have K7 := hide (K6.out.trans k7)
  clear o7 k7 O6 K6
  go_wp2_with fail
  go_ret2
  exact ⟨_, rfl, O7.out, K7.out⟩
end Go.Proofs.Ytdbngchbhoanpaa
namespace Go.Proofs.Ytdbngchbhoanpaa
open Go.RowKit
attribute [local go_sem] Oper.semAt_some
theorem rencode_long (A : Option Addr) (n c : Nat) (w : World) (h : 1048576 < n) (hl : n ≤ 9223372036854775807) :
    Calls Try.prog 20 #[.slice A n c] w fun e w' => e = .returned (.tuple #[.slice none 0 0, .int .i64 5]) ∧ w = w' := by
  have hz : (1048576 : Int) < (n : Int) := by omega
  go_enter Try.func20, Try.ntmps20
  go_wp2_with fail
  go_ret2
  exact ⟨rfl, rfl⟩
theorem bnd_no {z : Int} (h : ¬ bndB z = true) : z < 0 ∨ (¬ z < 0 ∧ 4194304 < z) := by
  simp [bndB] at h
  omega
theorem bnd_yes {z : Int} (h : bndB z = true) : ¬ z < 0 ∧ ¬ 4194304 < z := by
  simp [bndB] at h
  omega
set_option maxRecDepth 100000 in
set_option maxHeartbeats 6400000 in
theorem rindex_any (A : Option Addr) (n c : Nat) (ps : List Plc) (w : World) (hA : IsP w A ps) (hn : ps.length = n) (hf : ∀ p ∈ ps, p.Fit) (hm : n ≤ 1000000000000) :
    Calls Try.prog 6 #[.slice A n c] w fun e w' => ∃ s, e = .returned (.tuple #[s, .int .i64 (ixE ps : Nat)]) ∧ Own w' w.heap.size s (ixL ps) ∧ Below w.heap.size w w' := by
  have HA := hide hA
  have HN := hide hn
  have HF := hide hf
  obtain ⟨E, hE⟩ : ∃ E, E = ixE ps := ⟨_, rfl⟩
  obtain ⟨L, hL⟩ : ∃ L, L = ixL ps := ⟨_, rfl⟩
  rw [← hE, ← hL]
  have HE := hide (And.intro hE hL)
  clear hA hn hf hE hL
  go_enter Try.func6, Try.ntmps6
  go_wp2_with fail
  go_loopw [4, 5] (fun i _ wr => ∃ j : Nat, j ≤ n ∧ i = .int .i64 (j : Int) ∧ Hid (∀ k, k < j → okAt ps k) ∧ Hid (Below w.heap.size w wr)) (fun i _ _ => n - (intOf i).toNat)
  case atStart => exact ⟨0, Nat.zero_le _, rfl, hide (fun k hk => by omega), hide (Below.refl _ _)⟩
  case round =>
    obtain ⟨j, hj, rfl, HO, HK⟩ := hrel
    by_cases hlt : j < n
    · have hz : (j : Int) < (n : Int) := by omega
      obtain ⟨b, o, rfl, f0, f1, f2, f3, f4⟩ := (HA.out.keep HK.out) j (by rw [HN.out]; exact hlt)
      obtain ⟨P, hP⟩ : ∃ P, ps.getD j noPlc = P := ⟨_, rfl⟩
      rw [hP] at f0 f1 f2 f3 f4
      have hprev : 0 < j → wr.cell? ⟨b, o + (j - 1) * 5, none⟩ = some (.int .u64 ((ps.getD (j - 1) noPlc).key : Int)) := fun h0 => by
        obtain ⟨b', o', e, g0, _⟩ := (HA.out.keep HK.out) (j - 1) (by rw [HN.out]; omega)
        cases e
        exact g0
      obtain ⟨key, a, m, ck, dd⟩ := P
      dsimp only at f0 f1 f2 f3 f4
      have b5 := Blk.new wr (B := 0) 36 #[.int .u64 (key : Int), .int .i64 a, .int .i64 m, .int .u32 (ck : Int), .bool dd] (Nat.zero_le _)
      have k5 := below_alloc wr (.cells #[.int .u64 (key : Int), .int .i64 a, .int .i64 m, .int .u32 (ck : Int), .bool dd] 36)
      have K5 := hide (HK.out.trans (k5.mono HK.out.size))
      have KK := hide k5
      have q0 := b5.cell 0
      have q1 := b5.cell 1
      have q2 := b5.cell 2
      dsimp only [Array.toList, List.getElem?_cons_zero, List.getElem?_cons_succ] at q0 q1 q2
      have HPV := hide hprev
      clear b5 k5 hprev
      by_cases hj0 : j = 0
      · have hd0 : decide (0 < j) = false := decide_eq_false (by omega)
        have HJ0 := hide hj0
        clear hj0
        go_wp2_with fail
        clear f0 f1 f2 f3 f4
        generalize wr.alloc (.cells #[.int .u64 (key : Int), .int .i64 a, .int .i64 m, .int .u32 (ck : Int), .bool dd] 36) = W5 at *
        by_cases ha : bndB a = true
        · have xa1 : decide (a < 0) = false := decide_eq_false (bnd_yes ha).1
          have xa2 : decide (4194304 < a) = false := decide_eq_false (bnd_yes ha).2
          by_cases hm : bndB m = true
          · have xm1 : decide (m < 0) = false := decide_eq_false (bnd_yes hm).1
            have xm2 : decide (4194304 < m) = false := decide_eq_false (bnd_yes hm).2
            have HOK : okAt ps j := by unfold okAt; rw [hP]; exact ⟨fun h => by have := HJ0.out; omega, ha, hm⟩
            go_quiet (fail)
            go_wp2_with fail
            go_roundw
            case rel => exact ⟨j + 1, by omega, by go_num, hide (fun k hk => by
              by_cases e : k = j
              · subst e; exact HOK
              · exact HO.out k (by omega)), hide (below_drewN K5.out _)⟩
            case measure => simp [intOf]; omega
          · have hme : bndB m = false := by simpa using hm
            rcases bnd_no hm with e1 | ⟨e1, e2⟩
            · have x1 : decide (m < 0) = true := decide_eq_true e1
              go_quiet (fail)
              go_wp2_with fail
              go_ret2
              obtain ⟨e1, e2⟩ := ixE_bad (fun h => absurd (h j (by rw [HN.out]; exact hlt)) (by unfold okAt; rw [hP]; rintro ⟨_, _, e⟩; exact hm e))
              rw [← HE.out.1] at e1
              rw [← HE.out.2] at e2
              refine ⟨.slice none 0 0, ?_, ?_, below_drewN K5.out _⟩
              · rw [e1]; rfl
              · rw [e2]; exact World.ownsRow_nil _ _ _ _
            · have x1 : decide (m < 0) = false := decide_eq_false e1
              have x2 : decide (4194304 < m) = true := decide_eq_true e2
              go_quiet (fail)
              go_wp2_with fail
              go_ret2
              obtain ⟨e1, e2⟩ := ixE_bad (fun h => absurd (h j (by rw [HN.out]; exact hlt)) (by unfold okAt; rw [hP]; rintro ⟨_, _, e⟩; exact hm e))
              rw [← HE.out.1] at e1
              rw [← HE.out.2] at e2
              refine ⟨.slice none 0 0, ?_, ?_, below_drewN K5.out _⟩
              · rw [e1]; rfl
              · rw [e2]; exact World.ownsRow_nil _ _ _ _
        · have hae : bndB a = false := by simpa using ha
          rcases bnd_no ha with e1 | ⟨e1, e2⟩
          · have x1 : decide (a < 0) = true := decide_eq_true e1
            go_quiet (fail)
            go_wp2_with fail
            go_ret2
            obtain ⟨e1, e2⟩ := ixE_bad (fun h => absurd (h j (by rw [HN.out]; exact hlt)) (by unfold okAt; rw [hP]; rintro ⟨_, e, _⟩; exact ha e))
            rw [← HE.out.1] at e1
            rw [← HE.out.2] at e2
            refine ⟨.slice none 0 0, ?_, ?_, below_drewN K5.out _⟩
            · rw [e1]; rfl
            · rw [e2]; exact World.ownsRow_nil _ _ _ _
          · have x1 : decide (a < 0) = false := decide_eq_false e1
            have x2 : decide (4194304 < a) = true := decide_eq_true e2
            go_quiet (fail)
            go_wp2_with fail
            go_ret2
            obtain ⟨e1, e2⟩ := ixE_bad (fun h => absurd (h j (by rw [HN.out]; exact hlt)) (by unfold okAt; rw [hP]; rintro ⟨_, e, _⟩; exact ha e))
            rw [← HE.out.1] at e1
            rw [← HE.out.2] at e2
            refine ⟨.slice none 0 0, ?_, ?_, below_drewN K5.out _⟩
            · rw [e1]; rfl
            · rw [e2]; exact World.ownsRow_nil _ _ _ _
      · have hd0 : decide (0 < j) = true := decide_eq_true (by omega)
        have p0 := (KK.out.cell (cell_lt (HPV.out (by omega)))).trans (HPV.out (by omega))
        obtain ⟨j1, hj1⟩ : ∃ j1, j1 = j - 1 := ⟨_, rfl⟩
        rw [← hj1] at p0
        have hw1 : IntKind.i64.wrap ((j : Int) - 1) = (j1 : Int) := by rw [IntWalk.i64_in _ (by omega)]; omega
        have hj2 : (j1 : Int) < (n : Int) := by omega
        have hj3 : (0 : Int) ≤ (j1 : Int) := by omega
        have HJ1 := hide hj1
        clear hj1
        obtain ⟨pk, hpk⟩ : ∃ pk, (ps.getD j1 noPlc).key = pk := ⟨_, rfl⟩
        rw [hpk] at p0
        go_wp2_with fail
        clear f0 f1 f2 f3 f4
        generalize wr.alloc (.cells #[.int .u64 (key : Int), .int .i64 a, .int .i64 m, .int .u32 (ck : Int), .bool dd] 36) = W5 at *
        by_cases hkey : (key : Int) ≤ (pk : Int)
        · have hd1 : decide (key ≤ pk) = true := decide_eq_true (by omega)
          go_quiet (fail)
          go_wp2_with fail
          go_ret2
          obtain ⟨e1, e2⟩ := ixE_bad (fun h => absurd (h j (by rw [HN.out]; exact hlt)) (by unfold okAt; rw [hP]; rintro ⟨e, _, _⟩; have e := e (by omega); rw [← HJ1.out, hpk] at e; dsimp only at e; omega))
          rw [← HE.out.1] at e1
          rw [← HE.out.2] at e2
          refine ⟨.slice none 0 0, ?_, ?_, below_drewN K5.out _⟩
          · rw [e1]; rfl
          · rw [e2]; exact World.ownsRow_nil _ _ _ _
        · have hd1 : decide (key ≤ pk) = false := decide_eq_false (by omega)
          by_cases ha : bndB a = true
          · have xa1 : decide (a < 0) = false := decide_eq_false (bnd_yes ha).1
            have xa2 : decide (4194304 < a) = false := decide_eq_false (bnd_yes ha).2
            by_cases hm : bndB m = true
            · have xm1 : decide (m < 0) = false := decide_eq_false (bnd_yes hm).1
              have xm2 : decide (4194304 < m) = false := decide_eq_false (bnd_yes hm).2
              have HOK : okAt ps j := by unfold okAt; rw [hP]; exact ⟨fun _ => by rw [← HJ1.out, hpk]; dsimp only; omega, ha, hm⟩
              go_quiet (fail)
              go_wp2_with fail
              go_roundw
              case rel => exact ⟨j + 1, by omega, by go_num, hide (fun k hk => by
                by_cases e : k = j
                · subst e; exact HOK
                · exact HO.out k (by omega)), hide (below_drewN K5.out _)⟩
              case measure => simp [intOf]; omega
            · have hme : bndB m = false := by simpa using hm
              rcases bnd_no hm with e1 | ⟨e1, e2⟩
              · have x1 : decide (m < 0) = true := decide_eq_true e1
                go_quiet (fail)
                go_wp2_with fail
                go_ret2
                obtain ⟨e1, e2⟩ := ixE_bad (fun h => absurd (h j (by rw [HN.out]; exact hlt)) (by unfold okAt; rw [hP]; rintro ⟨_, _, e⟩; exact hm e))
                rw [← HE.out.1] at e1
                rw [← HE.out.2] at e2
                refine ⟨.slice none 0 0, ?_, ?_, below_drewN K5.out _⟩
                · rw [e1]; rfl
                · rw [e2]; exact World.ownsRow_nil _ _ _ _
              · have x1 : decide (m < 0) = false := decide_eq_false e1
                have x2 : decide (4194304 < m) = true := decide_eq_true e2
                go_quiet (fail)
                go_wp2_with fail
                go_ret2
                obtain ⟨e1, e2⟩ := ixE_bad (fun h => absurd (h j (by rw [HN.out]; exact hlt)) (by unfold okAt; rw [hP]; rintro ⟨_, _, e⟩; exact hm e))
                rw [← HE.out.1] at e1
                rw [← HE.out.2] at e2
                refine ⟨.slice none 0 0, ?_, ?_, below_drewN K5.out _⟩
                · rw [e1]; rfl
                · rw [e2]; exact World.ownsRow_nil _ _ _ _
          · have hae : bndB a = false := by simpa using ha
            rcases bnd_no ha with e1 | ⟨e1, e2⟩
            · have x1 : decide (a < 0) = true := decide_eq_true e1
              go_quiet (fail)
              go_wp2_with fail
              go_ret2
              obtain ⟨e1, e2⟩ := ixE_bad (fun h => absurd (h j (by rw [HN.out]; exact hlt)) (by unfold okAt; rw [hP]; rintro ⟨_, e, _⟩; exact ha e))
              rw [← HE.out.1] at e1
              rw [← HE.out.2] at e2
              refine ⟨.slice none 0 0, ?_, ?_, below_drewN K5.out _⟩
              · rw [e1]; rfl
              · rw [e2]; exact World.ownsRow_nil _ _ _ _
            · have x1 : decide (a < 0) = false := decide_eq_false e1
              have x2 : decide (4194304 < a) = true := decide_eq_true e2
              go_quiet (fail)
              go_wp2_with fail
              go_ret2
              obtain ⟨e1, e2⟩ := ixE_bad (fun h => absurd (h j (by rw [HN.out]; exact hlt)) (by unfold okAt; rw [hP]; rintro ⟨_, e, _⟩; exact ha e))
              rw [← HE.out.1] at e1
              rw [← HE.out.2] at e2
              refine ⟨.slice none 0 0, ?_, ?_, below_drewN K5.out _⟩
              · rw [e1]; rfl
              · rw [e2]; exact World.ownsRow_nil _ _ _ _
    · obtain rfl : j = n := by omega
      have hz : ¬ (j : Int) < (j : Int) := by omega
      have hI : IsIx ps := fun i hi => HO.out i (by rw [← HN.out]; exact hi)
      have HX := hide hI
      have HK1 := hide HK.out
      clear HO HK hlt hI
      by_cases h65 : 65536 < j
      · obtain ⟨e1, e2⟩ := ixE_long HX.out (.inl (by rw [HN.out]; exact h65))
        rw [← HE.out.1] at e1
        rw [← HE.out.2] at e2
        have h65z : (65536 : Int) < (j : Int) := by omega
        have HE2 := hide (And.intro e1 e2)
        clear e1 e2 h65
        go_wp2_with fail
        go_ret2
        refine ⟨.slice none 0 0, ?_, ?_, HK1.out⟩
        · rw [HE2.out.1]; rfl
        · rw [HE2.out.2]; exact World.ownsRow_nil _ _ _ _
      · have h65z : ¬ (65536 : Int) < (j : Int) := by omega
        have HBL := hide (bodyL_len HF.out HX.out (by rw [HN.out]; omega))
        have e0 : IntKind.u64.wrap (j : Int) = (j : Int) := by rw [IntKind.wrap_u64]; omega
        go_wp2_with fail
        refine (ruvarint_any j wr (by omega)).mono ?_
        rintro e w2 ⟨s2, rfl, o2, k2⟩
        have O2 := hide (o2.more HK1.out.size)
        have K2 := hide (HK1.out.trans (k2.mono HK1.out.size))
        clear o2 k2 HK1
        go_wp2_with fail
        go_loopw [6, 7, 8, 9] (fun bb i _ _ W => ∃ k : Nat, k ≤ j ∧ i = .int .i64 (k : Int) ∧ Hid (Own W w.heap.size bb (bodyL ps k)) ∧ Hid (Below w.heap.size w W)) (fun _ i _ _ _ => j - (intOf i).toNat)
        case atStart => exact ⟨0, Nat.zero_le _, rfl, hide (by show Own _ _ _ (uvl ps.length); rw [HN.out]; exact O2.out), K2⟩
        case round =>
          obtain ⟨k, hk, rfl, HO, HK⟩ := hrel
          by_cases hlt : k < j
          · have hkz : (k : Int) < (j : Int) := by omega
            obtain ⟨b, o, rfl, f0, f1, f2, f3, f4⟩ := (HA.out.keep HK.out) k (by rw [HN.out]; exact hlt)
            obtain ⟨P, hP⟩ : ∃ P, ps.getD k noPlc = P := ⟨_, rfl⟩
            have hok := HX.out k (by rw [HN.out]; exact hlt)
            have hfit := getD_fit HF.out (i := k) (by rw [HN.out]; exact hlt)
            unfold okAt at hok
            rw [hP] at f0 f1 f2 f3 f4 hok hfit
            obtain ⟨key, a, m, ck, dd⟩ := P
            obtain ⟨-, ha, hm'⟩ := hok
            have ha : 0 ≤ a ∧ a ≤ 4194304 := by simpa [bndB] using ha
            have hm' : 0 ≤ m ∧ m ≤ 4194304 := by simpa [bndB] using hm'
            obtain ⟨a, rfl⟩ : ∃ x : Nat, a = (x : Int) := ⟨a.toNat, by omega⟩
            obtain ⟨m, rfl⟩ : ∃ x : Nat, m = (x : Int) := ⟨m.toNat, by omega⟩
            have hk9 : key < 18446744073709551616 := hfit.key
            have hc9 : ck < 4294967296 := hfit.cook
            have ha9 : a ≤ 4194304 := by omega
            have hm9 : m ≤ 4194304 := by omega
            have u1 : IntKind.u64.wrap (a : Int) = (a : Int) := by rw [IntKind.wrap_u64]; omega
            have u2 : IntKind.u64.wrap (m : Int) = (m : Int) := by rw [IntKind.wrap_u64]; omega
            have l1 := uvl_small key hk9
            have l2 := uvl_small a (by omega)
            have l3 := uvl_small m (by omega)
            dsimp only at f0 f1 f2 f3 f4
            have hbl := HBL.out k (by rw [HN.out]; omega)
            have b5 := Blk.new wr (B := 0) 36 #[.int .u64 (key : Int), .int .i64 (a : Int), .int .i64 (m : Int), .int .u32 (ck : Int), .bool dd] (Nat.zero_le _)
            have k5 := below_alloc wr (.cells #[.int .u64 (key : Int), .int .i64 (a : Int), .int .i64 (m : Int), .int .u32 (ck : Int), .bool dd] 36)
            have O5 := hide (HO.out.keep k5)
            have BX5 := hide b5
            have K5 := hide (HK.out.trans (k5.mono HK.out.size))
            obtain ⟨z, hz9⟩ : ∃ z, z = wr.heap.size := ⟨_, rfl⟩
            have HZ5 : Hid (∀ g, Value.ownBlock u6 = some g → g ≠ z) := hide (fun g hg => by have := (HO.out.lt g hg).2; omega)
            rw [← hz9] at BX5
            have HP := hide hP
            have HBL2 := hide hbl
            have s5 : (wr.alloc (.cells #[.int .u64 (key : Int), .int .i64 (a : Int), .int .i64 (m : Int), .int .u32 (ck : Int), .bool dd] 36)).heap.size = wr.heap.size + 1 := by simp
            have HS5 : Hid (z < (wr.alloc (.cells #[.int .u64 (key : Int), .int .i64 (a : Int), .int .i64 (m : Int), .int .u32 (ck : Int), .bool dd] 36)).heap.size) := hide (by omega)
            obtain ⟨X5, hX5⟩ : ∃ X, X = bodyL ps k := ⟨_, rfl⟩
            rw [← hX5] at O5 hbl
            have HX5 := hide hX5
            have q0 := BX5.out.cell 0
            have q1 := BX5.out.cell 1
            have q2 := BX5.out.cell 2
            have q3 := BX5.out.cell 3
            have q4 := BX5.out.cell 4
            dsimp only [Array.toList, List.getElem?_cons_zero, List.getElem?_cons_succ] at q0 q1 q2 q3 q4
            rw [hz9] at q0 q1 q2 q3 q4
            clear hP hfit b5 k5 HO HK hX5 s5
            go_wp2_with fail
            rw [← hz9]
            rw [← hz9] at q0 q1 q2 q3 q4
            clear f0 f1 f2 f3 f4 hz9
            generalize wr.alloc (.cells #[.int .u64 (key : Int), .int .i64 (a : Int), .int .i64 (m : Int), .int .u32 (ck : Int), .bool dd] 36) = W5 at *
            refine (ruvarint_any key _ hk9).mono ?_
            rintro e w6 ⟨s6, rfl, o6, k6⟩
            have I6 := hide o6.isB
            have O6 := hide (O5.out.keep k6)
            have BX5 := hide (BX5.out.keep k6)
            have K5 := hide (K5.out.trans (k6.mono K5.out.size))
            have HS5 := hide (Nat.lt_of_lt_of_le HS5.out k6.size)
            clear o6 k6 q0 q1 q2 q3 q4 O5
            have q0 := BX5.out.cell 0
            have q1 := BX5.out.cell 1
            have q2 := BX5.out.cell 2
            have q3 := BX5.out.cell 3
            have q4 := BX5.out.cell 4
            dsimp only [Array.toList, List.getElem?_cons_zero, List.getElem?_cons_succ] at q0 q1 q2 q3 q4
            go_wp2_with (at_builtin; refine halt ?_)
            refine ⟨?_⟩
            refine wpList_append_at rfl (.tmp 70) (.tmp 73) rfl w.heap.size u6 _ rfl O6.out _ (uvl key) rfl I6.out (by (try simp only [List.length_append]); omega) K5.out.size ?_
            intro v1 w7 o7 g7 l7
            have O5 := hide o7
            have K5 := hide (K5.out.trans ((Below.refl w.heap.size w6).grown g7 K5.out.size (fun k hk => (O6.out.lt k hk).1)))
            have BX5 := hide (BX5.out.kept g7 (fun e => HZ5.out z e rfl))
            have HZ5 : Hid (∀ g, Value.ownBlock v1 = some g → g ≠ z) := hide (fun g hg => by
              rcases l7 with q | q
              · exact HZ5.out g (by rw [← q]; exact hg)
              · rw [q] at hg
                have := Option.some.inj hg
                have := HS5.out
                omega)
            have HS5 := hide (Nat.lt_of_lt_of_le HS5.out g7.size)
            clear o7 g7 l7 q0 q1 q2 q3 q4 I6 O6
            have q0 := BX5.out.cell 0
            have q1 := BX5.out.cell 1
            have q2 := BX5.out.cell 2
            have q3 := BX5.out.cell 3
            have q4 := BX5.out.cell 4
            dsimp only [Array.toList, List.getElem?_cons_zero, List.getElem?_cons_succ] at q0 q1 q2 q3 q4
            generalize w7 = Y1 at *
            go_wp2_with fail
            refine (ruvarint_any a _ (by omega)).mono ?_
            rintro e w6 ⟨s6, rfl, o6, k6⟩
            have I6 := hide o6.isB
            have O6 := hide (O5.out.keep k6)
            have BX5 := hide (BX5.out.keep k6)
            have K5 := hide (K5.out.trans (k6.mono K5.out.size))
            have HS5 := hide (Nat.lt_of_lt_of_le HS5.out k6.size)
            clear o6 k6 q0 q1 q2 q3 q4 O5
            have q0 := BX5.out.cell 0
            have q1 := BX5.out.cell 1
            have q2 := BX5.out.cell 2
            have q3 := BX5.out.cell 3
            have q4 := BX5.out.cell 4
            dsimp only [Array.toList, List.getElem?_cons_zero, List.getElem?_cons_succ] at q0 q1 q2 q3 q4
            go_wp2_with (at_builtin; refine halt ?_)
            refine ⟨?_⟩
            refine wpList_append_at rfl (.tmp 75) (.tmp 79) rfl w.heap.size v1 _ rfl O6.out _ (uvl a) rfl I6.out (by (try simp only [List.length_append]); omega) K5.out.size ?_
            intro v2 w7 o7 g7 l7
            have O5 := hide o7
            have K5 := hide (K5.out.trans ((Below.refl w.heap.size w6).grown g7 K5.out.size (fun k hk => (O6.out.lt k hk).1)))
            have BX5 := hide (BX5.out.kept g7 (fun e => HZ5.out z e rfl))
            have HZ5 : Hid (∀ g, Value.ownBlock v2 = some g → g ≠ z) := hide (fun g hg => by
              rcases l7 with q | q
              · exact HZ5.out g (by rw [← q]; exact hg)
              · rw [q] at hg
                have := Option.some.inj hg
                have := HS5.out
                omega)
            have HS5 := hide (Nat.lt_of_lt_of_le HS5.out g7.size)
            clear o7 g7 l7 q0 q1 q2 q3 q4 I6 O6
            have q0 := BX5.out.cell 0
            have q1 := BX5.out.cell 1
            have q2 := BX5.out.cell 2
            have q3 := BX5.out.cell 3
            have q4 := BX5.out.cell 4
            dsimp only [Array.toList, List.getElem?_cons_zero, List.getElem?_cons_succ] at q0 q1 q2 q3 q4
            generalize w7 = Y2 at *
            go_wp2_with fail
            refine (ruvarint_any m _ (by omega)).mono ?_
            rintro e w6 ⟨s6, rfl, o6, k6⟩
            have I6 := hide o6.isB
            have O6 := hide (O5.out.keep k6)
            have BX5 := hide (BX5.out.keep k6)
            have K5 := hide (K5.out.trans (k6.mono K5.out.size))
            have HS5 := hide (Nat.lt_of_lt_of_le HS5.out k6.size)
            clear o6 k6 q0 q1 q2 q3 q4 O5
            have q0 := BX5.out.cell 0
            have q1 := BX5.out.cell 1
            have q2 := BX5.out.cell 2
            have q3 := BX5.out.cell 3
            have q4 := BX5.out.cell 4
            dsimp only [Array.toList, List.getElem?_cons_zero, List.getElem?_cons_succ] at q0 q1 q2 q3 q4
            go_wp2_with (at_builtin; refine halt ?_)
            refine ⟨?_⟩
            refine wpList_append_at rfl (.tmp 81) (.tmp 85) rfl w.heap.size v2 _ rfl O6.out _ (uvl m) rfl I6.out (by (try simp only [List.length_append]); omega) K5.out.size ?_
            intro v3 w7 o7 g7 l7
            have O5 := hide o7
            have K5 := hide (K5.out.trans ((Below.refl w.heap.size w6).grown g7 K5.out.size (fun k hk => (O6.out.lt k hk).1)))
            have BX5 := hide (BX5.out.kept g7 (fun e => HZ5.out z e rfl))
            have HZ5 : Hid (∀ g, Value.ownBlock v3 = some g → g ≠ z) := hide (fun g hg => by
              rcases l7 with q | q
              · exact HZ5.out g (by rw [← q]; exact hg)
              · rw [q] at hg
                have := Option.some.inj hg
                have := HS5.out
                omega)
            have HS5 := hide (Nat.lt_of_lt_of_le HS5.out g7.size)
            clear o7 g7 l7 q0 q1 q2 q3 q4 I6 O6
            have q0 := BX5.out.cell 0
            have q1 := BX5.out.cell 1
            have q2 := BX5.out.cell 2
            have q3 := BX5.out.cell 3
            have q4 := BX5.out.cell 4
            dsimp only [Array.toList, List.getElem?_cons_zero, List.getElem?_cons_succ] at q0 q1 q2 q3 q4
            generalize w7 = Y3 at *
            go_wp2_with fail
            refine (rput32_any _ ck rfl _ hc9).mono ?_
            rintro e w6 ⟨s6, rfl, o6, k6⟩
            have I6 := hide o6.isB
            have O6 := hide (O5.out.keep k6)
            have BX5 := hide (BX5.out.keep k6)
            have K5 := hide (K5.out.trans (k6.mono K5.out.size))
            have HS5 := hide (Nat.lt_of_lt_of_le HS5.out k6.size)
            clear o6 k6 q0 q1 q2 q3 q4 O5
            have q0 := BX5.out.cell 0
            have q1 := BX5.out.cell 1
            have q2 := BX5.out.cell 2
            have q3 := BX5.out.cell 3
            have q4 := BX5.out.cell 4
            dsimp only [Array.toList, List.getElem?_cons_zero, List.getElem?_cons_succ] at q0 q1 q2 q3 q4
            go_wp2_with (at_builtin; refine halt ?_)
            refine ⟨?_⟩
            refine wpList_append_at rfl (.tmp 87) (.tmp 90) rfl w.heap.size v3 _ rfl O6.out _ (be32 ck) rfl I6.out (by (try simp only [List.length_append, be32_len]); omega) K5.out.size ?_
            intro v4 w7 o7 g7 l7
            have O5 := hide o7
            have K5 := hide (K5.out.trans ((Below.refl w.heap.size w6).grown g7 K5.out.size (fun k hk => (O6.out.lt k hk).1)))
            have BX5 := hide (BX5.out.kept g7 (fun e => HZ5.out z e rfl))
            have HZ5 : Hid (∀ g, Value.ownBlock v4 = some g → g ≠ z) := hide (fun g hg => by
              rcases l7 with q | q
              · exact HZ5.out g (by rw [← q]; exact hg)
              · rw [q] at hg
                have := Option.some.inj hg
                have := HS5.out
                omega)
            have HS5 := hide (Nat.lt_of_lt_of_le HS5.out g7.size)
            clear o7 g7 l7 q0 q1 q2 q3 q4 I6 O6
            have q0 := BX5.out.cell 0
            have q1 := BX5.out.cell 1
            have q2 := BX5.out.cell 2
            have q3 := BX5.out.cell 3
            have q4 := BX5.out.cell 4
            dsimp only [Array.toList, List.getElem?_cons_zero, List.getElem?_cons_succ] at q0 q1 q2 q3 q4
            generalize w7 = Y4 at *
            have hlt2 := HBL2.out
            cases dd
            · go_wp2_with (at_builtin; refine halt ?_)
              refine ⟨?_⟩
              have k8 := below_alloc Y4 (.cells #[.int .u8 0] 5)
              refine wpList_append_at rfl (.tmp 94) (.tmp 96) rfl w.heap.size v4 _ rfl (O5.out.keep k8) _ [0] rfl (isB_new Y4 _ [0] rfl (by decide) _ _ rfl rfl) (by simp only [List.length_append, be32_len, List.length_singleton]; omega) (Nat.le_trans K5.out.size k8.size) ?_
              intro v9 w9 o9 g9 l9
              have O9 : Hid (Own w9 w.heap.size v9 (bodyL ps (k + 1))) := hide (by
                rw [HX5.out] at o9
                rw [bodyL, HP.out]
                simpa [plcL] using o9)
              have K9 := hide ((K5.out.trans (k8.mono K5.out.size)).trans ((Below.refl w.heap.size _).grown g9 (Nat.le_trans K5.out.size k8.size) (fun k hk => (O5.out.lt k hk).1)))
              clear o9 g9 l9 k8 q0 q1 q2 q3 q4 O5
              go_wp2_with fail
              go_roundw
              case rel => exact ⟨k + 1, by omega, by go_num, O9, K9⟩
              case measure => simp [intOf]; omega
            · go_wp2_with (at_builtin; refine halt ?_)
              refine ⟨?_⟩
              have k8 := below_alloc Y4 (.cells #[.int .u8 1] 5)
              refine wpList_append_at rfl (.tmp 94) (.tmp 96) rfl w.heap.size v4 _ rfl (O5.out.keep k8) _ [1] rfl (isB_new Y4 _ [1] rfl (by decide) _ _ rfl rfl) (by simp only [List.length_append, be32_len, List.length_singleton]; omega) (Nat.le_trans K5.out.size k8.size) ?_
              intro v9 w9 o9 g9 l9
              have O9 : Hid (Own w9 w.heap.size v9 (bodyL ps (k + 1))) := hide (by
                rw [HX5.out] at o9
                rw [bodyL, HP.out]
                simpa [plcL] using o9)
              have K9 := hide ((K5.out.trans (k8.mono K5.out.size)).trans ((Below.refl w.heap.size _).grown g9 (Nat.le_trans K5.out.size k8.size) (fun k hk => (O5.out.lt k hk).1)))
              clear o9 g9 l9 k8 q0 q1 q2 q3 q4 O5
              go_wp2_with fail
              go_roundw
              case rel => exact ⟨k + 1, by omega, by go_num, O9, K9⟩
              case measure => simp [intOf]; omega
          · obtain rfl : k = j := by omega
            have hkz : ¬ (k : Int) < (k : Int) := by omega
            have hbl := HBL.out k (by rw [HN.out]; omega)
            obtain ⟨l, hl⟩ : ∃ l, l = (bodyL ps k).length := ⟨_, rfl⟩
            rw [← hl] at hbl
            obtain ⟨A3, c3, e3, i3, l3, m3⟩ := HO.out.isB.form hl.symm
            subst e3
            have I3 := hide i3
            have HL := hide hl
            clear i3 l3 hl hlt
            go_wp2_with fail
            by_cases hlong : l ≤ 1048576
            · refine (rencode_any A3 l c3 (bodyL ps k) wr I3.out HL.out.symm (bodyL_byte ps k) hlong).mono ?_
              rintro e w7 ⟨s7, rfl, o7, k7⟩
              obtain ⟨e1, e2⟩ := ixE_ok HX.out (by rw [HN.out, ← HL.out]; omega)
              rw [HN.out] at e2
              rw [← HE.out.1] at e1
              rw [← HE.out.2] at e2
              have O7 := hide (o7.more HK.out.size)
              have K7 := hide (HK.out.trans (k7.mono HK.out.size))
              clear o7 k7
              go_wp2_with fail
              go_ret2
              refine ⟨s7, ?_, ?_, K7.out⟩
              · rw [e1]; rfl
              · rw [e2]; exact O7.out
            · refine (rencode_long A3 l c3 wr (by omega) (by omega)).mono ?_
              rintro e w7 ⟨rfl, rfl⟩
              obtain ⟨e1, e2⟩ := ixE_long HX.out (.inr (by rw [HN.out, ← HL.out]; omega))
              rw [← HE.out.1] at e1
              rw [← HE.out.2] at e2
              go_wp2_with fail
              go_ret2
              refine ⟨.slice none 0 0, ?_, ?_, HK.out⟩
              · rw [e1]; rfl
              · rw [e2]; exact World.ownsRow_nil _ _ _ _
end Go.Proofs.Ytdbngchbhoanpaa
