/- The contract of keep.Load. No condition but the widths. -/
import Derived.Test.YtmledochidefeaaKeepL
namespace Go.Proofs.Ytmledochidefeaa
open Go.RowKit Go.Maps
theorem loadL_none {k : Str} {L : DiskL} (h : getK k L = none) : loadL k L = ([], 7) := by unfold loadL readL; rw [h]; rfl
theorem readL_some {k : Str} {L : DiskL} {a : List Nat × Nat} (h : getK k L = some a) : readL k L = (a.1, 0) := by unfold readL; rw [h]
theorem loadL_err {k : Str} {L : DiskL} {a : List Nat × Nat} (h : getK k L = some a) (he : (decL a.1).2.2 ≠ 0) : loadL k L = ([], (decL a.1).2.2) := by unfold loadL; rw [readL_some h, if_neg (by simp), if_pos he]
theorem loadL_form {k : Str} {L : DiskL} {a : List Nat × Nat} (h : getK k L = some a) (he : (decL a.1).2.2 = 0) (hn : (decL a.1).2.1 < a.1.length) : loadL k L = ([], 3) := by unfold loadL; rw [readL_some h, if_neg (by simp), if_neg (by simp [he]), if_pos hn]
theorem loadL_ok {k : Str} {L : DiskL} {a : List Nat × Nat} (h : getK k L = some a) (he : (decL a.1).2.2 = 0) (hn : ¬ (decL a.1).2.1 < a.1.length) : loadL k L = ((decL a.1).1, 0) := by unfold loadL; rw [readL_some h, if_neg (by simp), if_neg (by simp [he]), if_neg hn]
theorem file_byte {w : World} {F : Nat → Prop} {d room : Nat} {L : DiskL} (h : DiskAt w F d room L) {k : Str} {a : List Nat × Nat} (hg : getK k L = some a) : (∀ x ∈ a.1, x < 256) ∧ a.1.length ≤ 1073741824 :=
  ⟨(h.facts.2.2.2.2.1 (k, a) (getK_mem hg)).2, h.sane.len hg⟩
set_option maxRecDepth 100000 in
set_option maxHeartbeats 1600000 in
theorem load_any (F : Nat → Prop) (d room : Nat) (L : DiskL) (s : ByteArray) (w : World) (hD : DiskAt w F d room L) (hs : s.size ≤ 1099511627776) :
    Calls Try.prog 15 #[.pointer (some ⟨d, 0, none⟩), .string s] w fun e w' => ∃ v, e = .returned (.tuple #[v, .int .i64 ((loadL s.data.toList L).2 : Nat)]) ∧ Own w' w.heap.size v (loadL s.data.toList L).1 ∧ Below w.heap.size w w' := by
  have RD := hide (read_any F d room L s w hD hs)
  rcases hg : getK s.data.toList L with _ | a
  · rw [loadL_none hg]
    rw [show readL s.data.toList L = ([], 7) by unfold readL; rw [hg]] at RD
    clear hD hs hg
    go_enter Try.func15, Try.ntmps15
    go_wp2_with fail
    refine RD.out.mono ?_
    rintro e w1 ⟨v, rfl, o1, k1⟩
    have K1 := hide k1
    clear o1 k1
    go_wp2_with fail
    go_ret2
    exact ⟨_, rfl, World.ownsRow_nil _ _ _ _, K1.out⟩
  · obtain ⟨hb, hl⟩ := file_byte hD hg
    rw [readL_some hg] at RD
    obtain ⟨n, hn⟩ : ∃ n, n = a.1.length := ⟨_, rfl⟩
    rw [← hn] at hl
    have HB := hide hb
    have HN := hide hn
    have HG := hide hg
    clear hD hs hg hb hn
    by_cases he : (decL a.1).2.2 = 0
    · by_cases hm : (decL a.1).2.1 < a.1.length
      · rw [loadL_form HG.out he hm]
        rw [← HN.out] at hm
        obtain ⟨q, hq⟩ : ∃ q, q = (decL a.1).2.1 := ⟨_, rfl⟩
        rw [← hq] at hm
        have HQ := hide hq
        have HE := hide he
        have hmz : (q : Int) < (n : Int) := by omega
        clear hq he
        go_enter Try.func15, Try.ntmps15
        go_wp2_with fail
        refine RD.out.mono ?_
        rintro e w1 ⟨v, rfl, o1, k1⟩
        obtain ⟨A, c, rfl, i1, l1, m1⟩ := o1.isB.form (n := n) HN.out.symm
        have I1 := hide i1
        have K1 := hide k1
        clear o1 i1 k1
        go_wp2_with fail
        refine (decode_any A n c a.1 w1 I1.out HN.out.symm HB.out (by omega) l1 m1).mono ?_
        rintro e w2 ⟨v2, rfl, o2, k2⟩
        rw [HE.out, ← HQ.out]
        have K2 := hide (below_step K1.out k2)
        clear o2 k2
        go_wp2_with fail
        go_ret2
        exact ⟨_, rfl, World.ownsRow_nil _ _ _ _, K2.out⟩
      · rw [loadL_ok HG.out he hm]
        rw [← HN.out] at hm
        obtain ⟨q, hq⟩ : ∃ q, q = (decL a.1).2.1 := ⟨_, rfl⟩
        rw [← hq] at hm
        have HQ := hide hq
        have HE := hide he
        have hmz : ¬ (q : Int) < (n : Int) := by omega
        clear hq he
        go_enter Try.func15, Try.ntmps15
        go_wp2_with fail
        refine RD.out.mono ?_
        rintro e w1 ⟨v, rfl, o1, k1⟩
        obtain ⟨A, c, rfl, i1, l1, m1⟩ := o1.isB.form (n := n) HN.out.symm
        have I1 := hide i1
        have K1 := hide k1
        clear o1 i1 k1
        go_wp2_with fail
        refine (decode_any A n c a.1 w1 I1.out HN.out.symm HB.out (by omega) l1 m1).mono ?_
        rintro e w2 ⟨v2, rfl, o2, k2⟩
        rw [HE.out, ← HQ.out]
        have K2 := hide (below_step K1.out k2)
        have O2 := hide (o2.down K1.out.size)
        clear o2 k2
        go_wp2_with fail
        go_ret2
        exact ⟨_, rfl, O2.out, K2.out⟩
    · rw [loadL_err HG.out he]
      obtain ⟨q, hq⟩ : ∃ q, q = (decL a.1).2.2 := ⟨_, rfl⟩
      rw [← hq] at he ⊢
      have HQ := hide hq
      have hq0 : ((q : Int) == 0) = false := by simp; omega
      clear hq he
      go_enter Try.func15, Try.ntmps15
      go_wp2_with fail
      refine RD.out.mono ?_
      rintro e w1 ⟨v, rfl, o1, k1⟩
      obtain ⟨A, c, rfl, i1, l1, m1⟩ := o1.isB.form (n := n) HN.out.symm
      have I1 := hide i1
      have K1 := hide k1
      clear o1 i1 k1
      go_wp2_with fail
      refine (decode_any A n c a.1 w1 I1.out HN.out.symm HB.out (by omega) l1 m1).mono ?_
      rintro e w2 ⟨v2, rfl, o2, k2⟩
      rw [← HQ.out]
      have K2 := hide (below_step K1.out k2)
      clear o2 k2
      go_wp2_with fail
      go_ret2
      exact ⟨_, rfl, World.ownsRow_nil _ _ _ _, K2.out⟩
end Go.Proofs.Ytmledochidefeaa
