/- The contracts of the law's own 'roomy' and 'stands': bytes in a list of their own with a marked room behind them. Condition: there are at most 1000000 bytes. The contract of the law's own comparison of rows of rows: rows that are the same are found so. Condition: no row is longer than a slice may be. The contract of the law's own 'rows' at rows that are the same. No condition but the widths. -/
import Derived.Test.YtehgjkckhjggbaaSf10
import Derived.Test.YtehgjkckhjggbaaSf7
namespace Go.Proofs.Ytehgjkckhjggbaa
open Go.RowKit
set_option maxHeartbeats 800000 in
theorem roomy_any (A : Option Addr) (n c : Nat) (xs : List Nat) (w : World) (hA : IsB w (.slice A n c) xs) (hn : xs.length = n) (h3 : n ≤ 1000000) :
    Calls Try.prog 26 #[.slice A n c] w fun e w' => ∃ A' c', e = .returned (.slice A' (n + 1) c') ∧ IsB w' (.slice A' (n + 1) c') (xs ++ [171]) ∧ n + 1 ≤ c' ∧ c' ≤ 9223372036854775807 ∧ Below w.heap.size w w' := by
  have HA := hide hA
  have HN := hide hn
  clear hA hn
  have nb : Below w.heap.size w (w.alloc (.cells #[] 5)) := (Below.refl _ _).alloc (Nat.le_refl _) _
  go_enter Try.func26, Try.ntmps26
  go_wp2_with (at_builtin; refine halt ?_)
  refine ⟨?_⟩
  refine wpList_append_bytes rfl (.tmp 3) (.tmp 4) rfl w.heap.size _ [] rfl (own_lit w #[] [] rfl (by decide)) _ xs rfl (HA.out.keep nb) (by rw [HN.out, List.length_nil]; omega) nb.size ?_
  intro s1 w1 o1 k1
  have nb1 := nb.trans k1
  clear nb k1
  go_wp2_with (at_builtin; refine halt ?_)
  refine ⟨?_⟩
  have o1' := o1.keep ((Below.refl _ _).alloc (Nat.le_refl _) (.cells #[.int .u8 171] 5))
  refine wpList_append_bytes rfl (.tmp 5) (.tmp 6) rfl w.heap.size _ _ rfl o1' _ [171] rfl (isB_new w1 _ [171] rfl (by decide) _ _ rfl rfl) (by rw [List.nil_append, HN.out]; simp; omega) (by have := nb1.size; simp; omega) ?_
  intro s2 w2 o2 k2
  have nb2 := (nb1.alloc nb1.size (.cells #[.int .u8 171] 5)).trans k2
  clear nb1 k2 o1 o1'
  go_wp2_with (at_builtin; refine halt ?_)
  refine ⟨?_⟩
  have o2' := o2.keep ((Below.refl _ _).alloc (Nat.le_refl _) (.cells #[.int .u8 171] 5))
  refine wpList_append_bytes rfl (.tmp 7) (.tmp 8) rfl w.heap.size _ _ rfl o2' _ [171] rfl (isB_new w2 _ [171] rfl (by decide) _ _ rfl rfl) (by rw [List.nil_append, List.length_append, HN.out]; simp; omega) (by have := nb2.size; simp; omega) ?_
  intro s3 w3 o3 k3
  have nb3 := (nb2.alloc nb2.size (.cells #[.int .u8 171] 5)).trans k3
  clear nb2 k3 o2 o2'
  obtain ⟨A3, c3, rfl, i3, l3, m3⟩ := o3.isB.form (n := n + 2) (by rw [List.nil_append, List.length_append, List.length_append, HN.out]; rfl)
  have i4 := i3.take (n + 1) (by omega)
  have e4 : (([] ++ xs ++ [171]) ++ [171]).take (n + 1) = xs ++ [171] := by
    rw [List.nil_append, List.take_left' (by rw [List.length_append, HN.out]; rfl)]
  rw [e4] at i4
  have I4 := hide i4
  clear i3 i4 e4 o3
  go_wp2_with fail
  go_ret
  exact ⟨_, _, rfl, I4.out, by omega, m3, nb3⟩
set_option maxHeartbeats 800000 in
theorem stands_any (A : Option Addr) (c : Nat) (B : Option Addr) (n cb : Nat) (xs : List Nat) (w : World) (hA : IsB w (.slice A (n + 1) c) (xs ++ [171])) (hB : IsB w (.slice B n cb) xs)
    (hn : xs.length = n) (h3 : n ≤ 1000000) (hc : n + 1 ≤ c) (_lc : c ≤ 9223372036854775807) :
    Calls Try.prog 30 #[.slice A (n + 1) c, .slice B n cb] w fun e w' => e = .returned (.bool true) ∧ ∃ d, w' = w.drewN d := by
  have i1 := hA.take n (by omega)
  rw [List.take_left' hn] at i1
  obtain ⟨b, off, rfl, hcell⟩ := hA.rd (by simp)
  have cl := hcell n (by rw [List.length_append, hn]; simp)
  have e1 : (xs ++ [171]).getD n 0 = 171 := by subst hn; simp
  rw [e1] at cl
  have cl' : w.cell? ⟨b, off + n, none⟩ = some (.int .u8 171) := cl
  have HB := hide hB
  have I1 := hide i1
  have HN := hide hn
  clear hA hB i1 hn cl e1 hcell
  go_enter Try.func30, Try.ntmps30
  go_wp2_with fail
  refine (same_any (some ⟨b, off, none⟩) B n n c cb xs xs _ I1.out.rd HB.out.rd HN.out.symm HN.out.symm (by omega) (by omega)).mono ?_
  rintro e w1 ⟨rfl, d, rfl⟩
  go_wp2_with fail
  go_ret
  exact ⟨rfl, d, rfl⟩
end Go.Proofs.Ytehgjkckhjggbaa
namespace Go.Proofs.Ytehgjkckhjggbaa
open Go.RowKit
set_option maxHeartbeats 800000 in
theorem rows_any (A B : Option Addr) (n ca cb : Nat) (vs us : List Value) (xss : List (List Nat)) (w : World) (hA : RdV w A vs) (hB : RdV w B us) (hn : vs.length = n) (hv : IsBs w vs xss) (hu : IsBs w us xss)
    (ln : n ≤ 9223372036854775807) :
    Calls Try.prog 29 #[.slice A n ca, .slice B n cb] w fun e w' => e = .returned (.bool true) ∧ ∃ d, w' = w.drewN d := by
  have HN := hide hn
  have HM : Hid (us.length = n) := by unfold Hid; rw [hu.1, ← hv.1, hn]
  have HA := hide hA
  have HB := hide hB
  have HV := hide hv
  have HU := hide hu
  clear hn hA hB hv hu
  have hne0 : ((n : Int) != (n : Int)) = false := by simp
  go_enter Try.func29, Try.ntmps29
  go_wp2_with fail
  go_loopw [5] (fun i wr => ∃ k d : Nat, k ≤ n ∧ i = .int .i64 (k : Int) ∧ wr = w.drewN d) (fun i _ => n - (intOf i).toNat)
  case atStart => exact ⟨0, 0, Nat.zero_le _, rfl, rfl⟩
  case round =>
    obtain ⟨k, d, hk, rfl, rfl⟩ := hrel
    by_cases hlt : k < n
    · obtain ⟨b1, o1, rfl, c1⟩ := HA.out (by intro e; have := HN.out; rw [e] at this; simp at this; omega)
      obtain ⟨b2, o2, rfl, c2⟩ := HB.out (by intro e; have := HM.out; rw [e] at this; simp at this; omega)
      have k1 := c1 k (by rw [HN.out]; exact hlt)
      have k2 := c2 k (by rw [HM.out]; exact hlt)
      obtain ⟨A1, d1, e1, r1, _, l1, m1⟩ := HV.out.2 k (by rw [HN.out]; exact hlt)
      obtain ⟨A2, d2, e2, r2, _, l2, m2⟩ := HU.out.2 k (by rw [HM.out]; exact hlt)
      rw [e1] at k1
      rw [e2] at k2
      obtain ⟨ys, hys⟩ : ∃ ys, ys = xss.getD k [] := ⟨_, rfl⟩
      rw [← hys] at k1 k2 r1 r2 l1 l2
      obtain ⟨l, hl⟩ : ∃ l, l = ys.length := ⟨_, rfl⟩
      rw [← hl] at k1 k2 l1 l2
      have HL := hide hl
      obtain ⟨W, hW⟩ : ∃ W, W = w.drewN d := ⟨_, rfl⟩
      have k1 : W.cell? ⟨b1, o1 + k, none⟩ = some (.slice A1 l d1) := by rw [hW]; exact k1
      have k2 : W.cell? ⟨b2, o2 + k, none⟩ = some (.slice A2 l d2) := by rw [hW]; exact k2
      have R1 : Hid (Rd W A1 ys) := by rw [hW]; exact r1.drewN d
      have R2 : Hid (Rd W A2 ys) := by rw [hW]; exact r2.drewN d
      rw [← hW]
      have HW := hide hW
      clear c1 c2 e1 e2 hys hl r1 r2 HA HB hW
      go_wp2_with fail
      go_quiet ((go_at_call 34; refine Calls.quiet_of (v := .bool true) ?_; refine (same_any A1 A2 l l d1 d2 ys ys _ (R1.out.drewN _) (R2.out.drewN _) HL.out HL.out (by omega) (by omega)).mono ?_; rintro e w' ⟨rfl, m, rfl⟩; exact ⟨by rw [decide_eq_true rfl], m, rfl⟩))
      go_wp2_with fail
      go_roundw
      case rel => exact ⟨k + 1, d + _, by omega, by go_num, by rw [HW.out, World.drewN_drewN]⟩
      case measure => simp [intOf]; omega
    · go_wp2_with fail
      go_ret
      exact ⟨rfl, _, rfl⟩
end Go.Proofs.Ytehgjkckhjggbaa
namespace Go.Proofs.Ytehgjkckhjggbaa
open Go.RowKit
theorem rows_same (A B : Option Addr) (n ca cb : Nat) (xss : ML) (w : World) (hA : IsM w A xss) (hB : IsM w B xss) (hn : xss.length = n) (h63 : n ≤ 9223372036854775807) :
    Calls Try.prog 29 #[.slice A n ca, .slice B n cb] w fun e w' => e = .returned (.bool true) ∧ ∃ d, w' = w.drewN d := by
  obtain ⟨vs, h1, h2⟩ := hA
  obtain ⟨us, h3, h4⟩ := hB
  exact rows_any A B n ca cb vs us xss w h1 h3 (by rw [h2.1, hn]) h2 h4 h63
end Go.Proofs.Ytehgjkckhjggbaa
