/- The contracts of the law's own 'roomy' and 'stands': bytes in a list of their own with a marked room behind them. Condition: there are at most 1000000 bytes. -/
import Derived.Test.YtkgkhielfodmmaaSame
namespace Go.Proofs.Ytkgkhielfodmmaa
open Go.RowKit
set_option maxHeartbeats 800000 in
theorem roomy_any (A : Option Addr) (n c : Nat) (xs : List Nat) (w : World) (hA : IsB w (.slice A n c) xs) (hn : xs.length = n) (h3 : n ≤ 1000000) :
    Calls Try.prog 8 #[.slice A n c] w fun e w' => ∃ A' c', e = .returned (.slice A' (n + 1) c') ∧ IsB w' (.slice A' (n + 1) c') (xs ++ [171]) ∧ n + 1 ≤ c' ∧ c' ≤ 9223372036854775807 ∧ Below w.heap.size w w' := by
  have HA := hide hA
  have HN := hide hn
  clear hA hn
  have nb : Below w.heap.size w (w.alloc (.cells #[] 5)) := (Below.refl _ _).alloc (Nat.le_refl _) _
  go_enter Try.func8, Try.ntmps8
  go_wp2_with (at_builtin; refine halt ?_)
  refine ⟨?_⟩
  refine wpList_append_bytes rfl (.tmp 3) (.tmp 4) rfl w.heap.size _ [] rfl (own_lit w #[] [] rfl (by decide)) _ xs rfl (HA.out.keep nb) (by rw [HN.out, List.length_nil]; omega) nb.size ?_
  intro s1 w1 o1 k1
  have nb1 := nb.trans k1
  clear nb k1
  go_wp2_with (at_builtin; refine halt ?_)
  refine ⟨?_⟩
  have o1' := o1.keep ((Below.refl _ _).alloc (Nat.le_refl _) (.cells #[.int .u8 171] 5))
  refine wpList_append_bytes rfl (.tmp 5) (.tmp 6) rfl w.heap.size _ _ rfl o1' _ [171] rfl (isB_new w1 _ [171] rfl (by decide) _ _ rfl rfl) (by rw [List.nil_append, HN.out]; simp; omega) (by have := nb1.size; simp; omega) ?_
  intro s2 w2 o2 k2
  have nb2 := (nb1.alloc nb1.size (.cells #[.int .u8 171] 5)).trans k2
  clear nb1 k2 o1 o1'
  go_wp2_with (at_builtin; refine halt ?_)
  refine ⟨?_⟩
  have o2' := o2.keep ((Below.refl _ _).alloc (Nat.le_refl _) (.cells #[.int .u8 171] 5))
  refine wpList_append_bytes rfl (.tmp 7) (.tmp 8) rfl w.heap.size _ _ rfl o2' _ [171] rfl (isB_new w2 _ [171] rfl (by decide) _ _ rfl rfl) (by rw [List.nil_append, List.length_append, HN.out]; simp; omega) (by have := nb2.size; simp; omega) ?_
  intro s3 w3 o3 k3
  have nb3 := (nb2.alloc nb2.size (.cells #[.int .u8 171] 5)).trans k3
  clear nb2 k3 o2 o2'
  obtain ⟨A3, c3, rfl, i3, l3, m3⟩ := o3.isB.form (n := n + 2) (by rw [List.nil_append, List.length_append, List.length_append, HN.out]; rfl)
  have i4 := i3.take (n + 1) (by omega)
  have e4 : (([] ++ xs ++ [171]) ++ [171]).take (n + 1) = xs ++ [171] := by
    rw [List.nil_append, List.take_left' (by rw [List.length_append, HN.out]; rfl)]
  rw [e4] at i4
  have I4 := hide i4
  clear i3 i4 e4 o3
  go_wp2_with fail
  go_ret
  exact ⟨_, _, rfl, I4.out, by omega, m3, nb3⟩
set_option maxHeartbeats 800000 in
theorem stands_any (A : Option Addr) (c : Nat) (B : Option Addr) (n cb : Nat) (xs : List Nat) (w : World) (hA : IsB w (.slice A (n + 1) c) (xs ++ [171])) (hB : IsB w (.slice B n cb) xs)
    (hn : xs.length = n) (h3 : n ≤ 1000000) (hc : n + 1 ≤ c) (_lc : c ≤ 9223372036854775807) :
    Calls Try.prog 12 #[.slice A (n + 1) c, .slice B n cb] w fun e w' => e = .returned (.bool true) ∧ ∃ d, w' = w.drewN d := by
  have i1 := hA.take n (by omega)
  rw [List.take_left' hn] at i1
  obtain ⟨b, off, rfl, hcell⟩ := hA.rd (by simp)
  have cl := hcell n (by rw [List.length_append, hn]; simp)
  have e1 : (xs ++ [171]).getD n 0 = 171 := by subst hn; simp
  rw [e1] at cl
  have cl' : w.cell? ⟨b, off + n, none⟩ = some (.int .u8 171) := cl
  have HB := hide hB
  have I1 := hide i1
  have HN := hide hn
  clear hA hB i1 hn cl e1 hcell
  go_enter Try.func12, Try.ntmps12
  go_wp2_with fail
  refine (same_any (some ⟨b, off, none⟩) B n n c cb xs xs _ I1.out.rd HB.out.rd HN.out.symm HN.out.symm (by omega) (by omega)).mono ?_
  rintro e w1 ⟨rfl, d, rfl⟩
  go_wp2_with fail
  go_ret
  exact ⟨rfl, d, rfl⟩
end Go.Proofs.Ytkgkhielfodmmaa
