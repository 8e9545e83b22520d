/- The contract of bytes.Clone. Condition: the row is below 2 to the 40. -/
import Derived.Test.YtmledochidefeaaApp
import Derived.Lib.SliceRun
namespace Go.Proofs.Ytmledochidefeaa
open Go.RowKit
set_option maxHeartbeats 400000 in
theorem clone_any (A : Option Addr) (n c : Nat) (xs : List Nat) (w : World) (hA : IsB w (.slice A n c) xs) (hn : xs.length = n) (h3 : n ≤ 1099511627776) :
    Calls Try.prog 54 #[.slice A n c] w fun e w' => ∃ s, e = .returned s ∧ Own w' w.heap.size s xs ∧ Below w.heap.size w w' := by
  have HA := hide hA
  have HN := hide hn
  have q22 : ∀ (w : World) (a : Option Addr) (n c n' c' : Nat), (binOp .eql 33 (.slice a n c) (.slice none n' c')).run Try.prog w = .ok (.bool a.isNone) w := fun w a n c n' c' => Lib.run_eql_slice_nil w _ _ a n c n' c' Try.underlying33
  rcases A with _ | a
  · have e0 : xs = [] := by
      rcases xs with _ | ⟨y, ys⟩
      · rfl
      · obtain ⟨_, _, e, _⟩ := hA.rd (by simp)
        cases e
    subst e0
    have h0 : n = 0 := by simpa using hn.symm
    subst h0
    clear hA hn
    go_enter Try.func54, Try.ntmps54
    go_wp2_with fail
    go_ret
    exact ⟨_, rfl, World.ownsRow_nil _ _ _ _, Below.refl _ _⟩
  · clear hA hn
    have nb : Below w.heap.size w (w.alloc (.cells #[] 5)) := (Below.refl _ _).alloc (Nat.le_refl _) _
    go_enter Try.func54, Try.ntmps54
    go_wp2_with (at_builtin; refine halt ?_)
    refine ⟨?_⟩
    refine wpList_append_bytes rfl (.tmp 5) (.tmp 6) rfl w.heap.size _ [] rfl (own_lit w #[] [] rfl (by decide)) _ xs rfl (HA.out.keep nb) (by rw [HN.out, List.length_nil]; omega) nb.size ?_
    intro s1 w1 o1 k1
    rw [List.nil_append] at o1
    have O1 := hide o1
    have K1 := hide (nb.trans k1)
    clear nb o1 k1
    go_wp2_with fail
    go_ret
    exact ⟨_, rfl, O1.out, K1.out⟩
end Go.Proofs.Ytmledochidefeaa
