/- The contract of the law's own 'roomy', with whose memory it answers: a list of the call's own. Condition: there are at most 1000000 bytes. -/
import Derived.Test.YtndffjgneapmdaaRoomy
import Derived.Test.YtndffjgneapmdaaOwnAt
namespace Go.Proofs.Ytndffjgneapmdaa
open Go.RowKit
theorem Own.front {w : World} {B b N c : Nat} {X : List Nat} (h : Own w B (.slice (some ⟨b, 0, none⟩) N c) X) (i : Nat) (hi : i ≤ X.length) : Own w B (.slice (some ⟨b, 0, none⟩) i c) (X.take i) := by
  unfold Own at h ⊢
  have hl : (X.take i).length = i := by rw [List.length_take]; omega
  rw [hl]
  refine ⟨by simp; omega, ?_⟩
  rcases h.2 with ⟨hv, _⟩ | ⟨g, cap, cur, hv, h1, h2, h3, h4, h5, h6⟩
  · cases hv
  · cases hv
    refine .inr ⟨b, c, cur, rfl, h1, h2, by omega, h4, h5, ?_⟩
    rw [List.map_take, ← h6, List.take_take]
    congr 1
    omega
set_option maxHeartbeats 800000 in
theorem roomyO_any (A : Option Addr) (n c : Nat) (xs : List Nat) (w : World) (hA : IsB w (.slice A n c) xs) (hn : xs.length = n) (h3 : n ≤ 1000000) :
    Calls Try.prog 24 #[.slice A n c] w fun e w' => ∃ g c', e = .returned (.slice (some ⟨g, 0, none⟩) (n + 1) c') ∧ Own w' w.heap.size (.slice (some ⟨g, 0, none⟩) (n + 1) c') (xs ++ [171]) ∧ n + 1 ≤ c' ∧ c' ≤ 9223372036854775807 ∧ Below w.heap.size w w' := by
  have HA := hide hA
  have HN := hide hn
  clear hA hn
  have nb : Below w.heap.size w (w.alloc (.cells #[] 5)) := (Below.refl _ _).alloc (Nat.le_refl _) _
  go_enter Try.func24, Try.ntmps24
  go_wp2_with (at_builtin; refine halt ?_)
  refine ⟨?_⟩
  refine wpList_append_bytes rfl (.tmp 3) (.tmp 4) rfl w.heap.size _ [] rfl (own_lit w #[] [] rfl (by decide)) _ xs rfl (HA.out.keep nb) (by rw [HN.out, List.length_nil]; omega) nb.size ?_
  intro s1 w1 o1 k1
  have nb1 := nb.trans k1
  clear nb k1
  go_wp2_with (at_builtin; refine halt ?_)
  refine ⟨?_⟩
  have o1' := o1.keep ((Below.refl _ _).alloc (Nat.le_refl _) (.cells #[.int .u8 171] 5))
  refine wpList_append_bytes rfl (.tmp 5) (.tmp 6) rfl w.heap.size _ _ rfl o1' _ [171] rfl (isB_new w1 _ [171] rfl (by decide) _ _ rfl rfl) (by rw [List.nil_append, HN.out]; simp; omega) (by have := nb1.size; simp; omega) ?_
  intro s2 w2 o2 k2
  have nb2 := (nb1.alloc nb1.size (.cells #[.int .u8 171] 5)).trans k2
  clear nb1 k2 o1 o1'
  go_wp2_with (at_builtin; refine halt ?_)
  refine ⟨?_⟩
  have o2' := o2.keep ((Below.refl _ _).alloc (Nat.le_refl _) (.cells #[.int .u8 171] 5))
  refine wpList_append_bytes rfl (.tmp 7) (.tmp 8) rfl w.heap.size _ _ rfl o2' _ [171] rfl (isB_new w2 _ [171] rfl (by decide) _ _ rfl rfl) (by rw [List.nil_append, List.length_append, HN.out]; simp; omega) (by have := nb2.size; simp; omega) ?_
  intro s3 w3 o3 k3
  have nb3 := (nb2.alloc nb2.size (.cells #[.int .u8 171] 5)).trans k3
  clear nb2 k3 o2 o2'
  obtain ⟨g, c3, rfl, _, l3, m3, _, _⟩ := o3.at_ (n := n + 2) (by rw [List.nil_append, List.length_append, List.length_append, HN.out]; rfl) (by omega)
  have o4 := o3.front (n + 1) (by rw [List.nil_append, List.length_append, List.length_append, HN.out]; simp)
  have e4 : (([] ++ xs ++ [171]) ++ [171]).take (n + 1) = xs ++ [171] := by
    rw [List.nil_append, List.take_left' (by rw [List.length_append, HN.out]; rfl)]
  rw [e4] at o4
  have O4 := hide o4
  clear o4 e4 o3
  go_wp2_with fail
  go_ret
  exact ⟨_, _, rfl, O4.out, by omega, m3, nb3⟩
end Go.Proofs.Ytndffjgneapmdaa
