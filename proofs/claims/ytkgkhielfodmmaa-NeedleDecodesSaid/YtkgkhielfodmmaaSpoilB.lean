/- The contract of the law's own 'spoil': bytes of the call's own are written over and grown. Condition: there are fewer than 2 to the 40 bytes. -/
import Derived.Test.YtkgkhielfodmmaaSame
import Derived.Test.YtkgkhielfodmmaaOwnAt
namespace Go.Proofs.Ytkgkhielfodmmaa
open Go.RowKit
theorem isB_nil (w : World) : IsB w (.slice none 0 0) [] := ⟨none, 0, rfl, fun h => absurd rfl h, fun _ => rfl, Nat.zero_le _, by decide⟩
set_option maxHeartbeats 800000 in
theorem spoil_any (A : Option Addr) (n c : Nat) (xs : List Nat) (w : World) (B : Nat) (hO : Own w B (.slice A n c) xs) (hn : xs.length = n) (hB : B ≤ w.heap.size) (h3 : n ≤ 1099511627776) :
    Calls Try.prog 18 #[.slice A n c] w fun e w' => e = .returned (.tuple #[]) ∧ Below B w w' := by
  have HO := hide hO
  have HN := hide hn
  clear hO hn
  go_enter Try.func18, Try.ntmps18
  go_wp2_with (at_builtin; refine halt ?_)
  refine ⟨?_⟩
  have nb : Below B w (w.alloc (.cells #[.int .u8 99] 5)) := (Below.refl _ _).alloc hB _
  have nbs : Below w.heap.size w (w.alloc (.cells #[.int .u8 99] 5)) := (Below.refl _ _).alloc (Nat.le_refl _) _
  refine wpList_append_bytes rfl (.tmp 4) (.tmp 5) rfl B _ _ rfl (HO.out.keep nbs) _ [99] rfl (isB_new w _ [99] rfl (by decide) _ _ rfl rfl) (by rw [HN.out]; simp; omega) (Nat.le_trans hB nb.size) ?_
  intro s1 w1 o1 k1
  obtain ⟨g, c1, rfl, hg, hc, hc2, _, _⟩ := o1.at_ (n := n + 1) (by rw [List.length_append, HN.out]; rfl) (by omega)
  have O1 := hide o1
  have K1 := hide (nb.trans k1)
  have L1 : Hid ((xs ++ [99]).length = n + 1) := by unfold Hid; rw [List.length_append, HN.out]; rfl
  clear nb nbs o1 k1
  go_wp2_with fail
  go_loopw [3] (fun i wr => ∃ k : Nat, k ≤ n + 1 ∧ i = .int .i64 (k : Int) ∧ Hid (∃ ys : List Nat, ys.length = n + 1 ∧ Own wr B (.slice (some ⟨g, 0, none⟩) (n + 1) c1) ys) ∧ Hid (Below B w wr)) (fun i _ => n + 1 - (intOf i).toNat)
  case atStart => exact ⟨0, Nat.zero_le _, rfl, ⟨_, L1.out, O1.out⟩, K1.out⟩
  case round =>
    obtain ⟨k, hk, rfl, hys, hbel⟩ := hrel
    by_cases hlt : k < n + 1
    · obtain ⟨ys, hyl, hown⟩ := hys.out
      obtain ⟨g', c', e, _, _, _, cells, hfr⟩ := hown.at_ hyl (by omega)
      cases e
      have ck := cells k hlt
      have fk := hfr k
      have hst := hown.stored hyl k 98
      have Y2 : Hid (∃ ys : List Nat, ys.length = n + 1 ∧ Own (wr.setCell ⟨g, k, none⟩ (.int .u8 ((98 : Nat) : Int))) B (.slice (some ⟨g, 0, none⟩) (n + 1) c1) ys) := ⟨ys.set k 98, by rw [List.length_set, hyl], hst⟩
      have K2 := hide (show Below B w (wr.setCell ⟨g, k, none⟩ (.int .u8 ((98 : Nat) : Int))) from hbel.out.setCell hg _)
      clear cells hfr hst hown hyl hys hbel
      go_wp2_with fail
      go_roundw
      case rel => exact ⟨k + 1, by omega, by go_num, Y2, K2⟩
      case measure => simp [intOf]; omega
    · go_wp2_with fail
      go_end0
      exact ⟨rfl, hbel.out⟩
end Go.Proofs.Ytkgkhielfodmmaa
