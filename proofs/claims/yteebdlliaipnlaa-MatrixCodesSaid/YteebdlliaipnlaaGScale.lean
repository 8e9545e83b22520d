/- The contract of gf.Scale. Condition: there are at most 1000000 bytes. -/
import Derived.Test.YteebdlliaipnlaaGPart
import Derived.Test.YteebdlliaipnlaaGMul
namespace Go.Proofs.Yteebdlliaipnlaa
open Go.RowKit
set_option maxHeartbeats 1600000 in
theorem scale_any (A : Option Addr) (n c q : Nat) (xs : List Nat) (w : World) (hA : Rd w A xs) (hn : xs.length = n) (hb : ∀ x ∈ xs, x < 256) (hq : q < 256) (h3 : n ≤ 1000000) :
    Calls Try.prog 43 #[.slice A n c, .int .u8 (q : Int)] w fun e w' => ∃ g, e = .returned (.slice (some ⟨g, 0, none⟩) n n) ∧ Own w' w.heap.size (.slice (some ⟨g, 0, none⟩) n n) (part (fun j => gmul (xs.getD j 0) q) n n) ∧ Below w.heap.size w w' := by
  obtain ⟨i0, hi, hz0, hz1, hz2⟩ := info_parts Try.info_u8'
  have HA := hide hA
  have HN := hide hn
  have HB := hide hb
  obtain ⟨f, hf⟩ : ∃ f : Nat → Nat, f = fun j => gmul (xs.getD j 0) q := ⟨_, rfl⟩
  rw [← hf]
  have HF := hide hf
  clear hA hn hb hf
  go_enter Try.func43, Try.ntmps43
  go_wp2_with (at_make; refine halt ?_)
  refine ⟨?_⟩
  refine wpList_make_full _ rfl (.tmp 9) (.tmp 9) 39 rfl w.heap.size 5 i0 (.int .u8 0) 1 Try.underlying39 hi hz0 hz1 .i64 .i64 n n n rfl rfl rfl rfl (by rw [hz2]; omega) (by unfold maxLen; omega) (Nat.le_refl _) ?_
  intro w2 h2 g2
  have o2 := made_bytes h2
  have b2 : Below w.heap.size w w2 := (Below.refl _ _).grown g2 (Nat.le_refl _) (by simp)
  clear h2 g2 hi hz0 hz1 hz2 i0
  obtain ⟨g, hg⟩ : ∃ g, g = w.heap.size := ⟨_, rfl⟩
  rw [← hg] at o2 ⊢
  have HG := hide hg
  clear hg
  go_wp2_with fail
  go_loopw [13] (fun i wr => ∃ k : Nat, k ≤ n ∧ i = .int .i64 (k : Int) ∧ Hid (Own wr g (.slice (some ⟨g, 0, none⟩) n n) (part f n k)) ∧ Hid (Below g w wr)) (fun i _ => n - (intOf i).toNat)
  case atStart => exact ⟨0, Nat.zero_le _, rfl, hide (by rw [part_zero]; exact o2), hide (by rw [HG.out]; exact b2)⟩
  case round =>
    obtain ⟨k, hk, rfl, hown, hbel⟩ := hrel
    by_cases hlt : k < n
    · obtain ⟨b', off', rfl, ck, hx⟩ := at_place (HA.out.below (w' := wr) (by rw [← HG.out]; exact hbel.out)) HN.out HB.out k hlt
      have hfk : f k = gmul (xs.getD k 0) q := by rw [HF.out]
      obtain ⟨x, hxe⟩ : ∃ x, x = xs.getD k 0 := ⟨_, rfl⟩
      rw [← hxe] at ck hx hfk
      have cs := hown.out.cells_ (part_len f n k) k
      have c1 := cs.1 hlt
      have c2 := cs.2
      have st := hown.out.stored' (part_len f n k) k (f k)
      rw [part_set, hfk] at st
      have ST := hide st
      have BL := hide (show Below g w (wr.setCell ⟨g, k, none⟩ (.int .u8 ((gmul x q : Nat) : Int))) from hbel.out.setCell (Nat.le_refl _) _)
      clear cs st hfk hxe hown hbel
      go_wp2_with fail
      refine (mul_any x q _ hx hq).mono ?_
      rintro e w1 ⟨rfl, rfl⟩
      go_wp2_with fail
      go_roundw
      case rel => exact ⟨k + 1, by omega, by go_num, ST, BL⟩
      case measure => simp [intOf]; omega
    · obtain rfl : k = n := by omega
      go_wp2_with fail
      go_ret
      exact ⟨_, rfl, hown.out.more (Nat.le_of_eq HG.out.symm), by rw [← HG.out]; exact hbel.out⟩
end Go.Proofs.Yteebdlliaipnlaa
