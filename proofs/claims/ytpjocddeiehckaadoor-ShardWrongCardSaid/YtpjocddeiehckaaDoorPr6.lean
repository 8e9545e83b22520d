/- The contracts of the document's scale and add. No condition but the widths. -/
import Derived.Test.YtpjocddeiehckaaDoorPr5
import Derived.Test.YtpjocddeiehckaaDoorPr4
import Derived.Deep.RegionLaw
namespace Go.Proofs.YtpjocddeiehckaaDoor
open Go.RowKit
set_option maxHeartbeats 800000 in
theorem rscale_any (A : Option Addr) (n c q : Nat) (xs : List Nat) (w : World) (hA : Rd w A xs) (hn : xs.length = n) (hb : ∀ x ∈ xs, x < 256) (hq : q < 256) (h3 : n ≤ 1000000) :
    Calls Tryd.prog 48 #[.slice A n c, .int .u8 (q : Int)] w fun e w' => ∃ s, e = .returned s ∧ Own w' w.heap.size s (scaleR xs q) ∧ Below w.heap.size w w' := by
  have HA := hide hA
  have HN := hide hn
  have HB := hide hb
  have HT : Hid ((scaleR xs q).length = n ∧ ∀ k, k < n → (scaleR xs q).getD k 0 = gmul (xs.getD k 0) q) := ⟨by rw [scaleR_len, hn], fun k hk => scaleR_get q k (by omega)⟩
  obtain ⟨T, hT⟩ : ∃ T, T = scaleR xs q := ⟨_, rfl⟩
  rw [← hT] at HT ⊢
  obtain ⟨B, hB0⟩ : ∃ B, B = w.heap.size := ⟨_, rfl⟩
  rw [← hB0]
  have HB0 := hide hB0
  clear hA hn hb hT hB0
  go_enter Tryd.func48, Tryd.ntmps48
  go_wp2_with fail
  go_loopw [5, 6] (fun s i wr => ∃ k : Nat, k ≤ n ∧ i = .int .i64 (k : Int) ∧ Hid (Own wr B s (T.take k)) ∧ Hid (Below B w wr)) (fun _ i _ => n - (intOf i).toNat)
  case atStart => exact ⟨0, Nat.zero_le _, rfl, hide (World.ownsRow_nil _ _ _ _), hide (by rw [HB0.out]; exact Below.refl _ _)⟩
  case round =>
    obtain ⟨k, hk, rfl, hown, hbel⟩ := hrel
    by_cases hlt : k < n
    · have kb : Below w.heap.size w wr := by rw [← HB0.out]; exact hbel.out
      obtain ⟨b3, off3, rfl, cx, hx⟩ := at_place (HA.out.below kb) HN.out HB.out k hlt
      have hst := take_snocN T k (by rw [HT.out.1]; exact hlt)
      rw [HT.out.2 k hlt] at hst
      obtain ⟨x, hxe⟩ : ∃ x, x = xs.getD k 0 := ⟨_, rfl⟩
      rw [← hxe] at cx hx hst
      have HM := hide (rmul_any x q wr hx hq)
      obtain ⟨z, hz⟩ : ∃ z, z = gmul x q := ⟨_, rfl⟩
      rw [← hz] at HM hst
      have HST := hide hst
      have hgs : Hid (B ≤ wr.heap.size) := by rw [HB0.out]; exact kb.size
      clear hst hz hxe kb
      go_wp2_with fail
      refine HM.out.mono ?_
      rintro e w3 ⟨rfl, rfl⟩
      go_wp2_with (at_builtin; refine halt ?_)
      refine ⟨?_⟩
      have ka := below_alloc wr (.cells #[.int .u8 (z : Int)] 5)
      refine wpList_append_bytes rfl (.tmp 13) (.tmp 20) rfl B _ _ rfl (hown.out.keep ka) _ [z] rfl (isB_one wr z rfl) (by rw [List.length_take]; simp; omega) (Nat.le_trans hgs.out ka.size) ?_
      intro v' w4 o4 k4
      rw [← HST.out] at o4
      have O4 := hide o4
      have K4 := hide ((hbel.out.trans (ka.mono hgs.out)).trans k4)
      clear o4 k4 ka hgs HST hown hbel
      go_wp2_with fail
      go_roundw
      case rel => exact ⟨k + 1, by omega, by go_num, O4, K4⟩
      case measure => simp [intOf]; omega
    · obtain rfl : k = n := by omega
      go_wp2_with fail
      go_ret
      refine ⟨_, rfl, ?_, hbel.out⟩
      have := hown.out
      rwa [List.take_of_length_le (by rw [HT.out.1]; exact Nat.le_refl _)] at this
set_option maxHeartbeats 1600000 in
theorem radd_any (A A2 : Option Addr) (n c c2 : Nat) (xs ys : List Nat) (w : World) (hA : Rd w A xs) (hA2 : Rd w A2 ys) (hn : xs.length = n) (hn2 : ys.length = n) (hb : ∀ x ∈ xs, x < 256) (hb2 : ∀ x ∈ ys, x < 256) (h3 : n ≤ 1000000) :
    Calls Tryd.prog 49 #[.slice A n c, .slice A2 n c2] w fun e w' => ∃ s, e = .returned s ∧ Own w' w.heap.size s (addR xs ys) ∧ Below w.heap.size w w' := by
  have HA := hide hA
  have HN := hide hn
  have HB := hide hb
  have HA2 := hide hA2
  have HN2 := hide hn2
  have HB2 := hide hb2
  have HT : Hid ((addR xs ys).length = n ∧ ∀ k, k < n → (addR xs ys).getD k 0 = xs.getD k 0 ^^^ ys.getD k 0) := ⟨by rw [addR_len, hn], fun k hk => addR_get ys k (by omega)⟩
  obtain ⟨T, hT⟩ : ∃ T, T = addR xs ys := ⟨_, rfl⟩
  rw [← hT] at HT ⊢
  obtain ⟨B, hB0⟩ : ∃ B, B = w.heap.size := ⟨_, rfl⟩
  rw [← hB0]
  have HB0 := hide hB0
  clear hA hn hb hT hB0 hA2 hn2 hb2
  go_enter Tryd.func49, Tryd.ntmps49
  go_wp2_with fail
  go_loopw [5, 6] (fun s i wr => ∃ k : Nat, k ≤ n ∧ i = .int .i64 (k : Int) ∧ Hid (Own wr B s (T.take k)) ∧ Hid (Below B w wr)) (fun _ i _ => n - (intOf i).toNat)
  case atStart => exact ⟨0, Nat.zero_le _, rfl, hide (World.ownsRow_nil _ _ _ _), hide (by rw [HB0.out]; exact Below.refl _ _)⟩
  case round =>
    obtain ⟨k, hk, rfl, hown, hbel⟩ := hrel
    by_cases hlt : k < n
    · have kb : Below w.heap.size w wr := by rw [← HB0.out]; exact hbel.out
      obtain ⟨b3, off3, rfl, cx, hx⟩ := at_place (HA.out.below kb) HN.out HB.out k hlt
      obtain ⟨b4, off4, rfl, cy, hy⟩ := at_place (HA2.out.below kb) HN2.out HB2.out k hlt
      have hst := take_snocN T k (by rw [HT.out.1]; exact hlt)
      rw [HT.out.2 k hlt] at hst
      obtain ⟨x, hxe⟩ : ∃ x, x = xs.getD k 0 := ⟨_, rfl⟩
      obtain ⟨y, hye⟩ : ∃ y, y = ys.getD k 0 := ⟨_, rfl⟩
      rw [← hxe] at cx hx hst
      rw [← hye] at cy hy hst
      have hxy := u8_xor_nat x y hx hy
      obtain ⟨z, hz⟩ : ∃ z, z = x ^^^ y := ⟨_, rfl⟩
      rw [← hz] at hxy hst
      have HST := hide hst
      have hgs : Hid (B ≤ wr.heap.size) := by rw [HB0.out]; exact kb.size
      have ka := below_alloc wr (.cells #[.int .u8 (z : Int)] 5)
      have HSZ := hide (Nat.le_trans hgs.out ka.size)
      have HOK := hide (hown.out.keep ka)
      have HLE : Hid ((T.take k).length + [z].length ≤ 140737488355328) := by unfold Hid; rw [List.length_take]; simp; omega
      have HI1 := hide (isB_one wr z (b := wr.heap.size) rfl)
      clear hst hz hxe hye kb
      go_wp2_with fail
      go_region_law (first
        | (refine step_append_bytes rfl (.tmp 13) (.tmp 23) rfl B _ (T.take k) rfl HOK.out _ [z] rfl HI1.out HLE.out HSZ.out ?_; intro v4 w4 o4 k4))
      all_goals
        rw [← HST.out] at o4
        have O4 := hide o4
        have K4 := hide ((hbel.out.trans (ka.mono hgs.out)).trans (by exact ⟨k4.os, k4.tape, k4.output, k4.size, k4.block⟩))
        clear o4 k4 ka hgs HST hown hbel
        go_wp2_with fail
        go_roundw
        case rel => exact ⟨k + 1, by omega, by go_num, O4, K4⟩
        case measure => simp [intOf]; omega
    · obtain rfl : k = n := by omega
      go_wp2_with fail
      go_ret
      refine ⟨_, rfl, ?_, hbel.out⟩
      have := hown.out
      rwa [List.take_of_length_le (by rw [HT.out.1]; exact Nat.le_refl _)] at this
end Go.Proofs.YtpjocddeiehckaaDoor
