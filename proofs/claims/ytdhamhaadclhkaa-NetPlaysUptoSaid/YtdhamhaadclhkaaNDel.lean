/- The contract of slices.Delete at one message. No condition but the widths. -/
import Derived.Test.YtdhamhaadclhkaaMsgCut
import Derived.RegionTactic
import Derived.Deep.RegionWith
namespace Go.Proofs.Ytdhamhaadclhkaa
open Go.RowKit
set_option maxRecDepth 100000 in
set_option maxHeartbeats 3200000 in
theorem delete_any (F : Nat → Prop) (b N c i : Nat) (X : List Itm) (w : World) (hX : N = X.length) (hown : OwnM w 0 (.slice (some ⟨b, 0, none⟩) N c) X) (hG : ∀ q ∈ X, Good w F q) (hi : i < N) (j : Nat) (hj : j = i + 1) (hc : N ≤ c) (hc2 : c ≤ 9223372036854775807) :
    Calls Try.prog 66 #[.slice (some ⟨b, 0, none⟩) N c, .int .i64 (i : Int), .int .i64 (j : Int)] w fun e w' => e = .returned (.slice (some ⟨b, 0, none⟩) (N - 1) c) ∧ OwnM w' 0 (.slice (some ⟨b, 0, none⟩) (N - 1) c) (X.take i ++ X.drop (i + 1)) ∧ w.grownBy w' (some b) := by
  have HO := hide hown
  have HG := hide hG
  have HX := hide hX
  have h1 : ((i : Int) == (j : Int)) = false := by simp; omega
  have h13 : (0 : Int) ≤ (j : Int) := by omega
  have h14 : N - j = N - (i + 1) := by rw [hj]
  have H14 := hide h14
  have HJ := hide hj
  have h2 : ¬ c = i := by omega
  have h3 : (0 : Int) ≤ (i : Int) := by omega
  have h4 : (i : Int) ≤ (j : Int) := by omega
  have h5 : (j : Int) ≤ (N : Int) := by omega
  have h6 : (N : Int) ≤ (c : Int) := by omega
  obtain ⟨M, hM⟩ : ∃ M, M = N - 1 := ⟨_, rfl⟩
  have hM1 : N = M + 1 := by omega
  have hcM : ¬ c = M := by omega
  have h7 : (M : Int) ≤ (N : Int) := by omega
  have h8 : (0 : Int) ≤ (M : Int) := by omega
  have h9 : N - M = 1 := by omega
  have h10 : (i : Int) ≤ (c : Int) := by omega
  have h11 : (j : Int) ≤ (c : Int) := by omega
  have h12 : (M : Int) ≤ (c : Int) := by omega
  rw [← hM]
  have HM := hide hM
  clear hown hG hX hM hM1 hj h14
  by_cases hci : c = j
  · subst hci
    have HZ0 : Hid (N - (i + 1) = 0) := by unfold Hid; have := HJ.out; omega
    have hcz : (if c = i + 1 then (0 : Nat) else (i + 1) * 5) = 0 := by rw [← HJ.out]; exact if_pos rfl
    go_enter Try.func66, Try.ntmps66
    go_wp2_with fail
    go_region_law (first
      | (refine step_delete_msgs rfl (.tmp 22) (.tmp 25) rfl 0 b N c i X F HX.out HO.out (by intro q hq; exact (HG.out q hq).below (Below.one w)) hi rfl _ _ (by rw [HZ0.out]; rfl) (by rw [hcz]) ?_; intro w4 o4 g4 _; rw [← HM.out] at o4 ⊢; obtain ⟨w5, cl5, o5, g5⟩ := o4.clear (cut_len X i N M HX.out hi HM.out) 1 (c - M) (by omega); have O5 := hide o5; have G5 : Hid (w.grownBy w5 (some b)) := (by have gg := g4.trans g5; exact ⟨gg.os, gg.tape, gg.output, gg.size, gg.block⟩)))
    go_wp2_with fail
    go_ret
    exact ⟨rfl, O5.out, G5.out⟩
  · have hcz : (if c = i + 1 then (0 : Nat) else (i + 1) * 5) = j * 5 := by rw [← HJ.out]; exact if_neg hci
    go_enter Try.func66, Try.ntmps66
    go_wp2_with fail
    go_region_law (first
      | (refine step_delete_msgs rfl (.tmp 22) (.tmp 25) rfl 0 b N c i X F HX.out HO.out (by intro q hq; exact (HG.out q hq).below (Below.one w)) hi rfl _ (c - j) (by rw [← H14.out]; rfl) (by rw [hcz]) ?_; intro w4 o4 g4 _; rw [← HM.out] at o4 ⊢; obtain ⟨w5, cl5, o5, g5⟩ := o4.clear (cut_len X i N M HX.out hi HM.out) 1 (c - M) (by omega); have O5 := hide o5; have G5 : Hid (w.grownBy w5 (some b)) := (by have gg := g4.trans g5; exact ⟨gg.os, gg.tape, gg.output, gg.size, gg.block⟩)))
    go_wp2_with fail
    go_ret
    exact ⟨rfl, O5.out, G5.out⟩
end Go.Proofs.Ytdhamhaadclhkaa
