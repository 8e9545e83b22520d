/- The contracts of slices.Grow of nothing and slices.Concat of rows of bytes. Condition: the rows together are below 2 to the 40. -/
import Derived.Test.YtehgjkckhjggbaaVr7
import Derived.Test.YtehgjkckhjggbaaVr6
import Derived.Lib.AppendZeros
import Derived.Lib.SliceRun
namespace Go.Proofs.Ytehgjkckhjggbaa
open Go.RowKit
theorem flat_step (xss : List (List Nat)) (k : Nat) (h : k < xss.length) : (xss.take (k + 1)).flatten = (xss.take k).flatten ++ xss.getD k [] := by
  rw [List.take_succ_eq_append_getElem h, List.flatten_append]
  simp [h]
theorem flat_le (xss : List (List Nat)) (k : Nat) : (xss.take k).flatten.length ≤ xss.flatten.length := by
  have h : xss = xss.take k ++ xss.drop k := (List.take_append_drop k xss).symm
  have e : xss.flatten.length = ((xss.take k).flatten ++ (xss.drop k).flatten).length := by rw [← List.flatten_append, List.take_append_drop]
  rw [e, List.length_append]
  omega
theorem own_empty (w : World) (g cap : Nat) (cur : Array Value) (hg : g = w.heap.size) (hc : cap ≤ maxLen) (hs : cur.size = cap) : Own (w.alloc (.cells cur 5)) w.heap.size (.slice (some ⟨g, 0, none⟩) 0 cap) [] := by
  subst hg
  unfold Own
  exact ⟨rfl, .inr ⟨_, cap, cur, rfl, Nat.le_refl _, heap_alloc_new w _, Nat.zero_le _, hc, by omega, by simp⟩⟩
set_option maxRecDepth 100000 in
set_option maxHeartbeats 800000 in
theorem grow_nil (n : Nat) (w : World) (hn : n ≤ 140737488355328) :
    Calls Try.prog 114 #[.slice none 0 0, .int .i64 (n : Int)] w fun e w' => ∃ s, e = .returned s ∧ Own w' w.heap.size s [] ∧ Below w.heap.size w w' := by
  by_cases h0 : n = 0
  · subst h0
    go_enter Try.func114, Try.ntmps114
    go_wp2_with fail
    go_ret
    exact ⟨_, rfl, World.ownsRow_nil _ _ _ _, Below.refl _ _⟩
  · obtain ⟨i0, hi, hz0, hz1, hz2⟩ := info_parts Try.info_u8'
    have hge := grownCap_ge w n 0 5
    have hle := grownCap_le_maxLen w n 0 5 (by unfold maxLen; omega)
    have hr := fun ty => Lib.run_append_nil_zeros (P := Try.prog) w 23 3 ty 5 i0 (.int .u8 0) .i64 .i64 Try.underlying23 Try.underlying3 hi hz0 n (by omega) (by omega) (by omega) (by rw [hz2]; omega)
    obtain ⟨G, hG⟩ : ∃ G, G = grownCap w n 0 5 := ⟨_, rfl⟩
    obtain ⟨cur, hcur⟩ : ∃ cur, cur = Builtin.zeroCells (Value.int .u8 0).cells n ++ Builtin.zeroCells (Value.int .u8 0).cells (G - n) := ⟨_, rfl⟩
    rw [← hG] at hge hle hr
    rw [← hcur] at hr
    have hs : cur.size = G := by
      have e : (Value.int .u8 0).cells.size = 1 := rfl
      rw [hcur, Array.size_append, size_zeroCells, size_zeroCells, e]
      omega
    have hpos : 0 < (n : Int) := by omega
    have hle2 : G ≤ 9223372036854775807 := by unfold maxLen at hle; omega
    have HR := hide hr
    have HS := hide (And.intro hle hs)
    clear hr hle hs hcur hG
    go_enter Try.func114, Try.ntmps114
    go_wp2_with (at_builtin; refine halt ?_)
    refine ⟨?_⟩
    refine Lib.wpList_append_run _ rfl _ _ _ _ rfl _ _ rfl rfl _ _ (HR.out _) ?_
    go_wp2_with fail
    go_ret
    exact ⟨_, rfl, own_empty w.drew _ G cur rfl HS.out.1 HS.out.2, ((Below.refl _ _).drew).alloc (Nat.le_refl _) _⟩
set_option maxHeartbeats 1600000 in
theorem concat_any (A : Option Addr) (n c : Nat) (vs : List Value) (xss : List (List Nat)) (w : World) (hA : RdV w A vs) (hn : vs.length = n) (hB : IsBs w vs xss) (ht : xss.flatten.length ≤ 1099511627776) (hn2 : n ≤ 9223372036854775807) :
    Calls Try.prog 84 #[.slice A n c] w fun e w' => ∃ s, e = .returned s ∧ Own w' w.heap.size s xss.flatten ∧ Below w.heap.size w w' := by
  have HN := hide hn
  have HA := hide hA
  have HB := hide hB
  have HT := hide ht
  have HX := hide (show xss.length = n by rw [← hB.1, hn])
  clear hn hA hB ht
  go_enter Try.func84, Try.ntmps84
  go_wp2
  go_loop [3, 11] (fun s i => ∃ k : Nat, k ≤ n ∧ i = .int .i64 (k : Int) ∧ s = .int .i64 ((xss.take k).flatten.length : Nat)) (fun _ i => n - (intOf i).toNat)
  case atStart => exact ⟨0, Nat.zero_le _, rfl, rfl⟩
  case round =>
    obtain ⟨k, hk, rfl, rfl⟩ := hrel
    have hle := flat_le xss k
    have hT := HT.out
    by_cases hlt : k < n
    · obtain ⟨b, off, rfl, hc⟩ := HA.out (by intro e; have := HN.out; rw [e] at this; simp at this; omega)
      have ck := hc k (by rw [HN.out]; exact hlt)
      obtain ⟨A1, c1, e1, _⟩ := HB.out.2 k (by rw [HN.out]; exact hlt)
      rw [e1] at ck
      have hst := flat_step xss k (by rw [HX.out]; exact hlt)
      have hle2 := flat_le xss (k + 1)
      rw [hst, List.length_append] at hle2
      have HS : Hid ((xss.take (k + 1)).flatten.length = (xss.take k).flatten.length + (xss.getD k []).length) := by unfold Hid; rw [hst, List.length_append]
      obtain ⟨p, hp⟩ : ∃ p, p = (xss.take k).flatten.length := ⟨_, rfl⟩
      obtain ⟨q, hq⟩ : ∃ q, q = (xss.getD k []).length := ⟨_, rfl⟩
      rw [← hp] at hle hle2 HS ⊢
      rw [← hq] at hle2 HS ck
      clear hp hq hst hc e1
      have h0 : ¬ ((p : Int) + (q : Int) < 0) := by omega
      have h1 : p + q ≤ 1099511627776 := by omega
      clear hT hle hle2
      go_wp2
      go_round
      case rel => exact ⟨k + 1, by omega, by go_num, by rw [HS.out]; go_num⟩
      case measure => simp [intOf]; omega
    · obtain rfl : k = n := by omega
      have e : xss.take k = xss := List.take_of_length_le (by rw [HX.out]; exact Nat.le_refl _)
      rw [e] at hle ⊢
      obtain ⟨m, hm⟩ : ∃ m, m = xss.flatten.length := ⟨_, rfl⟩
      rw [← hm] at hT ⊢
      clear hle e hlt hm
      go_wp2_with fail
      refine (grow_nil m w (by omega)).mono ?_
      rintro e w1 ⟨s1, rfl, o1, b1⟩
      go_wp2_with fail
      go_loopw [6, 27] (fun s i wr => ∃ j : Nat, j ≤ k ∧ i = .int .i64 (j : Int) ∧ Hid (Own wr w.heap.size s (xss.take j).flatten) ∧ Hid (Below w.heap.size w wr)) (fun _ i _ => k - (intOf i).toNat)
      case atStart => exact ⟨0, Nat.zero_le _, rfl, o1, b1⟩
      case round =>
        obtain ⟨j, hj, rfl, hown, hbel⟩ := hrel
        by_cases hlt : j < k
        · obtain ⟨b, off, rfl, hc⟩ := (HA.out.below hbel.out) (by intro e; have := HN.out; rw [e] at this; simp at this; omega)
          have ck := hc j (by rw [HN.out]; exact hlt)
          obtain hIs := (HB.out.below hbel.out).2 j (by rw [HN.out]; exact hlt)
          have hst := flat_step xss j (by rw [HX.out]; exact hlt)
          have hle2 := flat_le xss (j + 1)
          rw [hst, List.length_append] at hle2
          have HST := hide hst
          have HL : Hid ((xss.take j).flatten.length + (xss.getD j []).length ≤ 1099511627776) := by unfold Hid; exact Nat.le_trans hle2 HT.out
          obtain ⟨v, hv⟩ : ∃ v, v = vs.getD j (.slice none 0 0) := ⟨_, rfl⟩
          rw [← hv] at ck hIs
          have HI := hide hIs
          clear hst hle2 hc hIs hv
          go_wp2_with (at_builtin; refine halt ?_)
          refine ⟨?_⟩
          refine wpList_append_bytes rfl (.tmp 31) (.tmp 32) rfl w.heap.size _ _ rfl hown.out _ _ rfl HI.out (by have := HL.out; omega) hbel.out.size ?_
          intro s2 w2 o2 k2
          rw [← HST.out] at o2
          have O2 := hide o2
          have K2 := hide (hbel.out.trans k2)
          clear o2 k2 HL
          go_wp2_with fail
          go_roundw
          case rel => exact ⟨j + 1, by omega, by go_num, O2, K2⟩
          case measure => simp [intOf]; omega
        · obtain rfl : j = k := by omega
          have e : xss.take j = xss := List.take_of_length_le (by rw [HX.out]; exact Nat.le_refl _)
          rw [e] at hown
          clear e hlt
          go_wp2_with fail
          go_ret
          exact ⟨_, rfl, hown.out, hbel.out⟩
end Go.Proofs.Ytehgjkckhjggbaa
