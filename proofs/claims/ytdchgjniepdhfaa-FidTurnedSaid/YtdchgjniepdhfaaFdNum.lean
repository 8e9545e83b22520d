/- The contracts of fid's valueOf and number, and of the document's unhex. Conditions: widths, and no more than 2 to the 40 bytes. -/
import Derived.Test.YtdchgjniepdhfaaFdCut
import Derived.Test.YtdchgjniepdhfaaBlk
import Derived.Laws.IdiomStrings
namespace Go.Proofs.Ytdchgjniepdhfaa
open Go.RowKit
set_option maxHeartbeats 800000 in
theorem valueOf_any (c : UInt8) (w : World) :
    Calls Try.prog 24 #[.int .u8 (c.toNat : Int)] w fun e w' => e = .returned (.int .u64 ((valD c : Nat) : Int)) ∧ w = w' := by
  obtain ⟨x, hx⟩ : ∃ x, x = c.toNat := ⟨_, rfl⟩
  have hlt : x < 256 := by rw [hx]; exact c.toNat_lt
  have HV := hide (show valD c = if 48 ≤ x ∧ x ≤ 57 then x - 48 else if 97 ≤ x ∧ x ≤ 102 then x - 87 else 0 by rw [hx]; rfl)
  rw [← hx]
  clear hx
  by_cases h1 : 48 ≤ x
  · by_cases h2 : x ≤ 57
    · rw [HV.out, if_pos ⟨h1, h2⟩]
      obtain ⟨y, hy⟩ : ∃ y, y = x - 48 := ⟨_, rfl⟩
      have e1 : (x : Int) - 48 = (y : Int) := by omega
      have i1 : (48 : Int) ≤ (x : Int) := by omega
      have i2 : (x : Int) ≤ 57 := by omega
      have e2 : IntKind.u8.wrap ((x : Int) - 48) = (y : Int) := by rw [IntKind.wrap_u8]; omega
      have e3 : IntKind.u64.wrap (y : Int) = (y : Int) := by rw [IntKind.wrap_u64]; omega
      rw [← hy]
      clear hy h1 h2
      go_enter Try.func24, Try.ntmps24
      go_wp2
      go_ret
      exact ⟨rfl, rfl⟩
    · by_cases h3 : 97 ≤ x
      · by_cases h4 : x ≤ 102
        · rw [HV.out, if_neg (by omega), if_pos ⟨h3, h4⟩]
          obtain ⟨y, hy⟩ : ∃ y, y = x - 97 := ⟨_, rfl⟩
          have e1 : (x : Int) - 97 = (y : Int) := by omega
          have i1 : (48 : Int) ≤ (x : Int) := by omega
          have i2 : ¬ (x : Int) ≤ 57 := by omega
          have i3 : (97 : Int) ≤ (x : Int) := by omega
          have i4 : (x : Int) ≤ 102 := by omega
          have e2 : IntKind.u8.wrap ((x : Int) - 97) = (y : Int) := by rw [IntKind.wrap_u8]; omega
          have e3 : IntKind.u64.wrap (y : Int) = (y : Int) := by rw [IntKind.wrap_u64]; omega
          have e4 : x - 87 = y + 10 := by omega
          have hy5 : y ≤ 5 := by omega
          rw [e4]
          clear hy h1 h2 h3 h4 e4
          go_enter Try.func24, Try.ntmps24
          go_wp2
          go_ret
          exact ⟨ret_int (by omega), rfl⟩
        · rw [HV.out, if_neg (by omega), if_neg (by omega)]
          have i1 : (48 : Int) ≤ (x : Int) := by omega
          have i2 : ¬ (x : Int) ≤ 57 := by omega
          have i3 : (97 : Int) ≤ (x : Int) := by omega
          have i4 : ¬ (x : Int) ≤ 102 := by omega
          clear h1 h2 h3 h4
          go_enter Try.func24, Try.ntmps24
          go_wp2
          go_ret
          exact ⟨rfl, rfl⟩
      · rw [HV.out, if_neg (by omega), if_neg (by omega)]
        have i1 : (48 : Int) ≤ (x : Int) := by omega
        have i2 : ¬ (x : Int) ≤ 57 := by omega
        have i3 : ¬ (97 : Int) ≤ (x : Int) := by omega
        clear h1 h2 h3
        go_enter Try.func24, Try.ntmps24
        go_wp2
        go_ret
        exact ⟨rfl, rfl⟩
  · rw [HV.out, if_neg (by omega), if_neg (by omega)]
    have i1 : ¬ (48 : Int) ≤ (x : Int) := by omega
    have i3 : ¬ (97 : Int) ≤ (x : Int) := by omega
    clear h1
    go_enter Try.func24, Try.ntmps24
    go_wp2
    go_ret
    exact ⟨rfl, rfl⟩
theorem numW_take (b : Nat) (l : List UInt8) (j : Nat) (h : j < l.length) : numW b (l.take (j + 1)) = (numW b (l.take j) * b + valD l[j]) % 18446744073709551616 := by
  rw [List.take_succ_eq_append_getElem h, numW_snoc]
theorem num_step (a b d : Nat) : IntKind.u64.wrap (IntKind.u64.wrap ((a : Int) * (b : Int)) + (d : Int)) = (((a * b + d) % 18446744073709551616 : Nat) : Int) := by
  rw [IntKind.wrap_u64, IntKind.wrap_u64]
  have : ((a : Int) * (b : Int)) = ((a * b : Nat) : Int) := by push_cast; rfl
  rw [this]
  generalize a * b = q
  omega
theorem bytes_of (w : World) (l : List UInt8) : ∃ c W, (convert 9 40 (.string (mkS l))).run Try.prog w = .ok (.slice (some ⟨w.heap.size, 0, none⟩) l.length c) W ∧ l.length ≤ c ∧ Below w.heap.size w W ∧ (∀ j (h : j < l.length), W.cell? ⟨w.heap.size, j, none⟩ = some (.int .u8 (l[j].toNat : Int))) ∧ ∀ j, j < l.length → W.frozen? ⟨w.heap.size, j, none⟩ = false := by
  have hz : w.heap.size = w.drew.heap.size := rfl
  refine ⟨_, _, run_bytes_of_string (P := Try.prog) w 9 40 5 (mkS l) Try.underlying9 Try.underlying40 Try.underlying5, grownCap_ge _ _ _ _, ⟨rfl, rfl, rfl, by simp, fun k hk => heap_alloc_old w.drew _ hk⟩, fun j hj => ?_, fun j hj => ?_⟩
  · rw [cell_of_row (w.drew.alloc _) w.heap.size j _ _ _ (by rw [hz]; exact heap_alloc_new w.drew _)]
    unfold bytesRow
    rw [Array.getElem?_append_left (by simpa [mkS] using hj)]
    simp [mkS, hj]
  · have hsz : j < (bytesRow (mkS l) (grownCap w (mkS l).size 0 5)).size := by
      unfold bytesRow
      simp [mkS]
      omega
    unfold World.frozen?
    rw [hz, heap_alloc_new w.drew _]
    simp only
    have : ∀ n : Nat, j < n → (decide (n ≤ j) && decide (j < n + 1)) = false := fun n hn => by simp; omega
    exact this _ hsz
theorem numW_zero (b : Nat) : numW b [] = 0 := rfl
set_option maxHeartbeats 1600000 in
theorem number_any (l : List UInt8) (b : Nat) (w : World) (hl : l.length < 1099511627776) :
    Calls Try.prog 19 #[.string (mkS l), .int .u64 (b : Int)] w fun e w' => e = .returned (.int .u64 ((numW b l : Nat) : Int)) ∧ Below w.heap.size w w' := by
  obtain ⟨c, W, hcv, hlc, kW, hcl, _⟩ := bytes_of w l
  obtain ⟨g, hg⟩ : ∃ g, g = w.heap.size := ⟨_, rfl⟩
  obtain ⟨n, hn⟩ : ∃ n, n = l.length := ⟨_, rfl⟩
  have hn40 : n < 1099511627776 := by rw [hn]; exact hl
  rw [← hg] at hcv hcl
  rw [← hn] at hcv
  have HG := hide hg
  have HN := hide hn
  have HCL := hide hcl
  have KW := hide kW
  clear hg hn hcl kW hlc hl
  go_enter Try.func19, Try.ntmps19
  go_wp2_with fail
  go_loopw [5, 11] (fun v i wr => ∃ (j : Nat) (a : Nat), j ≤ n ∧ a < 18446744073709551616 ∧ i = .int .i64 (j : Int) ∧ v = .int .u64 (a : Int) ∧ Hid (a = numW b (l.take j)) ∧ Hid (wr = W)) (fun _ i _ => n - (intOf i).toNat)
  case atStart => exact ⟨0, 0, Nat.zero_le _, by omega, rfl, rfl, by simp [Hid, numW_zero], rfl⟩
  case round =>
    obtain ⟨j, a, hj, ha, rfl, rfl, hA, hW⟩ := hrel
    obtain rfl : wr = W := hW.out
    by_cases hlt : j < n
    · have hlt2 : j < l.length := by rw [← HN.out]; exact hlt
      have hc := HCL.out j hlt2
      obtain ⟨x, hx⟩ : ∃ x, x = l[j] := ⟨_, rfl⟩
      rw [← hx] at hc
      have hs := num_step a b (valD x)
      obtain ⟨d, hd⟩ : ∃ d, d = valD x := ⟨_, rfl⟩
      rw [← hd] at hs
      obtain ⟨z, hz⟩ : ∃ z, z = (a * b + d) % 18446744073709551616 := ⟨_, rfl⟩
      rw [← hz] at hs
      have hz64 : z < 18446744073709551616 := by rw [hz]; exact Nat.mod_lt _ (by omega)
      have HA2 : Hid (z = numW b (l.take (j + 1))) := by
        unfold Hid
        rw [numW_take b l j hlt2, ← hx, ← hd, ← hA.out, hz]
      have HD := hide hd
      have hV := hide (valueOf_any x wr)
      clear hz hx hd hlt2
      go_wp2_with fail
      refine hV.out.mono ?_
      rintro e w1 ⟨rfl, rfl⟩
      rw [← HD.out]
      go_wp2_with fail
      go_roundw
      case rel => exact ⟨j + 1, z, by omega, hz64, by go_num, rfl, HA2, hide trivial⟩
      case measure => simp [intOf]; omega
    · obtain rfl : j = n := by omega
      go_wp2_with fail
      go_ret
      rw [hA.out, HN.out, List.take_length]
      exact ⟨rfl, KW.out⟩
end Go.Proofs.Ytdchgjniepdhfaa
