/- The contract of volume.Name. No condition. -/
import Derived.Test.YtehgjkckhjggbaaVr13
import Derived.Test.YtehgjkckhjggbaaVr18
import Derived.Test.YtehgjkckhjggbaaVr5
import Derived.Test.YtehgjkckhjggbaaVr3
namespace Go.Proofs.Ytehgjkckhjggbaa
open Go.RowKit Go.Maps
/-- The row of eight bytes. -/
def rowV (j n : Nat) : List Value := (fillV j n).map fun x : Nat => Value.int .u8 (x : Int)
theorem rowV_set (j n : Nat) (h : j < 8) : (rowV j n).set (7 - j) (.int .u8 ((48 + n / 10 ^ j % 10 : Nat) : Int)) = rowV (j + 1) n := by
  unfold rowV
  rw [← fillV_step j n h, List.map_set]
theorem rowV_at (j n i : Nat) (hj : j ≤ 8) (hi : i < 8) : ∃ x : Nat, (rowV j n)[i]? = some (.int .u8 (x : Int)) := by
  have h : i < (fillV j n).length := by rw [fillV_len j n hj]; exact hi
  exact ⟨(fillV j n)[i], by unfold rowV; simp [h]⟩
theorem vname_bad (z : Int) (w : World) (hz : z < 0 ∨ 99999999 < z) :
    Calls Try.prog 20 #[.int .i64 z] w fun e w' => e = .returned (.string ⟨#[]⟩) ∧ w = w' := by
  rcases hz with hz | hz
  · go_enter Try.func20, Try.ntmps20
    go_wp2_with fail
    go_ret
    exact ⟨rfl, rfl⟩
  · have hz0 : ¬ z < 0 := by omega
    go_enter Try.func20, Try.ntmps20
    go_wp2_with fail
    go_ret
    exact ⟨rfl, rfl⟩
set_option maxRecDepth 100000 in
set_option maxHeartbeats 3200000 in
theorem vname_any (n : Nat) (w : World) (hn : n ≤ 99999999) :
    Calls Try.prog 20 #[.int .i64 (n : Int)] w fun e w' => e = .returned (.string (nameV n)) ∧ Below w.heap.size w w' := by
  have h1 : ¬ (n : Int) < 0 := by omega
  have h2 : ¬ (99999999 : Int) < (n : Int) := by omega
  go_enter Try.func20, Try.ntmps20
  go_wp2_with fail
  have ka := below_alloc w (.cells #[.int .u8 0, .int .u8 0, .int .u8 0, .int .u8 0, .int .u8 0, .int .u8 0, .int .u8 0, .int .u8 0] 75)
  have b0 : Blk (w.alloc (.cells #[.int .u8 0, .int .u8 0, .int .u8 0, .int .u8 0, .int .u8 0, .int .u8 0, .int .u8 0, .int .u8 0] 75)) 0 75 w.heap.size (rowV 0 n) := Blk.new w 75 #[.int .u8 0, .int .u8 0, .int .u8 0, .int .u8 0, .int .u8 0, .int .u8 0, .int .u8 0, .int .u8 0] (Nat.zero_le _)
  have KA := hide ka
  have B0 := hide b0
  obtain ⟨b, hb⟩ : ∃ b, b = w.heap.size := ⟨_, rfl⟩
  rw [← hb] at B0 ⊢
  have HB := hide hb
  have HN := hide hn
  clear ka b0 hb h1 h2
  go_loopw [0, 11] (fun m i7 wr => ∃ (j k : Nat), j ≤ 8 ∧ m = .int .i64 (k : Int) ∧ k ≤ 99999999 ∧ i7 = .int .i64 (j : Int) ∧ Hid (k = n / 10 ^ j) ∧ Hid (Blk wr 0 75 b (rowV j n)) ∧ Hid (Below w.heap.size w wr)) (fun _ i7 _ => 8 - (intOf i7).toNat)
  case atStart => exact ⟨0, n, Nat.zero_le _, rfl, hn, rfl, by simp [Hid], B0.out, KA.out⟩
  case round =>
    obtain ⟨j, k, hj, rfl, hk, rfl, hK, hR, hB⟩ := hrel
    by_cases hlt : j < 8
    · obtain ⟨q, hq⟩ : ∃ q, q = 7 - j := ⟨_, rfl⟩
      have hsub : (7 : Int) - (j : Int) = (q : Int) := by omega
      obtain ⟨x, hx⟩ := rowV_at j n q (by omega) (by omega)
      have hc := hR.out.cell q
      rw [hx] at hc
      have hf := hR.out.frozen q
      have hq8 : (q : Int) < 8 := by omega
      have hdig : IntKind.u8.wrap (48 + (k : Int) % 10) = ((48 + k % 10 : Nat) : Int) := by rw [IntKind.wrap_u8]; omega
      have HK2 : Hid (k / 10 = n / 10 ^ (j + 1)) := by
        unfold Hid
        rw [hK.out, Nat.div_div_eq_div_mul, Nat.pow_succ]
      have HR2 : Hid (Blk (wr.setCell ⟨b, q, none⟩ (.int .u8 ((48 + k % 10 : Nat) : Int))) 0 75 b (rowV (j + 1) n)) := by
        have := hR.out.stored q (.int .u8 ((48 + k % 10 : Nat) : Int))
        rw [hK.out, hq, rowV_set j n hlt, ← hK.out, ← hq] at this
        exact this
      have HB2 := hide (hB.out.setCell (p := ⟨b, q, none⟩) (by rw [HB.out]; exact Nat.le_refl _) (.int .u8 ((48 + k % 10 : Nat) : Int)))
      clear hx hq
      go_wp2_with fail
      go_roundw
      case rel =>
        have e : (48 + (k : Int) % 10) = ((48 + k % 10 : Nat) : Int) := by omega
        exact ⟨j + 1, k / 10, by omega, by go_num, by omega, by go_num, HK2, by rw [e]; exact HR2.out, by rw [e]; exact HB2.out⟩
      case measure => simp [intOf]; omega
    · obtain rfl : j = 8 := by omega
      obtain ⟨u, hu⟩ : ∃ u : ByteArray, u = ⟨(digV 8 n).toArray⟩ := ⟨_, rfl⟩
      have hud : u.data.toList = digV 8 n := by rw [hu]
      have hu8 : u.size = 8 := by
        have h1 : u.data.toList.length = u.size := rfl
        rw [hud, digV_len] at h1
        exact h1.symm
      have cv1 : (convert 23 9 (.slice (some ⟨b, 0, none⟩) 8 8)).run Try.prog wr = .ok (.string u) wr := by
        have h := run_convert_bytes_back (P := Try.prog) wr 23 9 5 ⟨b, 0, none⟩ 8 (digV 8 n) Try.underlying23 Try.underlying5 Try.underlying9 (fun j hj => by
          have ea : Addr.add ⟨b, 0, none⟩ j = ⟨b, j, none⟩ := by rw [add_off, Nat.zero_add]
          have hc := hR.out.cell j
          rw [ea]
          show wr.cell? ⟨b, j, none⟩ = _
          rw [hc]
          unfold rowV
          rw [fillV_all]
          simp [hj])
        rw [digV_len] at h
        rw [hu]
        exact h
      have HU := hide hud
      have h118 : (⟨#[118]⟩ : ByteArray).size = 1 := rfl
      clear hu hud
      go_wp2_with fail
      go_ret
      have e : ((⟨#[118]⟩ : ByteArray) ++ u) ++ ⟨#[46, 100, 97, 116]⟩ = nameV n := by
        apply ByteArray.ext
        apply Array.ext'
        rw [ByteArray.data_append, Array.toList_append, ByteArray.data_append, Array.toList_append, HU.out]
        rfl
      rw [e]
      exact ⟨rfl, hB.out⟩
end Go.Proofs.Ytehgjkckhjggbaa
