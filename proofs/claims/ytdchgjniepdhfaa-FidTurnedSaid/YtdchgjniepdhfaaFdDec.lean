/- The contracts of fid's inDecimal and inHex. Conditions: the numbers have no more digits than there are places. -/
import Derived.Test.YtdchgjniepdhfaaFdCut
import Derived.Test.YtdchgjniepdhfaaBlk
import Derived.Test.YtdchgjniepdhfaaHeldT
import Derived.Test.YtdchgjniepdhfaaLastOp
namespace Go.Proofs.Ytdchgjniepdhfaa
open Go.RowKit
theorem fixd_cons (b : Nat) : ∀ j n, fixd b (j + 1) n = hexd (n / b ^ j % b) :: fixd b j n
  | 0, n => by simp [fixd]
  | j + 1, n => by
    rw [fixd, fixd_cons b j (n / b), Nat.div_div_eq_div_mul]
    rw [show b * b ^ j = b ^ (j + 1) from by rw [Nat.pow_succ, Nat.mul_comm]]
    rfl
/-- The row of N bytes behind j rounds. -/
def arrV (b N j n : Nat) : List Value := (List.replicate (N - j) (Value.int .u8 0)) ++ (fixd b j n).map fun x : UInt8 => Value.int .u8 (x.toNat : Int)
theorem arrV_len (b N j n : Nat) (h : j ≤ N) : (arrV b N j n).length = N := by
  unfold arrV
  rw [List.length_append, List.length_replicate, List.length_map, fixd_len]
  omega
theorem arrV_set (b N j n : Nat) (h : j < N) : (arrV b N j n).set (N - 1 - j) (.int .u8 (((hexd (n / b ^ j % b)).toNat : Nat) : Int)) = arrV b N (j + 1) n := by
  unfold arrV
  rw [fixd_cons, List.map_cons]
  have e : N - j = (N - (j + 1)) + 1 := by omega
  rw [e, List.replicate_succ', List.append_assoc, List.set_append_right _ _ (by rw [List.length_replicate]; omega), List.length_replicate]
  have e2 : N - 1 - j - (N - (j + 1)) = 0 := by omega
  rw [e2]
  rfl
theorem arrV_at (b N j n i : Nat) (hj : j ≤ N) (hi : i < N) : ∃ x : Nat, (arrV b N j n)[i]? = some (.int .u8 (x : Int)) := by
  unfold arrV
  by_cases h : i < N - j
  · exact ⟨0, by rw [List.getElem?_append_left (by rw [List.length_replicate]; exact h), List.getElem?_replicate, if_pos h]; rfl⟩
  · refine ⟨((fixd b j n).getD (i - (N - j)) 0).toNat, ?_⟩
    rw [List.getElem?_append_right (by rw [List.length_replicate]; omega), List.length_replicate, List.getElem?_map]
    have : i - (N - j) < (fixd b j n).length := by rw [fixd_len]; omega
    simp [List.getD, List.getElem?_eq_getElem this]
theorem arrV_tail (b N j n q : Nat) (hq : q < j) : (arrV b N j n)[(N - j) + q]? = some (.int .u8 ((((fixd b j n)[q]?.getD 0).toNat : Nat) : Int)) := by
  unfold arrV
  rw [List.getElem?_append_right (by rw [List.length_replicate]; omega), List.length_replicate, List.getElem?_map]
  have e : N - j + q - (N - j) = q := by omega
  have : q < (fixd b j n).length := by rw [fixd_len]; omega
  rw [e]
  simp [List.getElem?_eq_getElem this]
theorem ndF_eq (b : Nat) (hb : 1 < b) (f n j : Nat) (hj : j ≤ f) (h1 : n < b ^ j) (h2 : 1 ≤ j → b ^ (j - 1) ≤ n) : ndF b f n = j := by
  have h3 : n < b ^ f := Nat.lt_of_lt_of_le h1 (Nat.pow_le_pow_right (by omega) hj)
  have h4 := ndF_lt b (by omega) f n h3
  by_cases h0 : n = 0
  · subst h0
    have h5 : ndF b f 0 = 0 := by cases f <;> simp [ndF]
    rw [h5]
    by_cases hz : 1 ≤ j
    · have := h2 hz
      have h6 : 0 < b ^ (j - 1) := Nat.pow_pos (by omega)
      omega
    · omega
  · obtain ⟨h5, h6⟩ := ndF_ge b (by omega) f n (by omega) h3
    rcases Nat.lt_trichotomy (ndF b f n) j with h | h | h
    · have h7 := h2 (by omega)
      have h8 : b ^ ndF b f n ≤ b ^ (j - 1) := Nat.pow_le_pow_right (by omega) (by omega)
      omega
    · exact h
    · have h8 : b ^ j ≤ b ^ (ndF b f n - 1) := Nat.pow_le_pow_right (by omega) (by omega)
      omega
/-- The digits that stand in the text. -/
def digT : ByteArray := ⟨#[48, 49, 50, 51, 52, 53, 54, 55, 56, 57, 97, 98, 99, 100, 101, 102]⟩
theorem digT_at : ∀ i : Fin 16, digT[i.val]'(Nat.lt_of_lt_of_eq i.isLt rfl) = hexd i.val := by decide +kernel
theorem dig_at (i : Nat) (h : i < 16) : (⟨#[48, 49, 50, 51, 52, 53, 54, 55, 56, 57, 97, 98, 99, 100, 101, 102]⟩ : ByteArray)[i]'h = hexd i := digT_at ⟨i, h⟩
set_option maxRecDepth 100000 in
set_option maxHeartbeats 1600000 in
theorem indec_any (n : Nat) (w : World) (h0 : 1 ≤ n) (hn : n ≤ 99999999) :
    Calls Try.prog 14 #[.int .i64 (n : Int)] w fun e w' => e = .returned (.string (mkS (vL n))) ∧ Below w.heap.size w w' := by
  go_enter Try.func14, Try.ntmps14
  go_wp2_with fail
  have ka := below_alloc w (.cells #[.int .u8 0, .int .u8 0, .int .u8 0, .int .u8 0, .int .u8 0, .int .u8 0, .int .u8 0, .int .u8 0] 51)
  have b0 : Blk (w.alloc (.cells #[.int .u8 0, .int .u8 0, .int .u8 0, .int .u8 0, .int .u8 0, .int .u8 0, .int .u8 0, .int .u8 0] 51)) 0 51 w.heap.size (arrV 10 8 0 n) := Blk.new w 51 #[.int .u8 0, .int .u8 0, .int .u8 0, .int .u8 0, .int .u8 0, .int .u8 0, .int .u8 0, .int .u8 0] (Nat.zero_le _)
  have KA := hide ka
  have B0 := hide b0
  obtain ⟨b, hb⟩ : ∃ b, b = w.heap.size := ⟨_, rfl⟩
  rw [← hb] at B0 ⊢
  have HB := hide hb
  clear ka b0 hb
  have HN := hide hn
  have H0 := hide h0
  clear hn h0
  go_loopw [0, 4] (fun m i7 wr => ∃ (j k : Nat), j ≤ 8 ∧ m = .int .i64 (k : Int) ∧ k ≤ 99999999 ∧ i7 = .int .i64 ((8 - j : Nat) : Int) ∧ Hid (k = n / 10 ^ j) ∧ Hid (j = 0 ∨ 10 ^ (j - 1) ≤ n) ∧ Hid (Blk wr 0 51 b (arrV 10 8 j n)) ∧ Hid (Below w.heap.size w wr)) (fun _ i7 _ => (intOf i7).toNat)
  case atStart => exact ⟨0, n, Nat.zero_le _, rfl, HN.out, by rfl, by simp [Hid], by simp [Hid], B0.out, KA.out⟩
  case round =>
    obtain ⟨j, k, hj, rfl, hk, rfl, hK, hJ, hR, hB⟩ := hrel
    by_cases hlt : 0 < k
    · have hj8 : j < 8 := by
        have h1 := hK.out
        have h2 := HN.out
        apply Nat.lt_of_not_le
        intro h3
        obtain rfl : j = 8 := by omega
        omega
      obtain ⟨p, hp⟩ : ∃ p, p = 8 - j := ⟨_, rfl⟩
      obtain ⟨q, hq⟩ : ∃ q, q = 7 - j := ⟨_, rfl⟩
      rw [← hp]
      have hsub : (p : Int) - 1 = (q : Int) := by omega
      have hp8 : p ≤ 8 := by omega
      obtain ⟨x, hx⟩ := arrV_at 10 8 j n q (by omega) (by omega)
      have hc := hR.out.cell q
      rw [hx] at hc
      have hf := hR.out.frozen q
      have hq8 : (q : Int) < 8 := by omega
      have hP := hide hp
      have hQ := hide hq
      have hJ8 := hide hj8
      clear hx hq hp
      have h16 : k % 10 < 16 := by omega
      have hdg := dig_at (k % 10) h16
      have HD := hide hdg
      clear hdg
      have hneg : ¬ (k % 10 ≥ 16) := by omega
      go_wp2_with fail
      go_roundw
      case rel =>
        rw [HD.out]
        have h3 := hK.out
        have hset := arrV_set 10 8 j n hJ8.out
        have h7 : 8 - 1 - j = q := by rw [hQ.out]
        rw [h7, ← h3] at hset
        refine ⟨j + 1, k / 10, hJ8.out, by go_num, by omega, by rw [hQ.out, show 7 - j = 8 - (j + 1) from by omega], ?_, ?_, ?_, ?_⟩
        · unfold Hid
          rw [h3, Nat.div_div_eq_div_mul, Nat.pow_succ]
        · unfold Hid
          refine .inr ?_
          rw [Nat.add_sub_cancel]
          have h4 : 0 < n / 10 ^ j := by omega
          exact (Nat.div_pos_iff.1 h4).2
        · have := hR.out.stored q (.int .u8 (((hexd (k % 10)).toNat : Nat) : Int))
          rw [hset] at this
          exact this
        · exact hB.out.setCell (p := ⟨b, q, none⟩) (by rw [HB.out]; exact Nat.le_refl _) _
      case measure => simp [intOf]; omega
    · obtain rfl : k = 0 := by omega
      have hj1 : 1 ≤ j := by
        have h1 := hK.out
        have h2 := H0.out
        apply Nat.lt_of_not_le
        intro h3
        obtain rfl : j = 0 := by omega
        simp at h1
        omega
      have hnd : ndF 10 8 n = j := ndF_eq 10 (by omega) 8 n j hj (by
        have h1 := hK.out
        have h2 : n < 10 ^ j ∨ 10 ^ j ≤ n := Nat.lt_or_ge _ _
        rcases h2 with h2 | h2
        · exact h2
        · have := Nat.div_pos h2 (Nat.pow_pos (by omega))
          omega) (by
        rcases hJ.out with h | h
        · omega
        · exact fun _ => h)
      have hvl : vL n = fixd 10 j n := by unfold vL; rw [hnd]
      obtain ⟨p, hp⟩ : ∃ p, p = 8 - j := ⟨_, rfl⟩
      rw [← hp]
      have HV := hide hvl
      have HN2 := hide hnd
      have h8 : p < 8 := by omega
      have hI : (p : Int) < 8 := by omega
      have hle : (p : Int) ≤ 8 := by omega
      have cv1 : (convert 40 9 (.slice (some ⟨b, p, none⟩) (8 - p) (8 - p))).run Try.prog wr = .ok (.string (mkS (fixd 10 j n))) wr := by
        have h := run_convert_bytes_back (P := Try.prog) wr 40 9 5 ⟨b, p, none⟩ (8 - p) (fixd 10 j n) Try.underlying40 Try.underlying5 Try.underlying9 (fun q hq => by
          have hq' := hq
          rw [fixd_len] at hq'
          have ea : Addr.add ⟨b, p, none⟩ q = ⟨b, p + q, none⟩ := by rw [add_off]
          have hc := hR.out.cell (p + q)
          rw [ea]
          show wr.cell? ⟨b, p + q, none⟩ = _
          rw [hc, hp, arrV_tail 10 8 j n q hq']
          simp [List.getElem?_eq_getElem hq])
        rw [fixd_len] at h
        have : 8 - p = j := by omega
        rw [this] at h ⊢
        exact h
      clear hp hvl hnd
      go_wp2_with fail
      go_ret
      rw [HV.out]
      exact ⟨rfl, hB.out⟩
end Go.Proofs.Ytdchgjniepdhfaa
