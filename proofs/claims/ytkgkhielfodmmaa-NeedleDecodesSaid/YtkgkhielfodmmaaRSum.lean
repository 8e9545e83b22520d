/- The contract of the document's own sum, which goes by half bytes and a table: of any bytes it is the CRC, reckoned digit by digit. Condition: no row is longer than a slice may be. -/
import Derived.Test.YtkgkhielfodmmaaSum
namespace Go.Proofs.Ytkgkhielfodmmaa
open Go.RowKit
theorem crcStep_xor (a b : Nat) : crcStep (a ^^^ b) = crcStep a ^^^ crcStep b := by
  have h1 : (a ^^^ b) / 2 = a / 2 ^^^ b / 2 := Nat.xor_div_two_pow (n := 1)
  have h2 : (a ^^^ b) % 2 = (a % 2) ^^^ (b % 2) := Nat.xor_mod_two_pow (n := 1)
  unfold crcStep
  rw [h1, h2]
  rcases Nat.mod_two_eq_zero_or_one a with ha | ha <;> rcases Nat.mod_two_eq_zero_or_one b with hb | hb <;> rw [ha, hb]
  · rfl
  · show (a / 2 ^^^ b / 2) ^^^ 3988292384 = a / 2 ^^^ (b / 2 ^^^ 3988292384)
    rw [Nat.xor_assoc]
  · show (a / 2 ^^^ b / 2) ^^^ 3988292384 = (a / 2 ^^^ 3988292384) ^^^ b / 2
    rw [Nat.xor_assoc, Nat.xor_assoc, Nat.xor_comm (b / 2)]
  · show a / 2 ^^^ b / 2 = (a / 2 ^^^ 3988292384) ^^^ (b / 2 ^^^ 3988292384)
    rw [Nat.xor_comm (b / 2) 3988292384, Nat.xor_assoc, ← Nat.xor_assoc 3988292384, Nat.xor_self, Nat.zero_xor]
theorem crcB_xor (a b : Nat) : ∀ k, crcB (a ^^^ b) k = crcB a k ^^^ crcB b k
  | 0 => rfl
  | k + 1 => by
    show crcStep (crcB (a ^^^ b) k) = crcStep (crcB a k) ^^^ crcStep (crcB b k)
    rw [crcB_xor a b k, crcStep_xor]
theorem crcStep_twice (q : Nat) : crcStep (2 * q) = q := by
  unfold crcStep
  rw [if_neg (by omega)]
  omega
theorem crcB_16 (q : Nat) : crcB (16 * q) 4 = q := by
  show crcStep (crcStep (crcStep (crcStep (16 * q)))) = q
  have e1 : 16 * q = 2 * (2 * (2 * (2 * q))) := by omega
  rw [e1, crcStep_twice, crcStep_twice, crcStep_twice, crcStep_twice]
theorem half_byte (s : Nat) : crcB s 4 = s / 16 ^^^ crcB (s % 16) 4 := by
  have e : (16 * (s / 16)) ^^^ (s % 16) = s := by
    obtain ⟨t, ht⟩ : ∃ t, t = (16 * (s / 16)) ^^^ (s % 16) := ⟨_, rfl⟩
    have h1 : t / 16 = (16 * (s / 16)) / 16 ^^^ (s % 16) / 16 := by rw [ht]; exact Nat.xor_div_two_pow (n := 4)
    have h2 : t % 16 = (16 * (s / 16)) % 16 ^^^ (s % 16) % 16 := by rw [ht]; exact Nat.xor_mod_two_pow (n := 4)
    have e1 : (16 * (s / 16)) / 16 = s / 16 := by omega
    have e2 : (s % 16) / 16 = 0 := by omega
    have e3 : (16 * (s / 16)) % 16 = 0 := by omega
    have e4 : (s % 16) % 16 = s % 16 := by omega
    rw [e1, e2, Nat.xor_zero] at h1
    rw [e3, e4, Nat.zero_xor] at h2
    rw [← ht]
    omega
  have h := crcB_xor (16 * (s / 16)) (s % 16) 4
  rw [e, crcB_16] at h
  exact h
theorem half_walk (s q m : Nat) (hs : s < 4294967296) (hq : q = s / 16) (hm : m = s % 16) : bits .xor .u32 (q : Int) ((crcB m 4 : Nat) : Int) = ((crcB s 4 : Nat) : Int) := by
  rw [half_byte s, ← hq, ← hm]
  exact xor32 _ _ (by omega) (crcB_lt (by omega) 4)
theorem crcStep_odd (t : Nat) (h : t % 2 = 1) (ht : t < 4294967296) : bits .xor .u32 ((t : Int) / 2) 3988292384 = ((crcStep t : Nat) : Int) := half_poly t ht h
theorem crcStep_even (t : Nat) (h : t % 2 = 0) : (t : Int) / 2 = ((crcStep t : Nat) : Int) := by
  unfold crcStep
  rw [if_neg (by omega)]
  simp
set_option maxHeartbeats 400000 in
theorem digit_any (n : Nat) (w : World) (hn : n < 4294967296) :
    Calls Try.prog 34 #[.int .u32 (n : Int)] w fun e w' => e = .returned (.int .u32 (crcB n 4 : Nat)) ∧ w = w' := by
  have HNN : Hid (n < 4294967296) := hide hn
  clear hn
  go_enter Try.func34, Try.ntmps34
  go_wp2
  go_loop [0, 3] (fun t i => ∃ j : Nat, j ≤ 4 ∧ i = .int .i64 (j : Int) ∧ t = .int .u32 (crcB n j : Nat)) (fun _ i => 4 - (intOf i).toNat)
  case atStart => exact ⟨0, Nat.zero_le _, rfl, rfl⟩
  case round =>
    obtain ⟨j, hj, rfl, rfl⟩ := hrel
    have ht := crcB_lt HNN.out j
    by_cases hlt : j < 4
    · have hst : crcB n (j + 1) = crcStep (crcB n j) := rfl
      obtain ⟨t, hte⟩ : ∃ t, t = crcB n j := ⟨_, rfl⟩
      rw [← hte] at ht hst ⊢
      have HST := hide hst
      clear hst hte
      by_cases hodd : t % 2 = 1
      · have h2 := crcStep_odd t hodd ht
        go_wp2
        go_round
        case rel => exact ⟨j + 1, by omega, by go_num, by rw [HST.out]⟩
        case measure => simp [intOf]; omega
      · have h0 : t % 2 = 0 := by omega
        have H2 := hide (crcStep_even t h0)
        clear hodd
        go_wp2
        go_round
        case rel => exact ⟨j + 1, by omega, by go_num, by rw [HST.out, H2.out]⟩
        case measure => simp [intOf]; omega
    · obtain rfl : j = 4 := by omega
      go_wp2
      go_ret
      exact ⟨rfl, rfl⟩
/-- A block of cells that the call made, as a table. -/
def Tab (w : World) (g : Nat) (e : TypeId) (n : Nat) (f : Nat → Value) (k : Nat) : Prop := ∃ cur, cur.size = n ∧ w.heap[g]? = some (.cells cur e (0, 0)) ∧ ∀ j, j < k → cur[j]? = some (f j)
theorem Tab.cell {w : World} {g : Nat} {e : TypeId} {n k : Nat} {f : Nat → Value} (h : Tab w g e n f k) {j : Nat} (hj : j < k) : w.cell? ⟨g, j, none⟩ = some (f j) := by
  obtain ⟨cur, _, hg, hc⟩ := h
  rw [cell_of_row w g j cur e (0, 0) hg]
  exact hc j hj
theorem Tab.some_ {w : World} {g : Nat} {e : TypeId} {n k : Nat} {f : Nat → Value} (h : Tab w g e n f k) {j : Nat} (hj : j < n) : ∃ v, w.cell? ⟨g, j, none⟩ = some v := by
  obtain ⟨cur, hs, hg, _⟩ := h
  refine ⟨cur[j]'(by omega), ?_⟩
  rw [cell_of_row w g j cur e (0, 0) hg]
  simp
theorem Tab.frozen {w : World} {g : Nat} {e : TypeId} {n k : Nat} {f : Nat → Value} (h : Tab w g e n f k) (j : Nat) : w.frozen? ⟨g, j, none⟩ = false := by
  obtain ⟨cur, _, hg, _⟩ := h
  exact frozen_of_row w g j cur e hg
theorem Tab.lt {w : World} {g : Nat} {e : TypeId} {n k : Nat} {f : Nat → Value} (h : Tab w g e n f k) : g < w.heap.size := by
  obtain ⟨cur, _, hg, _⟩ := h
  rcases Nat.lt_or_ge g w.heap.size with hlt | hge
  · exact hlt
  · simp [Array.getElem?_eq_none hge] at hg
theorem Tab.set {w : World} {g : Nat} {e : TypeId} {n k : Nat} {f : Nat → Value} (h : Tab w g e n f k) (hk : k < n) : Tab (w.setCell ⟨g, k, none⟩ (f k)) g e n f (k + 1) := by
  obtain ⟨cur, hs, hg, hc⟩ := h
  refine ⟨cur.setIfInBounds k (f k), by simpa using hs, heap_setCell_same w g k cur e (f k) hg, fun j hj => ?_⟩
  by_cases hjk : k = j
  · subst hjk
    simp [hs, hk]
  · rw [Array.getElem?_setIfInBounds, if_neg hjk]
    exact hc j (by omega)
theorem Tab.new (w : World) (cs : Array Value) (e : TypeId) (n g : Nat) (f : Nat → Value) (hs : cs.size = n) (hg : g = w.heap.size) : Tab (w.alloc (.cells cs e)) g e n f 0 := by
  subst hg
  exact ⟨cs, hs, heap_alloc_new w _, fun j hj => absurd hj (by omega)⟩
set_option maxHeartbeats 1600000 in
set_option maxRecDepth 100000 in
theorem rsum_any (A : Option Addr) (n ca : Nat) (xs : List Nat) (w : World) (hA : Rd w A xs) (hn : n = xs.length) (hb : ∀ x ∈ xs, x < 256) (ln : n ≤ 9223372036854775807) :
    Calls Try.prog 25 #[.slice A n ca] w fun e w' => e = .returned (.int .u32 (sumS xs : Nat)) ∧ Below w.heap.size w w' := by
  have HN := hide hn
  have HA := hide hA
  have HB := hide hb
  clear hn hA hb
  go_enter Try.func25, Try.ntmps25
  go_wp2
  go_loopw [4] (fun i wr => ∃ k : Nat, k ≤ 16 ∧ i = .int .i64 (k : Int) ∧ Hid (Tab wr w.heap.size 60 16 (fun j => .int .u32 (crcB j 4 : Nat)) k) ∧ Hid (Below w.heap.size w wr)) (fun i _ => 16 - (intOf i).toNat)
  case atStart => exact ⟨0, Nat.zero_le _, rfl, Tab.new _ _ _ _ _ _ rfl rfl, (Below.refl _ _).alloc (Nat.le_refl _) _⟩
  case round =>
    obtain ⟨k, hk, rfl, htab, hbel⟩ := hrel
    by_cases hlt : k < 16
    · obtain ⟨v, ck⟩ := htab.out.some_ hlt
      have fk := htab.out.frozen k
      have T2 := hide (htab.out.set hlt)
      have B2 := hide (show Below w.heap.size w (wr.setCell ⟨w.heap.size, k, none⟩ (.int .u32 (crcB k 4 : Nat))) from hbel.out.setCell (Nat.le_refl _) _)
      go_wp2_with fail
      refine (digit_any k _ (by omega)).mono ?_
      rintro e w1 ⟨rfl, rfl⟩
      go_wp2_with fail
      go_roundw
      case rel => exact ⟨k + 1, by omega, by go_num, T2, B2⟩
      case measure => simp [intOf]; omega
    · obtain rfl : k = 16 := by omega
      have HA2 := hide (HA.out.below hbel.out)
      clear HA hlt
      go_wp2_with fail
      go_loop [5, 6] (fun s i => ∃ k : Nat, k ≤ n ∧ i = .int .i64 (k : Int) ∧ s = .int .u32 (crcF 4294967295 (xs.take k) : Nat)) (fun _ i => n - (intOf i).toNat)
      case atStart => exact ⟨0, Nat.zero_le _, rfl, rfl⟩
      case round =>
        obtain ⟨k, hk, rfl, rfl⟩ := hrel
        have hs := crcF_lt (s := 4294967295) (by decide) (xs := xs.take k) (fun x hx => HB.out x (List.mem_of_mem_take hx))
        by_cases hlt : k < n
        · obtain ⟨b1, o1, rfl, c1⟩ := HA2.out (by intro e; rw [HN.out, e] at hlt; simp at hlt)
          obtain ⟨x, k1, hx, ex⟩ := rd_at c1 HB.out k (by rw [← HN.out]; exact hlt)
          have hsn := crcF_snoc 4294967295 xs k (by rw [← HN.out]; exact hlt)
          obtain ⟨s, hse⟩ : ∃ s, s = crcF 4294967295 (xs.take k) := ⟨_, rfl⟩
          rw [← ex] at hsn
          rw [← hse] at hs hsn ⊢
          have HSN := hide hsn
          clear hsn ex hse c1
          have hxor := xor32 s x hs (by omega)
          have hs1 := xor_lt32 hs (show x < 4294967296 by omega)
          obtain ⟨s1, hs1e⟩ : ∃ s1, s1 = s ^^^ x := ⟨_, rfl⟩
          rw [← hs1e] at hxor hs1
          obtain ⟨q1, hq1⟩ : ∃ q1, q1 = s1 / 16 := ⟨_, rfl⟩
          obtain ⟨m1, hm1⟩ : ∃ m1, m1 = s1 % 16 := ⟨_, rfl⟩
          have x1 := half_walk s1 q1 m1 hs1 hq1 hm1
          have d1 : (s1 : Int) / 16 = (q1 : Int) := by omega
          have r1 : (s1 : Int) % 16 = (m1 : Int) := by omega
          have t1 := htab.out.cell (j := m1) (by omega)
          have hs2 := crcB_lt hs1 4
          have h8 : crcB s1 8 = crcB (crcB s1 4) 4 := rfl
          obtain ⟨s2, hs2e⟩ : ∃ s2, s2 = crcB s1 4 := ⟨_, rfl⟩
          rw [← hs2e] at x1 hs2 h8
          obtain ⟨q2, hq2⟩ : ∃ q2, q2 = s2 / 16 := ⟨_, rfl⟩
          obtain ⟨m2, hm2⟩ : ∃ m2, m2 = s2 % 16 := ⟨_, rfl⟩
          have x2 := half_walk s2 q2 m2 hs2 hq2 hm2
          have d2 : (s2 : Int) / 16 = (q2 : Int) := by omega
          have r2 : (s2 : Int) % 16 = (m2 : Int) := by omega
          have t2 := htab.out.cell (j := m2) (by omega)
          have l1 : m1 < 16 := by omega
          have l2 : m2 < 16 := by omega
          have H8 := hide h8
          have HS1 := hide hs1e
          clear h8 hs1e hs2e hq1 hm1 hq2 hm2
          go_wp2_with fail
          go_round
          case rel => exact ⟨k + 1, by omega, by go_num, by rw [HSN.out, ← HS1.out, H8.out]⟩
          case measure => simp [intOf]; omega
        · have he : xs.take k = xs := List.take_of_length_le (by rw [← HN.out]; omega)
          rw [he] at hs ⊢
          have hnot := not32 (crcF 4294967295 xs) hs
          have hsum : sumS xs = 4294967295 - crcF 4294967295 xs := rfl
          rw [← hsum] at hnot
          have hsig : IntKind.u32.signed = false := rfl
          clear hsum he
          go_wp2_with fail
          go_ret
          exact ⟨rfl, hbel.out⟩
end Go.Proofs.Ytkgkhielfodmmaa
