/- The contract of the document's own sum, which goes by half bytes and a table: of any bytes it is the CRC, reckoned digit by digit. Condition: no row is longer than a slice may be. Four bytes, the highest first: the contract of the document's own Put32. Conditions: the widths. The contract of the document's own Get32, of four bytes that are there. Condition: no row is longer than a slice may be. The contract of the law's own comparison: whether two rows of bytes are the same. Condition: no row is longer than a slice may be. The contracts of the law's own 'roomy' and 'stands': bytes in a list of their own with a marked room behind them. Condition: there are at most 1000000 bytes. The contract of the law's own 'roomy', with whose memory it answers: a list of the call's own. Condition: there are at most 1000000 bytes. The contract of the law's own 'spoil': bytes of the call's own are written over and grown. Condition: there are fewer than 2 to the 40 bytes. One byte turned into another one changes the sum. No conditions but the widths. -/
import Derived.Test.YtmledochidefeaaK4
namespace Go.Proofs.Ytmledochidefeaa
open Go.RowKit
theorem crcStep_xor (a b : Nat) : crcStep (a ^^^ b) = crcStep a ^^^ crcStep b := by
  have h1 : (a ^^^ b) / 2 = a / 2 ^^^ b / 2 := Nat.xor_div_two_pow (n := 1)
  have h2 : (a ^^^ b) % 2 = (a % 2) ^^^ (b % 2) := Nat.xor_mod_two_pow (n := 1)
  unfold crcStep
  rw [h1, h2]
  rcases Nat.mod_two_eq_zero_or_one a with ha | ha <;> rcases Nat.mod_two_eq_zero_or_one b with hb | hb <;> rw [ha, hb]
  · rfl
  · show (a / 2 ^^^ b / 2) ^^^ 3988292384 = a / 2 ^^^ (b / 2 ^^^ 3988292384)
    rw [Nat.xor_assoc]
  · show (a / 2 ^^^ b / 2) ^^^ 3988292384 = (a / 2 ^^^ 3988292384) ^^^ b / 2
    rw [Nat.xor_assoc, Nat.xor_assoc, Nat.xor_comm (b / 2)]
  · show a / 2 ^^^ b / 2 = (a / 2 ^^^ 3988292384) ^^^ (b / 2 ^^^ 3988292384)
    rw [Nat.xor_comm (b / 2) 3988292384, Nat.xor_assoc, ← Nat.xor_assoc 3988292384, Nat.xor_self, Nat.zero_xor]
theorem crcB_xor (a b : Nat) : ∀ k, crcB (a ^^^ b) k = crcB a k ^^^ crcB b k
  | 0 => rfl
  | k + 1 => by
    show crcStep (crcB (a ^^^ b) k) = crcStep (crcB a k) ^^^ crcStep (crcB b k)
    rw [crcB_xor a b k, crcStep_xor]
theorem crcStep_twice (q : Nat) : crcStep (2 * q) = q := by
  unfold crcStep
  rw [if_neg (by omega)]
  omega
theorem crcB_16 (q : Nat) : crcB (16 * q) 4 = q := by
  show crcStep (crcStep (crcStep (crcStep (16 * q)))) = q
  have e1 : 16 * q = 2 * (2 * (2 * (2 * q))) := by omega
  rw [e1, crcStep_twice, crcStep_twice, crcStep_twice, crcStep_twice]
theorem half_byte (s : Nat) : crcB s 4 = s / 16 ^^^ crcB (s % 16) 4 := by
  have e : (16 * (s / 16)) ^^^ (s % 16) = s := by
    obtain ⟨t, ht⟩ : ∃ t, t = (16 * (s / 16)) ^^^ (s % 16) := ⟨_, rfl⟩
    have h1 : t / 16 = (16 * (s / 16)) / 16 ^^^ (s % 16) / 16 := by rw [ht]; exact Nat.xor_div_two_pow (n := 4)
    have h2 : t % 16 = (16 * (s / 16)) % 16 ^^^ (s % 16) % 16 := by rw [ht]; exact Nat.xor_mod_two_pow (n := 4)
    have e1 : (16 * (s / 16)) / 16 = s / 16 := by omega
    have e2 : (s % 16) / 16 = 0 := by omega
    have e3 : (16 * (s / 16)) % 16 = 0 := by omega
    have e4 : (s % 16) % 16 = s % 16 := by omega
    rw [e1, e2, Nat.xor_zero] at h1
    rw [e3, e4, Nat.zero_xor] at h2
    rw [← ht]
    omega
  have h := crcB_xor (16 * (s / 16)) (s % 16) 4
  rw [e, crcB_16] at h
  exact h
theorem half_walk (s q m : Nat) (hs : s < 4294967296) (hq : q = s / 16) (hm : m = s % 16) : bits .xor .u32 (q : Int) ((crcB m 4 : Nat) : Int) = ((crcB s 4 : Nat) : Int) := by
  rw [half_byte s, ← hq, ← hm]
  exact xor32 _ _ (by omega) (crcB_lt (by omega) 4)
theorem crcStep_odd (t : Nat) (h : t % 2 = 1) (ht : t < 4294967296) : bits .xor .u32 ((t : Int) / 2) 3988292384 = ((crcStep t : Nat) : Int) := half_poly t ht h
theorem crcStep_even (t : Nat) (h : t % 2 = 0) : (t : Int) / 2 = ((crcStep t : Nat) : Int) := by
  unfold crcStep
  rw [if_neg (by omega)]
  simp
set_option maxHeartbeats 400000 in
theorem digit_any (n : Nat) (w : World) (hn : n < 4294967296) :
    Calls Try.prog 79 #[.int .u32 (n : Int)] w fun e w' => e = .returned (.int .u32 (crcB n 4 : Nat)) ∧ w = w' := by
  have HNN : Hid (n < 4294967296) := hide hn
  clear hn
  go_enter Try.func79, Try.ntmps79
  go_wp2
  go_loop [0, 3] (fun t i => ∃ j : Nat, j ≤ 4 ∧ i = .int .i64 (j : Int) ∧ t = .int .u32 (crcB n j : Nat)) (fun _ i => 4 - (intOf i).toNat)
  case atStart => exact ⟨0, Nat.zero_le _, rfl, rfl⟩
  case round =>
    obtain ⟨j, hj, rfl, rfl⟩ := hrel
    have ht := crcB_lt HNN.out j
    by_cases hlt : j < 4
    · have hst : crcB n (j + 1) = crcStep (crcB n j) := rfl
      obtain ⟨t, hte⟩ : ∃ t, t = crcB n j := ⟨_, rfl⟩
      rw [← hte] at ht hst ⊢
      have HST := hide hst
      clear hst hte
      by_cases hodd : t % 2 = 1
      · have h2 := crcStep_odd t hodd ht
        go_wp2
        go_round
        case rel => exact ⟨j + 1, by omega, by go_num, by rw [HST.out]⟩
        case measure => simp [intOf]; omega
      · have h0 : t % 2 = 0 := by omega
        have H2 := hide (crcStep_even t h0)
        clear hodd
        go_wp2
        go_round
        case rel => exact ⟨j + 1, by omega, by go_num, by rw [HST.out, H2.out]⟩
        case measure => simp [intOf]; omega
    · obtain rfl : j = 4 := by omega
      go_wp2
      go_ret
      exact ⟨rfl, rfl⟩
/-- A block of cells that the call made, as a table. -/
def Tab (w : World) (g : Nat) (e : TypeId) (n : Nat) (f : Nat → Value) (k : Nat) : Prop := ∃ cur, cur.size = n ∧ w.heap[g]? = some (.cells cur e (0, 0)) ∧ ∀ j, j < k → cur[j]? = some (f j)
theorem Tab.cell {w : World} {g : Nat} {e : TypeId} {n k : Nat} {f : Nat → Value} (h : Tab w g e n f k) {j : Nat} (hj : j < k) : w.cell? ⟨g, j, none⟩ = some (f j) := by
  obtain ⟨cur, _, hg, hc⟩ := h
  rw [cell_of_row w g j cur e (0, 0) hg]
  exact hc j hj
theorem Tab.some_ {w : World} {g : Nat} {e : TypeId} {n k : Nat} {f : Nat → Value} (h : Tab w g e n f k) {j : Nat} (hj : j < n) : ∃ v, w.cell? ⟨g, j, none⟩ = some v := by
  obtain ⟨cur, hs, hg, _⟩ := h
  refine ⟨cur[j]'(by omega), ?_⟩
  rw [cell_of_row w g j cur e (0, 0) hg]
  simp
theorem Tab.frozen {w : World} {g : Nat} {e : TypeId} {n k : Nat} {f : Nat → Value} (h : Tab w g e n f k) (j : Nat) : w.frozen? ⟨g, j, none⟩ = false := by
  obtain ⟨cur, _, hg, _⟩ := h
  exact frozen_of_row w g j cur e hg
theorem Tab.lt {w : World} {g : Nat} {e : TypeId} {n k : Nat} {f : Nat → Value} (h : Tab w g e n f k) : g < w.heap.size := by
  obtain ⟨cur, _, hg, _⟩ := h
  rcases Nat.lt_or_ge g w.heap.size with hlt | hge
  · exact hlt
  · simp [Array.getElem?_eq_none hge] at hg
theorem Tab.set {w : World} {g : Nat} {e : TypeId} {n k : Nat} {f : Nat → Value} (h : Tab w g e n f k) (hk : k < n) : Tab (w.setCell ⟨g, k, none⟩ (f k)) g e n f (k + 1) := by
  obtain ⟨cur, hs, hg, hc⟩ := h
  refine ⟨cur.setIfInBounds k (f k), by simpa using hs, heap_setCell_same w g k cur e (f k) hg, fun j hj => ?_⟩
  by_cases hjk : k = j
  · subst hjk
    simp [hs, hk]
  · rw [Array.getElem?_setIfInBounds, if_neg hjk]
    exact hc j (by omega)
theorem Tab.new (w : World) (cs : Array Value) (e : TypeId) (n g : Nat) (f : Nat → Value) (hs : cs.size = n) (hg : g = w.heap.size) : Tab (w.alloc (.cells cs e)) g e n f 0 := by
  subst hg
  exact ⟨cs, hs, heap_alloc_new w _, fun j hj => absurd hj (by omega)⟩
set_option maxHeartbeats 1600000 in
set_option maxRecDepth 100000 in
theorem rsum_any (A : Option Addr) (n ca : Nat) (xs : List Nat) (w : World) (hA : Rd w A xs) (hn : n = xs.length) (hb : ∀ x ∈ xs, x < 256) (ln : n ≤ 9223372036854775807) :
    Calls Try.prog 71 #[.slice A n ca] w fun e w' => e = .returned (.int .u32 (sumS xs : Nat)) ∧ Below w.heap.size w w' := by
  have HN := hide hn
  have HA := hide hA
  have HB := hide hb
  clear hn hA hb
  go_enter Try.func71, Try.ntmps71
  go_wp2
  go_loopw [4] (fun i wr => ∃ k : Nat, k ≤ 16 ∧ i = .int .i64 (k : Int) ∧ Hid (Tab wr w.heap.size 115 16 (fun j => .int .u32 (crcB j 4 : Nat)) k) ∧ Hid (Below w.heap.size w wr)) (fun i _ => 16 - (intOf i).toNat)
  case atStart => exact ⟨0, Nat.zero_le _, rfl, Tab.new _ _ _ _ _ _ rfl rfl, (Below.refl _ _).alloc (Nat.le_refl _) _⟩
  case round =>
    obtain ⟨k, hk, rfl, htab, hbel⟩ := hrel
    by_cases hlt : k < 16
    · obtain ⟨v, ck⟩ := htab.out.some_ hlt
      have fk := htab.out.frozen k
      have T2 := hide (htab.out.set hlt)
      have B2 := hide (show Below w.heap.size w (wr.setCell ⟨w.heap.size, k, none⟩ (.int .u32 (crcB k 4 : Nat))) from hbel.out.setCell (Nat.le_refl _) _)
      go_wp2_with fail
      refine (digit_any k _ (by omega)).mono ?_
      rintro e w1 ⟨rfl, rfl⟩
      go_wp2_with fail
      go_roundw
      case rel => exact ⟨k + 1, by omega, by go_num, T2, B2⟩
      case measure => simp [intOf]; omega
    · obtain rfl : k = 16 := by omega
      have HA2 := hide (HA.out.below hbel.out)
      clear HA hlt
      go_wp2_with fail
      go_loop [5, 6] (fun s i => ∃ k : Nat, k ≤ n ∧ i = .int .i64 (k : Int) ∧ s = .int .u32 (crcF 4294967295 (xs.take k) : Nat)) (fun _ i => n - (intOf i).toNat)
      case atStart => exact ⟨0, Nat.zero_le _, rfl, rfl⟩
      case round =>
        obtain ⟨k, hk, rfl, rfl⟩ := hrel
        have hs := crcF_lt (s := 4294967295) (by decide) (xs := xs.take k) (fun x hx => HB.out x (List.mem_of_mem_take hx))
        by_cases hlt : k < n
        · obtain ⟨b1, o1, rfl, c1⟩ := HA2.out (by intro e; rw [HN.out, e] at hlt; simp at hlt)
          obtain ⟨x, k1, hx, ex⟩ := rd_at c1 HB.out k (by rw [← HN.out]; exact hlt)
          have hsn := crcF_snoc 4294967295 xs k (by rw [← HN.out]; exact hlt)
          obtain ⟨s, hse⟩ : ∃ s, s = crcF 4294967295 (xs.take k) := ⟨_, rfl⟩
          rw [← ex] at hsn
          rw [← hse] at hs hsn ⊢
          have HSN := hide hsn
          clear hsn ex hse c1
          have hxor := xor32 s x hs (by omega)
          have hs1 := xor_lt32 hs (show x < 4294967296 by omega)
          obtain ⟨s1, hs1e⟩ : ∃ s1, s1 = s ^^^ x := ⟨_, rfl⟩
          rw [← hs1e] at hxor hs1
          obtain ⟨q1, hq1⟩ : ∃ q1, q1 = s1 / 16 := ⟨_, rfl⟩
          obtain ⟨m1, hm1⟩ : ∃ m1, m1 = s1 % 16 := ⟨_, rfl⟩
          have x1 := half_walk s1 q1 m1 hs1 hq1 hm1
          have d1 : (s1 : Int) / 16 = (q1 : Int) := by omega
          have r1 : (s1 : Int) % 16 = (m1 : Int) := by omega
          have t1 := htab.out.cell (j := m1) (by omega)
          have hs2 := crcB_lt hs1 4
          have h8 : crcB s1 8 = crcB (crcB s1 4) 4 := rfl
          obtain ⟨s2, hs2e⟩ : ∃ s2, s2 = crcB s1 4 := ⟨_, rfl⟩
          rw [← hs2e] at x1 hs2 h8
          obtain ⟨q2, hq2⟩ : ∃ q2, q2 = s2 / 16 := ⟨_, rfl⟩
          obtain ⟨m2, hm2⟩ : ∃ m2, m2 = s2 % 16 := ⟨_, rfl⟩
          have x2 := half_walk s2 q2 m2 hs2 hq2 hm2
          have d2 : (s2 : Int) / 16 = (q2 : Int) := by omega
          have r2 : (s2 : Int) % 16 = (m2 : Int) := by omega
          have t2 := htab.out.cell (j := m2) (by omega)
          have l1 : m1 < 16 := by omega
          have l2 : m2 < 16 := by omega
          have H8 := hide h8
          have HS1 := hide hs1e
          clear h8 hs1e hs2e hq1 hm1 hq2 hm2
          go_wp2_with fail
          go_round
          case rel => exact ⟨k + 1, by omega, by go_num, by rw [HSN.out, ← HS1.out, H8.out]⟩
          case measure => simp [intOf]; omega
        · have he : xs.take k = xs := List.take_of_length_le (by rw [← HN.out]; omega)
          rw [he] at hs ⊢
          have hnot := not32 (crcF 4294967295 xs) hs
          have hsum : sumS xs = 4294967295 - crcF 4294967295 xs := rfl
          rw [← hsum] at hnot
          have hsig : IntKind.u32.signed = false := rfl
          clear hsum he
          go_wp2_with fail
          go_ret
          exact ⟨rfl, hbel.out⟩
end Go.Proofs.Ytmledochidefeaa
namespace Go.Proofs.Ytmledochidefeaa
open Go.RowKit
set_option maxHeartbeats 400000 in
theorem rput32_any (x : Int) (v : Nat) (hx : x = (v : Int)) (w : World) (hv : v < 4294967296) :
    Calls Try.prog 70 #[.int .u32 x] w fun e w' => ∃ s, e = .returned s ∧ Own w' w.heap.size s (be32 v) ∧ Below w.heap.size w w' := by
  subst hx
  go_enter Try.func70, Try.ntmps70
  go_wp2
  go_ret
  exact ⟨_, rfl, own_be32 w v hv, (Below.refl _ _).alloc (Nat.le_refl _) _⟩
end Go.Proofs.Ytmledochidefeaa
namespace Go.Proofs.Ytmledochidefeaa
open Go.RowKit
set_option maxHeartbeats 800000 in
theorem rget32_any (A : Option Addr) (n c : Nat) (xs : List Nat) (w : World) (hA : Rd w A xs) (hn : n = xs.length) (hb : ∀ x ∈ xs, x < 256) (h4 : 4 ≤ n) (ln : n ≤ 9223372036854775807) :
    Calls Try.prog 72 #[.slice A n c] w fun e w' => e = .returned (.int .u32 (val32 xs : Nat)) ∧ ∃ d, w' = w.drewN d := by
  obtain ⟨b, off, rfl, hc⟩ := hA (by intro e; rw [e] at hn; simp at hn; omega)
  obtain ⟨x0, c0, l0, e0⟩ := rd_at hc hb 0 (by omega)
  obtain ⟨x1, c1, l1, e1⟩ := rd_at hc hb 1 (by omega)
  obtain ⟨x2, c2, l2, e2⟩ := rd_at hc hb 2 (by omega)
  obtain ⟨x3, c3, l3, e3⟩ := rd_at hc hb 3 (by omega)
  rw [Nat.add_zero] at c0
  have E := hide (And.intro e0 (And.intro e1 (And.intro e2 e3)))
  clear hc e0 e1 e2 e3 hA
  have HN := hide hn
  clear hn hb
  go_enter Try.func72, Try.ntmps72
  go_wp2
  go_quiet (fail)
  go_wp2
  go_ret
  refine ⟨?_, nq, rfl⟩
  have e := E.out
  rw [get32_eq x0 x1 x2 x3 l0 l1 l2 l3]
  unfold val32
  rw [← e.1, ← e.2.1, ← e.2.2.1, ← e.2.2.2]
  rfl
end Go.Proofs.Ytmledochidefeaa
namespace Go.Proofs.Ytmledochidefeaa
open Go.RowKit
theorem take_ext {xs ys : List Nat} {k : Nat} (hx : k < xs.length) (hy : k < ys.length) (h : xs.take k = ys.take k) (e : xs.getD k 0 = ys.getD k 0) : xs.take (k + 1) = ys.take (k + 1) := by
  rw [List.take_succ_eq_append_getElem hx, List.take_succ_eq_append_getElem hy, h]
  have e1 : xs.getD k 0 = xs[k] := by simp [hx]
  have e2 : ys.getD k 0 = ys[k] := by simp [hy]
  rw [← e1, ← e2, e]
set_option maxHeartbeats 400000 in
theorem same_any (A B : Option Addr) (n m ca cb : Nat) (xs ys : List Nat) (w : World) (hA : Rd w A xs) (hB : Rd w B ys) (hn : n = xs.length) (hm : m = ys.length)
    (ln : n ≤ 9223372036854775807) (lm : m ≤ 9223372036854775807) :
    Calls Try.prog 16 #[.slice A n ca, .slice B m cb] w fun e w' => e = .returned (.bool (decide (xs = ys))) ∧ ∃ d, w' = w.drewN d := by
  by_cases hl : n = m
  · subst hl
    have hne0 : ((n : Int) != (n : Int)) = false := by simp
    have HN := hide hn
    have HM := hide hm
    clear hn hm
    go_enter Try.func16, Try.ntmps16
    go_wp2
    go_loopw [5] (fun i wr => ∃ k d : Nat, k ≤ n ∧ i = .int .i64 (k : Int) ∧ Hid (xs.take k = ys.take k) ∧ wr = w.drewN d) (fun i _ => n - (intOf i).toNat)
    case atStart => exact ⟨0, 0, Nat.zero_le _, rfl, rfl, rfl⟩
    case round =>
      obtain ⟨k, d, hk, rfl, hs, rfl⟩ := hrel
      by_cases hlt : k < n
      · obtain ⟨b1, o1, rfl, c1⟩ := hA (by intro e; rw [HN.out, e] at hlt; simp at hlt)
        obtain ⟨b2, o2, rfl, c2⟩ := hB (by intro e; rw [HM.out, e] at hlt; simp at hlt)
        have k1 := c1 k (by rw [← HN.out]; exact hlt)
        have k2 := c2 k (by rw [← HM.out]; exact hlt)
        obtain ⟨x, hx⟩ : ∃ x, x = xs.getD k 0 := ⟨_, rfl⟩
        obtain ⟨y, hy⟩ : ∃ y, y = ys.getD k 0 := ⟨_, rfl⟩
        rw [← hx] at k1
        rw [← hy] at k2
        have HX := hide hx
        have HY := hide hy
        clear hx hy c1 c2 hA hB
        by_cases hxy : x = y
        · subst hxy
          have hne1 : ((x : Int) != (x : Int)) = false := by simp
          go_wp2
          go_quiet (fail)
          go_wp2
          go_roundw
          case rel => exact ⟨k + 1, _, by omega, by go_num, take_ext (by rw [← HN.out]; exact hlt) (by rw [← HM.out]; exact hlt) hs.out (by rw [← HX.out, ← HY.out]), rfl⟩
          case measure => simp [intOf]; omega
        · have hne1 : ((x : Int) != (y : Int)) = true := by simp; omega
          go_wp2
          go_quiet (fail)
          go_wp2
          go_ret
          refine ⟨ret_bool ?_, _, World.drewN_drewN _ _ _⟩
          symm
          rw [decide_eq_false_iff_not]
          intro e
          exact hxy (by rw [HX.out, HY.out, e])
      · go_wp2
        go_ret
        refine ⟨ret_bool ?_, _, rfl⟩
        symm
        rw [decide_eq_true_eq]
        have e := hs.out
        rw [List.take_of_length_le (by rw [← HN.out]; omega), List.take_of_length_le (by rw [← HM.out]; omega)] at e
        exact e
  · have hne0 : ((n : Int) != (m : Int)) = true := by simp; omega
    have hd : decide (xs = ys) = false := by
      rw [decide_eq_false_iff_not]
      intro e
      exact hl (by rw [hn, hm, e])
    rw [hd]
    clear hd
    have HN := hide hn
    have HM := hide hm
    clear hn hm
    go_enter Try.func16, Try.ntmps16
    go_wp2
    go_ret
    exact ⟨rfl, 0, rfl⟩
end Go.Proofs.Ytmledochidefeaa
namespace Go.Proofs.Ytmledochidefeaa
open Go.RowKit
set_option maxHeartbeats 800000 in
theorem roomy_any (A : Option Addr) (n c : Nat) (xs : List Nat) (w : World) (hA : IsB w (.slice A n c) xs) (hn : xs.length = n) (h3 : n ≤ 1000000) :
    Calls Try.prog 20 #[.slice A n c] w fun e w' => ∃ A' c', e = .returned (.slice A' (n + 1) c') ∧ IsB w' (.slice A' (n + 1) c') (xs ++ [171]) ∧ n + 1 ≤ c' ∧ c' ≤ 9223372036854775807 ∧ Below w.heap.size w w' := by
  have HA := hide hA
  have HN := hide hn
  clear hA hn
  have nb : Below w.heap.size w (w.alloc (.cells #[] 5)) := (Below.refl _ _).alloc (Nat.le_refl _) _
  go_enter Try.func20, Try.ntmps20
  go_wp2_with (at_builtin; refine halt ?_)
  refine ⟨?_⟩
  refine wpList_append_bytes rfl (.tmp 3) (.tmp 4) rfl w.heap.size _ [] rfl (own_lit w #[] [] rfl (by decide)) _ xs rfl (HA.out.keep nb) (by rw [HN.out, List.length_nil]; omega) nb.size ?_
  intro s1 w1 o1 k1
  have nb1 := nb.trans k1
  clear nb k1
  go_wp2_with (at_builtin; refine halt ?_)
  refine ⟨?_⟩
  have o1' := o1.keep ((Below.refl _ _).alloc (Nat.le_refl _) (.cells #[.int .u8 171] 5))
  refine wpList_append_bytes rfl (.tmp 5) (.tmp 6) rfl w.heap.size _ _ rfl o1' _ [171] rfl (isB_new w1 _ [171] rfl (by decide) _ _ rfl rfl) (by rw [List.nil_append, HN.out]; simp; omega) (by have := nb1.size; simp; omega) ?_
  intro s2 w2 o2 k2
  have nb2 := (nb1.alloc nb1.size (.cells #[.int .u8 171] 5)).trans k2
  clear nb1 k2 o1 o1'
  go_wp2_with (at_builtin; refine halt ?_)
  refine ⟨?_⟩
  have o2' := o2.keep ((Below.refl _ _).alloc (Nat.le_refl _) (.cells #[.int .u8 171] 5))
  refine wpList_append_bytes rfl (.tmp 7) (.tmp 8) rfl w.heap.size _ _ rfl o2' _ [171] rfl (isB_new w2 _ [171] rfl (by decide) _ _ rfl rfl) (by rw [List.nil_append, List.length_append, HN.out]; simp; omega) (by have := nb2.size; simp; omega) ?_
  intro s3 w3 o3 k3
  have nb3 := (nb2.alloc nb2.size (.cells #[.int .u8 171] 5)).trans k3
  clear nb2 k3 o2 o2'
  obtain ⟨A3, c3, rfl, i3, l3, m3⟩ := o3.isB.form (n := n + 2) (by rw [List.nil_append, List.length_append, List.length_append, HN.out]; rfl)
  have i4 := i3.take (n + 1) (by omega)
  have e4 : (([] ++ xs ++ [171]) ++ [171]).take (n + 1) = xs ++ [171] := by
    rw [List.nil_append, List.take_left' (by rw [List.length_append, HN.out]; rfl)]
  rw [e4] at i4
  have I4 := hide i4
  clear i3 i4 e4 o3
  go_wp2_with fail
  go_ret
  exact ⟨_, _, rfl, I4.out, by omega, m3, nb3⟩
set_option maxHeartbeats 800000 in
theorem stands_any (A : Option Addr) (c : Nat) (B : Option Addr) (n cb : Nat) (xs : List Nat) (w : World) (hA : IsB w (.slice A (n + 1) c) (xs ++ [171])) (hB : IsB w (.slice B n cb) xs)
    (hn : xs.length = n) (h3 : n ≤ 1000000) (hc : n + 1 ≤ c) (_lc : c ≤ 9223372036854775807) :
    Calls Try.prog 22 #[.slice A (n + 1) c, .slice B n cb] w fun e w' => e = .returned (.bool true) ∧ ∃ d, w' = w.drewN d := by
  have i1 := hA.take n (by omega)
  rw [List.take_left' hn] at i1
  obtain ⟨b, off, rfl, hcell⟩ := hA.rd (by simp)
  have cl := hcell n (by rw [List.length_append, hn]; simp)
  have e1 : (xs ++ [171]).getD n 0 = 171 := by subst hn; simp
  rw [e1] at cl
  have cl' : w.cell? ⟨b, off + n, none⟩ = some (.int .u8 171) := cl
  have HB := hide hB
  have I1 := hide i1
  have HN := hide hn
  clear hA hB i1 hn cl e1 hcell
  go_enter Try.func22, Try.ntmps22
  go_wp2_with fail
  refine (same_any (some ⟨b, off, none⟩) B n n c cb xs xs _ I1.out.rd HB.out.rd HN.out.symm HN.out.symm (by omega) (by omega)).mono ?_
  rintro e w1 ⟨rfl, d, rfl⟩
  go_wp2_with fail
  go_ret
  exact ⟨rfl, d, rfl⟩
end Go.Proofs.Ytmledochidefeaa
namespace Go.Proofs.Ytmledochidefeaa
open Go.RowKit
theorem Own.front {w : World} {B b N c : Nat} {X : List Nat} (h : Own w B (.slice (some ⟨b, 0, none⟩) N c) X) (i : Nat) (hi : i ≤ X.length) : Own w B (.slice (some ⟨b, 0, none⟩) i c) (X.take i) := by
  unfold Own at h ⊢
  have hl : (X.take i).length = i := by rw [List.length_take]; omega
  rw [hl]
  refine ⟨by simp; omega, ?_⟩
  rcases h.2 with ⟨hv, _⟩ | ⟨g, cap, cur, hv, h1, h2, h3, h4, h5, h6⟩
  · cases hv
  · cases hv
    refine .inr ⟨b, c, cur, rfl, h1, h2, by omega, h4, h5, ?_⟩
    rw [List.map_take, ← h6, List.take_take]
    congr 1
    omega
set_option maxHeartbeats 800000 in
theorem roomyO_any (A : Option Addr) (n c : Nat) (xs : List Nat) (w : World) (hA : IsB w (.slice A n c) xs) (hn : xs.length = n) (h3 : n ≤ 1000000) :
    Calls Try.prog 20 #[.slice A n c] w fun e w' => ∃ g c', e = .returned (.slice (some ⟨g, 0, none⟩) (n + 1) c') ∧ Own w' w.heap.size (.slice (some ⟨g, 0, none⟩) (n + 1) c') (xs ++ [171]) ∧ n + 1 ≤ c' ∧ c' ≤ 9223372036854775807 ∧ Below w.heap.size w w' := by
  have HA := hide hA
  have HN := hide hn
  clear hA hn
  have nb : Below w.heap.size w (w.alloc (.cells #[] 5)) := (Below.refl _ _).alloc (Nat.le_refl _) _
  go_enter Try.func20, Try.ntmps20
  go_wp2_with (at_builtin; refine halt ?_)
  refine ⟨?_⟩
  refine wpList_append_bytes rfl (.tmp 3) (.tmp 4) rfl w.heap.size _ [] rfl (own_lit w #[] [] rfl (by decide)) _ xs rfl (HA.out.keep nb) (by rw [HN.out, List.length_nil]; omega) nb.size ?_
  intro s1 w1 o1 k1
  have nb1 := nb.trans k1
  clear nb k1
  go_wp2_with (at_builtin; refine halt ?_)
  refine ⟨?_⟩
  have o1' := o1.keep ((Below.refl _ _).alloc (Nat.le_refl _) (.cells #[.int .u8 171] 5))
  refine wpList_append_bytes rfl (.tmp 5) (.tmp 6) rfl w.heap.size _ _ rfl o1' _ [171] rfl (isB_new w1 _ [171] rfl (by decide) _ _ rfl rfl) (by rw [List.nil_append, HN.out]; simp; omega) (by have := nb1.size; simp; omega) ?_
  intro s2 w2 o2 k2
  have nb2 := (nb1.alloc nb1.size (.cells #[.int .u8 171] 5)).trans k2
  clear nb1 k2 o1 o1'
  go_wp2_with (at_builtin; refine halt ?_)
  refine ⟨?_⟩
  have o2' := o2.keep ((Below.refl _ _).alloc (Nat.le_refl _) (.cells #[.int .u8 171] 5))
  refine wpList_append_bytes rfl (.tmp 7) (.tmp 8) rfl w.heap.size _ _ rfl o2' _ [171] rfl (isB_new w2 _ [171] rfl (by decide) _ _ rfl rfl) (by rw [List.nil_append, List.length_append, HN.out]; simp; omega) (by have := nb2.size; simp; omega) ?_
  intro s3 w3 o3 k3
  have nb3 := (nb2.alloc nb2.size (.cells #[.int .u8 171] 5)).trans k3
  clear nb2 k3 o2 o2'
  obtain ⟨g, c3, rfl, _, l3, m3, _, _⟩ := o3.at_ (n := n + 2) (by rw [List.nil_append, List.length_append, List.length_append, HN.out]; rfl) (by omega)
  have o4 := o3.front (n + 1) (by rw [List.nil_append, List.length_append, List.length_append, HN.out]; simp)
  have e4 : (([] ++ xs ++ [171]) ++ [171]).take (n + 1) = xs ++ [171] := by
    rw [List.nil_append, List.take_left' (by rw [List.length_append, HN.out]; rfl)]
  rw [e4] at o4
  have O4 := hide o4
  clear o4 e4 o3
  go_wp2_with fail
  go_ret
  exact ⟨_, _, rfl, O4.out, by omega, m3, nb3⟩
end Go.Proofs.Ytmledochidefeaa
namespace Go.Proofs.Ytmledochidefeaa
open Go.RowKit
theorem isB_nil (w : World) : IsB w (.slice none 0 0) [] := ⟨none, 0, rfl, fun h => absurd rfl h, fun _ => rfl, Nat.zero_le _, by decide⟩
set_option maxHeartbeats 800000 in
theorem spoil_any (A : Option Addr) (n c : Nat) (xs : List Nat) (w : World) (B : Nat) (hO : Own w B (.slice A n c) xs) (hn : xs.length = n) (hB : B ≤ w.heap.size) (h3 : n ≤ 1099511627776) :
    Calls Try.prog 24 #[.slice A n c] w fun e w' => e = .returned (.tuple #[]) ∧ Below B w w' := by
  have HO := hide hO
  have HN := hide hn
  clear hO hn
  go_enter Try.func24, Try.ntmps24
  go_wp2_with (at_builtin; refine halt ?_)
  refine ⟨?_⟩
  have nb : Below B w (w.alloc (.cells #[.int .u8 99] 5)) := (Below.refl _ _).alloc hB _
  have nbs : Below w.heap.size w (w.alloc (.cells #[.int .u8 99] 5)) := (Below.refl _ _).alloc (Nat.le_refl _) _
  refine wpList_append_bytes rfl (.tmp 4) (.tmp 5) rfl B _ _ rfl (HO.out.keep nbs) _ [99] rfl (isB_new w _ [99] rfl (by decide) _ _ rfl rfl) (by rw [HN.out]; simp; omega) (Nat.le_trans hB nb.size) ?_
  intro s1 w1 o1 k1
  obtain ⟨g, c1, rfl, hg, hc, hc2, _, _⟩ := o1.at_ (n := n + 1) (by rw [List.length_append, HN.out]; rfl) (by omega)
  have O1 := hide o1
  have K1 := hide (nb.trans k1)
  have L1 : Hid ((xs ++ [99]).length = n + 1) := by unfold Hid; rw [List.length_append, HN.out]; rfl
  clear nb nbs o1 k1
  go_wp2_with fail
  go_loopw [3] (fun i wr => ∃ k : Nat, k ≤ n + 1 ∧ i = .int .i64 (k : Int) ∧ Hid (∃ ys : List Nat, ys.length = n + 1 ∧ Own wr B (.slice (some ⟨g, 0, none⟩) (n + 1) c1) ys) ∧ Hid (Below B w wr)) (fun i _ => n + 1 - (intOf i).toNat)
  case atStart => exact ⟨0, Nat.zero_le _, rfl, ⟨_, L1.out, O1.out⟩, K1.out⟩
  case round =>
    obtain ⟨k, hk, rfl, hys, hbel⟩ := hrel
    by_cases hlt : k < n + 1
    · obtain ⟨ys, hyl, hown⟩ := hys.out
      obtain ⟨g', c', e, _, _, _, cells, hfr⟩ := hown.at_ hyl (by omega)
      cases e
      have ck := cells k hlt
      have fk := hfr k
      have hst := hown.stored hyl k 98
      have Y2 : Hid (∃ ys : List Nat, ys.length = n + 1 ∧ Own (wr.setCell ⟨g, k, none⟩ (.int .u8 ((98 : Nat) : Int))) B (.slice (some ⟨g, 0, none⟩) (n + 1) c1) ys) := ⟨ys.set k 98, by rw [List.length_set, hyl], hst⟩
      have K2 := hide (show Below B w (wr.setCell ⟨g, k, none⟩ (.int .u8 ((98 : Nat) : Int))) from hbel.out.setCell hg _)
      clear cells hfr hst hown hyl hys hbel
      go_wp2_with fail
      go_roundw
      case rel => exact ⟨k + 1, by omega, by go_num, Y2, K2⟩
      case measure => simp [intOf]; omega
    · go_wp2_with fail
      go_end0
      exact ⟨rfl, hbel.out⟩
end Go.Proofs.Ytmledochidefeaa
namespace Go.Proofs.Ytmledochidefeaa
open Go.RowKit
theorem xor_rc {a b c : Nat} (h : a ^^^ c = b ^^^ c) : a = b := by
  have h1 : (a ^^^ c) ^^^ c = (b ^^^ c) ^^^ c := by rw [h]
  rwa [Nat.xor_assoc, Nat.xor_assoc, Nat.xor_self, Nat.xor_zero, Nat.xor_zero] at h1
theorem xor_lc {a b c : Nat} (h : a ^^^ b = a ^^^ c) : b = c := by
  rw [Nat.xor_comm a b, Nat.xor_comm a c] at h
  exact xor_rc h
theorem crcStep_inj {s t : Nat} (hs : s < 4294967296) (ht : t < 4294967296) (h : crcStep s = crcStep t) : s = t := by
  have top : ∀ a b : Nat, a < 4294967296 → b < 4294967296 → a / 2 ^^^ 3988292384 ≠ b / 2 := by
    intro a b ha hb e
    have h1 := congrArg (Nat.testBit · 31) e
    simp only [Nat.testBit_xor] at h1
    have e1 : (a / 2).testBit 31 = false := Nat.testBit_lt_two_pow (by omega)
    have e2 : (b / 2).testBit 31 = false := Nat.testBit_lt_two_pow (by omega)
    have e3 : Nat.testBit 3988292384 31 = true := by decide +kernel
    rw [e1, e2, e3] at h1
    cases h1
  unfold crcStep at h
  split at h <;> split at h
  · have : s / 2 = t / 2 := xor_rc h
    omega
  · exact absurd h (top s t hs ht)
  · exact absurd h.symm (top t s ht hs)
  · omega
theorem crcB_inj {s t : Nat} (hs : s < 4294967296) (ht : t < 4294967296) : ∀ k, crcB s k = crcB t k → s = t
  | 0, h => h
  | k + 1, h => crcB_inj hs ht k (crcStep_inj (crcB_lt hs k) (crcB_lt ht k) h)
theorem crcF_inj {xs : List Nat} (hx : ∀ x ∈ xs, x < 256) : ∀ {s t : Nat}, s < 4294967296 → t < 4294967296 → crcF s xs = crcF t xs → s = t := by
  induction xs with
  | nil => intro s t _ _ h; exact h
  | cons x xs ih =>
    intro s t hs ht h
    have hx0 : x < 4294967296 := by have := hx x (by simp); omega
    have h2 := ih (fun y hy => hx y (by simp [hy])) (crcB_lt (xor_lt32 hs hx0) 8) (crcB_lt (xor_lt32 ht hx0) 8) h
    exact xor_rc (crcB_inj (xor_lt32 hs hx0) (xor_lt32 ht hx0) 8 h2)
theorem sum_wrong {xs : List Nat} (hx : ∀ x ∈ xs, x < 256) (k y : Nat) (hk : k < xs.length) (hy : y < 256) (hy0 : y ≠ 0) : sumS (xs.set k (xs.getD k 0 ^^^ y)) ≠ sumS xs := by
  intro h
  have hx0 : xs.getD k 0 < 256 := by
    have e : xs.getD k 0 = xs[k] := by simp [hk]
    rw [e]; exact hx _ (List.getElem_mem hk)
  have hxy : xs.getD k 0 ^^^ y < 256 := Nat.xor_lt_two_pow (n := 8) hx0 hy
  have hset : ∀ x ∈ xs.set k (xs.getD k 0 ^^^ y), x < 256 := by
    intro z hz
    rcases List.mem_or_eq_of_mem_set hz with h | h
    · exact hx z h
    · rw [h]; exact hxy
  have l1 := crcF_lt (s := 4294967295) (by decide) hset
  have l2 := crcF_lt (s := 4294967295) (by decide) hx
  have e : crcF 4294967295 (xs.set k (xs.getD k 0 ^^^ y)) = crcF 4294967295 xs := by
    unfold sumS at h
    omega
  have d1 : xs.set k (xs.getD k 0 ^^^ y) = xs.take k ++ (xs.getD k 0 ^^^ y) :: xs.drop (k + 1) := List.set_eq_take_append_cons_drop.trans (if_pos hk)
  have d2 : xs = xs.take k ++ xs.getD k 0 :: xs.drop (k + 1) := by
    have e : xs.getD k 0 = xs[k] := by simp [hk]
    rw [e, List.getElem_cons_drop, List.take_append_drop]
  rw [d1] at e
  have e2 : crcF 4294967295 (xs.take k ++ (xs.getD k 0 ^^^ y) :: xs.drop (k + 1)) = crcF 4294967295 (xs.take k ++ xs.getD k 0 :: xs.drop (k + 1)) := by rw [e, ← d2]
  unfold crcF at e2
  rw [List.foldl_append, List.foldl_append, List.foldl_cons, List.foldl_cons] at e2
  have ls := crcF_lt (s := 4294967295) (by decide) (xs := xs.take k) (fun x hx' => hx x (List.mem_of_mem_take hx'))
  have a1 := xor_lt32 ls (show xs.getD k 0 ^^^ y < 4294967296 by omega)
  have a2 := xor_lt32 ls (show xs.getD k 0 < 4294967296 by omega)
  have e3 := crcF_inj (xs := xs.drop (k + 1)) (fun x hx' => hx x (List.mem_of_mem_drop hx')) (crcB_lt a1 8) (crcB_lt a2 8) e2
  have e4 := crcB_inj a1 a2 8 e3
  have e5 : xs.getD k 0 ^^^ y = xs.getD k 0 := xor_lc e4
  have e6 : xs.getD k 0 ^^^ y = xs.getD k 0 ^^^ 0 := by rw [e5, Nat.xor_zero]
  exact hy0 (xor_lc e6)
theorem place (n : Int) (len : Nat) (h : 1 ≤ len) : ∃ k : Nat, k < len ∧ (n.tmod (len : Int) = (k : Int) ∨ n.tmod (len : Int) = (k : Int) - (len : Int)) := by
  rcases tmod_cases n (len : Int) with ⟨_, e⟩ | ⟨_, e⟩
  · have h1 := Int.emod_nonneg n (b := (len : Int)) (by omega)
    have h2 := Int.emod_lt_of_pos n (b := (len : Int)) (by omega)
    exact ⟨(n % (len : Int)).toNat, by omega, .inl (by rw [e]; omega)⟩
  · have h1 := Int.emod_nonneg (-n) (b := (len : Int)) (by omega)
    have h2 := Int.emod_lt_of_pos (-n) (b := (len : Int)) (by omega)
    by_cases h0 : -n % (len : Int) = 0
    · exact ⟨0, by omega, .inl (by rw [e, h0]; rfl)⟩
    · exact ⟨((len : Int) - -n % (len : Int)).toNat, by omega, .inr (by rw [e]; omega)⟩
end Go.Proofs.Ytmledochidefeaa
