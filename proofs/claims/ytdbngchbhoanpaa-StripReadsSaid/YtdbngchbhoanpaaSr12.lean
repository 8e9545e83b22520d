/- The contract of the document's own sum, which goes by half bytes and a table: of any bytes it is the CRC, reckoned digit by digit. Condition: no row is longer than a slice may be. Four bytes, the highest first: the contract of the document's own Put32. Conditions: the widths. The contract of the document's own Get32, of four bytes that are there. Condition: no row is longer than a slice may be. An append of bytes inside a region that draws its order. No conditions. The reference's ReadUvarint. No condition but the width. -/
import Derived.Test.YtdbngchbhoanpaaSr11
import Derived.Test.YtdbngchbhoanpaaSr10
import Derived.Test.YtdbngchbhoanpaaSr7
namespace Go.Proofs.Ytdbngchbhoanpaa
open Go.RowKit
theorem crcStep_xor (a b : Nat) : crcStep (a ^^^ b) = crcStep a ^^^ crcStep b := by
  have h1 : (a ^^^ b) / 2 = a / 2 ^^^ b / 2 := Nat.xor_div_two_pow (n := 1)
  have h2 : (a ^^^ b) % 2 = (a % 2) ^^^ (b % 2) := Nat.xor_mod_two_pow (n := 1)
  unfold crcStep
  rw [h1, h2]
  rcases Nat.mod_two_eq_zero_or_one a with ha | ha <;> rcases Nat.mod_two_eq_zero_or_one b with hb | hb <;> rw [ha, hb]
  · rfl
  · show (a / 2 ^^^ b / 2) ^^^ 3988292384 = a / 2 ^^^ (b / 2 ^^^ 3988292384)
    rw [Nat.xor_assoc]
  · show (a / 2 ^^^ b / 2) ^^^ 3988292384 = (a / 2 ^^^ 3988292384) ^^^ b / 2
    rw [Nat.xor_assoc, Nat.xor_assoc, Nat.xor_comm (b / 2)]
  · show a / 2 ^^^ b / 2 = (a / 2 ^^^ 3988292384) ^^^ (b / 2 ^^^ 3988292384)
    rw [Nat.xor_comm (b / 2) 3988292384, Nat.xor_assoc, ← Nat.xor_assoc 3988292384, Nat.xor_self, Nat.zero_xor]
theorem crcB_xor (a b : Nat) : ∀ k, crcB (a ^^^ b) k = crcB a k ^^^ crcB b k
  | 0 => rfl
  | k + 1 => by
    show crcStep (crcB (a ^^^ b) k) = crcStep (crcB a k) ^^^ crcStep (crcB b k)
    rw [crcB_xor a b k, crcStep_xor]
theorem crcStep_twice (q : Nat) : crcStep (2 * q) = q := by
  unfold crcStep
  rw [if_neg (by omega)]
  omega
theorem crcB_16 (q : Nat) : crcB (16 * q) 4 = q := by
  show crcStep (crcStep (crcStep (crcStep (16 * q)))) = q
  have e1 : 16 * q = 2 * (2 * (2 * (2 * q))) := by omega
  rw [e1, crcStep_twice, crcStep_twice, crcStep_twice, crcStep_twice]
theorem half_byte (s : Nat) : crcB s 4 = s / 16 ^^^ crcB (s % 16) 4 := by
  have e : (16 * (s / 16)) ^^^ (s % 16) = s := by
    obtain ⟨t, ht⟩ : ∃ t, t = (16 * (s / 16)) ^^^ (s % 16) := ⟨_, rfl⟩
    have h1 : t / 16 = (16 * (s / 16)) / 16 ^^^ (s % 16) / 16 := by rw [ht]; exact Nat.xor_div_two_pow (n := 4)
    have h2 : t % 16 = (16 * (s / 16)) % 16 ^^^ (s % 16) % 16 := by rw [ht]; exact Nat.xor_mod_two_pow (n := 4)
    have e1 : (16 * (s / 16)) / 16 = s / 16 := by omega
    have e2 : (s % 16) / 16 = 0 := by omega
    have e3 : (16 * (s / 16)) % 16 = 0 := by omega
    have e4 : (s % 16) % 16 = s % 16 := by omega
    rw [e1, e2, Nat.xor_zero] at h1
    rw [e3, e4, Nat.zero_xor] at h2
    rw [← ht]
    omega
  have h := crcB_xor (16 * (s / 16)) (s % 16) 4
  rw [e, crcB_16] at h
  exact h
theorem half_walk (s q m : Nat) (hs : s < 4294967296) (hq : q = s / 16) (hm : m = s % 16) : bits .xor .u32 (q : Int) ((crcB m 4 : Nat) : Int) = ((crcB s 4 : Nat) : Int) := by
  rw [half_byte s, ← hq, ← hm]
  exact xor32 _ _ (by omega) (crcB_lt (by omega) 4)
theorem crcStep_odd (t : Nat) (h : t % 2 = 1) (ht : t < 4294967296) : bits .xor .u32 ((t : Int) / 2) 3988292384 = ((crcStep t : Nat) : Int) := half_poly t ht h
theorem crcStep_even (t : Nat) (h : t % 2 = 0) : (t : Int) / 2 = ((crcStep t : Nat) : Int) := by
  unfold crcStep
  rw [if_neg (by omega)]
  simp
set_option maxHeartbeats 400000 in
theorem digit_any (n : Nat) (w : World) (hn : n < 4294967296) :
    Calls Try.prog 46 #[.int .u32 (n : Int)] w fun e w' => e = .returned (.int .u32 (crcB n 4 : Nat)) ∧ w = w' := by
  have HNN : Hid (n < 4294967296) := hide hn
  clear hn
  go_enter Try.func46, Try.ntmps46
  go_wp2
  go_loop [0, 3] (fun t i => ∃ j : Nat, j ≤ 4 ∧ i = .int .i64 (j : Int) ∧ t = .int .u32 (crcB n j : Nat)) (fun _ i => 4 - (intOf i).toNat)
  case atStart => exact ⟨0, Nat.zero_le _, rfl, rfl⟩
  case round =>
    obtain ⟨j, hj, rfl, rfl⟩ := hrel
    have ht := crcB_lt HNN.out j
    by_cases hlt : j < 4
    · have hst : crcB n (j + 1) = crcStep (crcB n j) := rfl
      obtain ⟨t, hte⟩ : ∃ t, t = crcB n j := ⟨_, rfl⟩
      rw [← hte] at ht hst ⊢
      have HST := hide hst
      clear hst hte
      by_cases hodd : t % 2 = 1
      · have h2 := crcStep_odd t hodd ht
        go_wp2
        go_round
        case rel => exact ⟨j + 1, by omega, by go_num, by rw [HST.out]⟩
        case measure => simp [intOf]; omega
      · have h0 : t % 2 = 0 := by omega
        have H2 := hide (crcStep_even t h0)
        clear hodd
        go_wp2
        go_round
        case rel => exact ⟨j + 1, by omega, by go_num, by rw [HST.out, H2.out]⟩
        case measure => simp [intOf]; omega
    · obtain rfl : j = 4 := by omega
      go_wp2
      go_ret
      exact ⟨rfl, rfl⟩
/-- A block of cells that the call made, as a table. -/
def Tab (w : World) (g : Nat) (e : TypeId) (n : Nat) (f : Nat → Value) (k : Nat) : Prop := ∃ cur, cur.size = n ∧ w.heap[g]? = some (.cells cur e (0, 0)) ∧ ∀ j, j < k → cur[j]? = some (f j)
theorem Tab.cell {w : World} {g : Nat} {e : TypeId} {n k : Nat} {f : Nat → Value} (h : Tab w g e n f k) {j : Nat} (hj : j < k) : w.cell? ⟨g, j, none⟩ = some (f j) := by
  obtain ⟨cur, _, hg, hc⟩ := h
  rw [cell_of_row w g j cur e (0, 0) hg]
  exact hc j hj
theorem Tab.some_ {w : World} {g : Nat} {e : TypeId} {n k : Nat} {f : Nat → Value} (h : Tab w g e n f k) {j : Nat} (hj : j < n) : ∃ v, w.cell? ⟨g, j, none⟩ = some v := by
  obtain ⟨cur, hs, hg, _⟩ := h
  refine ⟨cur[j]'(by omega), ?_⟩
  rw [cell_of_row w g j cur e (0, 0) hg]
  simp
theorem Tab.frozen {w : World} {g : Nat} {e : TypeId} {n k : Nat} {f : Nat → Value} (h : Tab w g e n f k) (j : Nat) : w.frozen? ⟨g, j, none⟩ = false := by
  obtain ⟨cur, _, hg, _⟩ := h
  exact frozen_of_row w g j cur e hg
theorem Tab.lt {w : World} {g : Nat} {e : TypeId} {n k : Nat} {f : Nat → Value} (h : Tab w g e n f k) : g < w.heap.size := by
  obtain ⟨cur, _, hg, _⟩ := h
  rcases Nat.lt_or_ge g w.heap.size with hlt | hge
  · exact hlt
  · simp [Array.getElem?_eq_none hge] at hg
theorem Tab.set {w : World} {g : Nat} {e : TypeId} {n k : Nat} {f : Nat → Value} (h : Tab w g e n f k) (hk : k < n) : Tab (w.setCell ⟨g, k, none⟩ (f k)) g e n f (k + 1) := by
  obtain ⟨cur, hs, hg, hc⟩ := h
  refine ⟨cur.setIfInBounds k (f k), by simpa using hs, heap_setCell_same w g k cur e (f k) hg, fun j hj => ?_⟩
  by_cases hjk : k = j
  · subst hjk
    simp [hs, hk]
  · rw [Array.getElem?_setIfInBounds, if_neg hjk]
    exact hc j (by omega)
theorem Tab.new (w : World) (cs : Array Value) (e : TypeId) (n g : Nat) (f : Nat → Value) (hs : cs.size = n) (hg : g = w.heap.size) : Tab (w.alloc (.cells cs e)) g e n f 0 := by
  subst hg
  exact ⟨cs, hs, heap_alloc_new w _, fun j hj => absurd hj (by omega)⟩
set_option maxHeartbeats 1600000 in
set_option maxRecDepth 100000 in
theorem rsum_any (A : Option Addr) (n ca : Nat) (xs : List Nat) (w : World) (hA : Rd w A xs) (hn : n = xs.length) (hb : ∀ x ∈ xs, x < 256) (ln : n ≤ 9223372036854775807) :
    Calls Try.prog 32 #[.slice A n ca] w fun e w' => e = .returned (.int .u32 (sumS xs : Nat)) ∧ Below w.heap.size w w' := by
  have HN := hide hn
  have HA := hide hA
  have HB := hide hb
  clear hn hA hb
  go_enter Try.func32, Try.ntmps32
  go_wp2
  go_loopw [4] (fun i wr => ∃ k : Nat, k ≤ 16 ∧ i = .int .i64 (k : Int) ∧ Hid (Tab wr w.heap.size 84 16 (fun j => .int .u32 (crcB j 4 : Nat)) k) ∧ Hid (Below w.heap.size w wr)) (fun i _ => 16 - (intOf i).toNat)
  case atStart => exact ⟨0, Nat.zero_le _, rfl, Tab.new _ _ _ _ _ _ rfl rfl, (Below.refl _ _).alloc (Nat.le_refl _) _⟩
  case round =>
    obtain ⟨k, hk, rfl, htab, hbel⟩ := hrel
    by_cases hlt : k < 16
    · obtain ⟨v, ck⟩ := htab.out.some_ hlt
      have fk := htab.out.frozen k
      have T2 := hide (htab.out.set hlt)
      have B2 := hide (show Below w.heap.size w (wr.setCell ⟨w.heap.size, k, none⟩ (.int .u32 (crcB k 4 : Nat))) from hbel.out.setCell (Nat.le_refl _) _)
      go_wp2_with fail
      refine (digit_any k _ (by omega)).mono ?_
      rintro e w1 ⟨rfl, rfl⟩
      go_wp2_with fail
      go_roundw
      case rel => exact ⟨k + 1, by omega, by go_num, T2, B2⟩
      case measure => simp [intOf]; omega
    · obtain rfl : k = 16 := by omega
      have HA2 := hide (HA.out.below hbel.out)
      clear HA hlt
      go_wp2_with fail
      go_loop [5, 6] (fun s i => ∃ k : Nat, k ≤ n ∧ i = .int .i64 (k : Int) ∧ s = .int .u32 (crcF 4294967295 (xs.take k) : Nat)) (fun _ i => n - (intOf i).toNat)
      case atStart => exact ⟨0, Nat.zero_le _, rfl, rfl⟩
      case round =>
        obtain ⟨k, hk, rfl, rfl⟩ := hrel
        have hs := crcF_lt (s := 4294967295) (by decide) (xs := xs.take k) (fun x hx => HB.out x (List.mem_of_mem_take hx))
        by_cases hlt : k < n
        · obtain ⟨b1, o1, rfl, c1⟩ := HA2.out (by intro e; rw [HN.out, e] at hlt; simp at hlt)
          obtain ⟨x, k1, hx, ex⟩ := rd_at c1 HB.out k (by rw [← HN.out]; exact hlt)
          have hsn := crcF_snoc 4294967295 xs k (by rw [← HN.out]; exact hlt)
          obtain ⟨s, hse⟩ : ∃ s, s = crcF 4294967295 (xs.take k) := ⟨_, rfl⟩
          rw [← ex] at hsn
          rw [← hse] at hs hsn ⊢
          have HSN := hide hsn
          clear hsn ex hse c1
          have hxor := xor32 s x hs (by omega)
          have hs1 := xor_lt32 hs (show x < 4294967296 by omega)
          obtain ⟨s1, hs1e⟩ : ∃ s1, s1 = s ^^^ x := ⟨_, rfl⟩
          rw [← hs1e] at hxor hs1
          obtain ⟨q1, hq1⟩ : ∃ q1, q1 = s1 / 16 := ⟨_, rfl⟩
          obtain ⟨m1, hm1⟩ : ∃ m1, m1 = s1 % 16 := ⟨_, rfl⟩
          have x1 := half_walk s1 q1 m1 hs1 hq1 hm1
          have d1 : (s1 : Int) / 16 = (q1 : Int) := by omega
          have r1 : (s1 : Int) % 16 = (m1 : Int) := by omega
          have t1 := htab.out.cell (j := m1) (by omega)
          have hs2 := crcB_lt hs1 4
          have h8 : crcB s1 8 = crcB (crcB s1 4) 4 := rfl
          obtain ⟨s2, hs2e⟩ : ∃ s2, s2 = crcB s1 4 := ⟨_, rfl⟩
          rw [← hs2e] at x1 hs2 h8
          obtain ⟨q2, hq2⟩ : ∃ q2, q2 = s2 / 16 := ⟨_, rfl⟩
          obtain ⟨m2, hm2⟩ : ∃ m2, m2 = s2 % 16 := ⟨_, rfl⟩
          have x2 := half_walk s2 q2 m2 hs2 hq2 hm2
          have d2 : (s2 : Int) / 16 = (q2 : Int) := by omega
          have r2 : (s2 : Int) % 16 = (m2 : Int) := by omega
          have t2 := htab.out.cell (j := m2) (by omega)
          have l1 : m1 < 16 := by omega
          have l2 : m2 < 16 := by omega
          have H8 := hide h8
          have HS1 := hide hs1e
          clear h8 hs1e hs2e hq1 hm1 hq2 hm2
          go_wp2_with fail
          go_round
          case rel => exact ⟨k + 1, by omega, by go_num, by rw [HSN.out, ← HS1.out, H8.out]⟩
          case measure => simp [intOf]; omega
        · have he : xs.take k = xs := List.take_of_length_le (by rw [← HN.out]; omega)
          rw [he] at hs ⊢
          have hnot := not32 (crcF 4294967295 xs) hs
          have hsum : sumS xs = 4294967295 - crcF 4294967295 xs := rfl
          rw [← hsum] at hnot
          have hsig : IntKind.u32.signed = false := rfl
          clear hsum he
          go_wp2_with fail
          go_ret
          exact ⟨rfl, hbel.out⟩
end Go.Proofs.Ytdbngchbhoanpaa
namespace Go.Proofs.Ytdbngchbhoanpaa
open Go.RowKit
set_option maxHeartbeats 400000 in
theorem rput32_any (x : Int) (v : Nat) (hx : x = (v : Int)) (w : World) (hv : v < 4294967296) :
    Calls Try.prog 19 #[.int .u32 x] w fun e w' => ∃ s, e = .returned s ∧ Own w' w.heap.size s (be32 v) ∧ Below w.heap.size w w' := by
  subst hx
  go_enter Try.func19, Try.ntmps19
  go_wp2
  go_ret
  exact ⟨_, rfl, own_be32 w v hv, (Below.refl _ _).alloc (Nat.le_refl _) _⟩
end Go.Proofs.Ytdbngchbhoanpaa
namespace Go.Proofs.Ytdbngchbhoanpaa
open Go.RowKit
set_option maxHeartbeats 800000 in
theorem rget32_any (A : Option Addr) (n c : Nat) (xs : List Nat) (w : World) (hA : Rd w A xs) (hn : n = xs.length) (hb : ∀ x ∈ xs, x < 256) (h4 : 4 ≤ n) (ln : n ≤ 9223372036854775807) :
    Calls Try.prog 27 #[.slice A n c] w fun e w' => e = .returned (.int .u32 (val32 xs : Nat)) ∧ ∃ d, w' = w.drewN d := by
  obtain ⟨b, off, rfl, hc⟩ := hA (by intro e; rw [e] at hn; simp at hn; omega)
  obtain ⟨x0, c0, l0, e0⟩ := rd_at hc hb 0 (by omega)
  obtain ⟨x1, c1, l1, e1⟩ := rd_at hc hb 1 (by omega)
  obtain ⟨x2, c2, l2, e2⟩ := rd_at hc hb 2 (by omega)
  obtain ⟨x3, c3, l3, e3⟩ := rd_at hc hb 3 (by omega)
  rw [Nat.add_zero] at c0
  have E := hide (And.intro e0 (And.intro e1 (And.intro e2 e3)))
  clear hc e0 e1 e2 e3 hA
  have HN := hide hn
  clear hn hb
  go_enter Try.func27, Try.ntmps27
  go_wp2
  go_quiet (fail)
  go_wp2
  go_ret
  refine ⟨?_, nq, rfl⟩
  have e := E.out
  rw [get32_eq x0 x1 x2 x3 l0 l1 l2 l3]
  unfold val32
  rw [← e.1, ← e.2.1, ← e.2.2.1, ← e.2.2.2]
  rfl
end Go.Proofs.Ytdbngchbhoanpaa
namespace Go.Proofs.Ytdbngchbhoanpaa
open Go.RowKit
theorem step_append_bytes {w : World} {ops : Array Oper} {o : Oper} {a : Act} {K : Act → World → Prop} {Q : Exit → Act → World → Prop} {E : Prop} (hgd : o.guard = none) (s x : Operand)
    (ho : o.op = .call { callee := .builtin .append, args := #[s, x], argTypes := #[24, 24] })
    (B : Nat) (v : Value) (xs : List Nat) (hs : a.eval s = v) (hown : Own w B v xs)
    (u : Value) (ys : List Nat) (hx : a.eval x = u) (hr : IsB w u ys)
    (hlen : xs.length + ys.length ≤ 140737488355328) (hbase : B ≤ w.heap.size)
    (h : ∀ v' w', Own w' B v' (xs ++ ys) → Below B w w' → K (a.put o.dst v') w') : if Region.wanted o (yielded ops a.tmps) = true then Oper.wp Try.prog o a w K Q else E := by
  have hw : Region.wanted o (yielded ops a.tmps) = true := by simp [Region.wanted, hgd]
  rw [if_pos hw]
  obtain ⟨i0, hi, hz0, hz1, hz2⟩ := info_parts Try.info_u8'
  obtain ⟨A, c, rfl, hr, hn, _⟩ := hr
  have fin : ∀ v' w', w'.ownsRow B 5 1 v' (xs.length + ys.length) ((xs.map fun x : Nat => Value.int .u8 (x : Int)) ++ (ys.map fun x : Nat => Value.int .u8 (x : Int))) → w.grownBy w' v.ownBlock → K (a.put o.dst v') w' := by
    intro v' w' hown' hg
    refine h v' w' (by unfold Own; simpa using hown') ((Below.refl _ _).grown hg hbase fun k hk => (hown.lt k hk).1)
  rcases A with _ | ad
  · have h0 := hn rfl
    subst h0
    have hys : ys = [] := by
      rcases ys with _ | ⟨y, ys⟩
      · rfl
      · obtain ⟨_, _, e, _⟩ := hr (by simp)
        cases e
    subst hys
    have hrun := run_append_owned_none (P := Try.prog) (w := w) B 24 o.type 5 i0 1 Try.underlying24 hi v _ _ hown
    unfold Oper.wp
    simp [execOp, ho, resolve, invoke, builtin, hs, hx, hrun, Result.andThen]
    exact fin v w (by simpa [Own] using hown) (World.grownBy.refl w _)
  · refine wp_append_own w s x _ ho B 5 i0 (.int .u8 0) 1 1 Try.underlying24 hi hz0 hz1 hz2 rfl (by decide) v _ _ hs hown ad ys.length c (ys.map fun x : Nat => Value.int .u8 (x : Int)) hx (by simp) ?_ ?_ (by unfold maxLen; omega) (by omega) hbase (fun v' w' h1 h2 _ => fin v' w' h1 h2)
    · intro j u hu
      have hj : j < ys.length := by
        rcases Nat.lt_or_ge j ys.length with h | h
        · exact h
        · simp [h] at hu
      obtain ⟨b, off, e, hc⟩ := hr (by intro e; rw [e] at hj; simp at hj)
      cases e
      have := hc j hj
      simp [hj] at hu
      subst hu
      simpa [add_off, hj] using this
    · intro u hu
      simp at hu
      obtain ⟨y, _, rfl⟩ := hu
      rfl
end Go.Proofs.Ytdbngchbhoanpaa
namespace Go.Proofs.Ytdbngchbhoanpaa
open Go.RowKit
set_option maxHeartbeats 1600000 in
set_option maxRecDepth 100000 in
theorem ruread_any (A : Option Addr) (n c : Nat) (xs : List Nat) (w : World) (hA : Rd w A xs) (hn : n = xs.length) (hb : ∀ x ∈ xs, x < 256) (ln : n ≤ 9223372036854775807) :
    Calls Try.prog 26 #[.slice A n c] w fun e w' => e = .returned (.tuple #[.int .u64 ((rvl 0 0 xs).1 : Nat), .int .i64 ((rvl 0 0 xs).2.1 : Nat), .int .i64 ((rvl 0 0 xs).2.2 : Nat)]) ∧ w = w' := by
  have HA := hide hA
  have HN := hide hn
  have HB := hide hb
  clear hA hn hb
  obtain ⟨r, hr⟩ : ∃ r, r = rvl 0 0 xs := ⟨_, rfl⟩
  rw [← hr]
  have HR := hide hr
  clear hr
  go_enter Try.func26, Try.ntmps26
  go_wp2
  go_loop [5, 6] (fun s i => ∃ k v : Nat, k ≤ n ∧ k ≤ 9 ∧ i = .int .i64 (k : Int) ∧ s = .int .u64 (v : Int) ∧ Hid (v < 2 ^ (7 * k)) ∧ Hid (r = rvl k v (xs.drop k))) (fun _ i => n - (intOf i).toNat)
  case atStart => exact ⟨0, 0, by omega, by omega, rfl, rfl, by unfold Hid; decide, HR.out⟩
  case round =>
    obtain ⟨k, v, hk, hk9, rfl, rfl, hv, hrv⟩ := hrel
    by_cases hlt : k < n
    · obtain ⟨b, off, rfl, hcell⟩ := HA.out (by intro e; rw [HN.out, e] at hlt; simp at hlt)
      obtain ⟨x, cx, lx, ex⟩ := rd_at hcell HB.out k (by rw [← HN.out]; exact hlt)
      have hd := drop_get (xs := xs) (k := k) (by rw [← HN.out]; exact hlt)
      rw [← ex] at hd
      have hrv := hrv.out
      rw [hd] at hrv
      clear hcell hd ex
      have hv63 := v_lt hk9 hv.out
      by_cases h1 : k = 9 ∧ 1 < x
      · obtain ⟨h9, h1⟩ := h1
        rw [rvl_last h9 h1] at hrv
        subst hrv
        subst h9
        by_cases h2 : 128 ≤ x
        · go_wp2
          go_ret3
          exact ⟨rfl, rfl⟩
        · go_wp2
          go_ret3
          exact ⟨rfl, rfl⟩
      · have HOR := hide (or_walk (c := x) hk9 (by omega) hv.out)
        by_cases h2 : 128 ≤ x
        · have h8 : k < 9 := by omega
          rw [rvl_more h8 h2] at hrv
          have HV := hide (step_lt (c := x) hv.out)
          have HRV := hide hrv
          clear hrv h1
          go_wp2
          go_round
          case rel => exact ⟨k + 1, _, by omega, by omega, by go_num, by rw [HOR.out], HV, HRV⟩
          case measure => simp [intOf]; omega
        · by_cases h0 : x = 0 ∧ 0 < k
          · obtain ⟨h0, h00⟩ := h0
            rw [rvl_zero h0 h00] at hrv
            subst hrv
            subst h0
            clear h1
            by_cases h9 : k = 9
            · subst h9
              go_wp2
              go_ret3
              exact ⟨rfl, rfl⟩
            · go_wp2
              go_ret3
              exact ⟨rfl, rfl⟩
          · rw [rvl_end h1 (by omega) h0] at hrv
            subst hrv
            by_cases h9 : k = 9
            · have hx : x = 1 := by omega
              subst hx
              subst h9
              clear h0 h1
              go_wp2
              go_ret3
              exact ⟨ret3 HOR.out (by omega) rfl, rfl⟩
            · by_cases hk0 : k = 0
              · have hk1 : k ≤ 0 := by omega
                clear h0 h1 hk0
                by_cases hx : x = 0
                · have hx1 : x ≤ 0 := by omega
                  clear hx
                  go_wp2
                  go_ret3
                  exact ⟨ret3 (or_zero v hv63) (by omega) rfl, rfl⟩
                · go_wp2
                  go_ret3
                  exact ⟨ret3 HOR.out (by omega) rfl, rfl⟩
              · have hx : ¬ x = 0 := by omega
                clear h0 h1
                go_wp2
                go_ret3
                exact ⟨ret3 HOR.out (by omega) rfl, rfl⟩
    · have hd : xs.drop k = [] := List.drop_of_length_le (by rw [← HN.out]; omega)
      have hrv := hrv.out
      rw [hd, rvl_nil] at hrv
      subst hrv
      clear hd
      go_wp2
      go_ret3
      exact ⟨rfl, rfl⟩
end Go.Proofs.Ytdbngchbhoanpaa
