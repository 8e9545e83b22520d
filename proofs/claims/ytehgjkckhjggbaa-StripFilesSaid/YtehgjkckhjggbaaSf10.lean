/- A shard's file by lists: written and read. No program. An append of bytes to a slice of the call's own, with where the new slice lies. Condition: the lengths together are below 2 to the 47. Four bytes, the highest first: the contract of the document's own Put32. Conditions: the widths. The contract of the document's own sum, which goes by half bytes and a table: of any bytes it is the CRC, reckoned digit by digit. Condition: no row is longer than a slice may be. The contract of the document's File. Condition: at most 900000 bytes. The contract of bytes.Clone. Condition: the row is below 2 to the 40. The contract of the document's own Get32, of four bytes that are there. Condition: no row is longer than a slice may be. The contract of the law's own comparison: whether two rows of bytes are the same. Condition: no row is longer than a slice may be. -/
import Derived.Test.YtehgjkckhjggbaaSf8
import Derived.Test.YtehgjkckhjggbaaSf9
import Derived.Test.YtehgjkckhjggbaaSf6
import Derived.Maps.AppendAt
import Derived.Lib.SliceRun
namespace Go.Proofs.Ytehgjkckhjggbaa
/-- Bytes and their sum. -/
def sumd (p : List Nat) : List Nat := p ++ be32 (sumS p)
theorem sumd_len (p : List Nat) : (sumd p).length = p.length + 4 := by simp [sumd, be32_len]
def head16 (id i size : Nat) : List Nat := be32 1735590144 ++ be32 id ++ be32 i ++ be32 size
theorem head16_len (id i size : Nat) : (head16 id i size).length = 16 := rfl
/-- A chunk of bytes. -/
def chunkS (z : Nat) (b : List Nat) (r : Nat) : List Nat := (b.drop (r * z)).take z
theorem chunkS_len {z : Nat} {b : List Nat} {r N : Nat} (h : b.length = N * z) (hr : r < N) : (chunkS z b r).length = z := by
  have := Nat.mul_le_mul_right z (show r + 1 ≤ N by omega)
  rw [Nat.add_mul, Nat.one_mul] at this
  rw [chunkS, List.length_take, List.length_drop]
  omega
theorem chunkS_byte {z : Nat} {b : List Nat} {r : Nat} (h : ∀ x ∈ b, x < 256) : ∀ x ∈ chunkS z b r, x < 256 := fun x hx => h x (List.mem_of_mem_drop (List.mem_of_mem_take hx))
/-- The first rows, each with its sum. -/
def sumdRows (b : List Nat) : Nat → List Nat
  | 0 => []
  | r + 1 => sumdRows b r ++ sumd (chunkS 16 b r)
theorem sumdRows_len {b : List Nat} {N : Nat} (h : b.length = N * 16) : ∀ r, r ≤ N → (sumdRows b r).length = r * 20
  | 0, _ => rfl
  | r + 1, hr => by
    rw [sumdRows, List.length_append, sumdRows_len h r (by omega), sumd_len, chunkS_len h (by omega)]
    omega
def okHead (id i size : Int) : Prop := (0 ≤ id ∧ id ≤ 2147483647) ∧ (0 ≤ i ∧ i ≤ 2147483647) ∧ 1 ≤ size ∧ size ≤ 4194304
instance (id i size : Int) : Decidable (okHead id i size) := by unfold okHead; infer_instance
def fileBad (id i size : Int) (n : Nat) : Prop := ¬ okHead id i size ∨ n = 0 ∨ n % 16 ≠ 0
instance (id i size : Int) (n : Nat) : Decidable (fileBad id i size n) := by unfold fileBad; infer_instance
def fileB (id i size : Nat) (rows : List Nat) : List Nat := sumd (head16 id i size) ++ sumdRows rows (rows.length / 16)
def fileL (id i size : Int) (rows : List Nat) : List Nat := if fileBad id i size rows.length then [] else fileB id.toNat i.toNat size.toNat rows
def fileE (id i size : Int) (rows : List Nat) : Int := if fileBad id i size rows.length then 1 else 0
theorem fileB_len {id i size : Nat} {rows : List Nat} (h : rows.length % 16 = 0) : (fileB id i size rows).length = 20 + rows.length / 16 * 20 := by
  rw [fileB, List.length_append, sumd_len, head16_len, sumdRows_len (N := rows.length / 16) (by omega) _ (Nat.le_refl _)]
theorem byte_app' {a b : List Nat} (h : ∀ x ∈ a, x < 256) (k : ∀ x ∈ b, x < 256) : ∀ x ∈ a ++ b, x < 256 := fun x hx => (List.mem_append.1 hx).elim (h x) (k x)
theorem sumd_byte {p : List Nat} (h : ∀ x ∈ p, x < 256) : ∀ x ∈ sumd p, x < 256 := byte_app' h (be32_byte _)
theorem head16_byte (id i size : Nat) : ∀ x ∈ head16 id i size, x < 256 := byte_app' (byte_app' (byte_app' (be32_byte _) (be32_byte _)) (be32_byte _)) (be32_byte _)
theorem sumdRows_byte {b : List Nat} (h : ∀ x ∈ b, x < 256) : ∀ r, ∀ x ∈ sumdRows b r, x < 256
  | 0 => fun x hx => by cases hx
  | r + 1 => byte_app' (sumdRows_byte h r) (sumd_byte (chunkS_byte h))
theorem fileB_byte {id i size : Nat} {rows : List Nat} (h : ∀ x ∈ rows, x < 256) : ∀ x ∈ fileB id i size rows, x < 256 := byte_app' (sumd_byte (head16_byte _ _ _)) (sumdRows_byte h _)
theorem fileL_byte {id i size : Int} {rows : List Nat} (h : ∀ x ∈ rows, x < 256) : ∀ x ∈ fileL id i size rows, x < 256 := by
  unfold fileL
  split
  · intro x hx; cases hx
  · exact fileB_byte h
/-! ### reading -/
/-- A row of a file, empty where its sum is not right. -/
def rowR (c : List Nat) : List Nat := if val32 (c.drop 16) = sumS (c.take 16) then c.take 16 else []
def rowsR (b : List Nat) : Nat → List (List Nat)
  | 0 => []
  | r + 1 => rowsR b r ++ [rowR (chunkS 20 (b.drop 20) r)]
theorem rowsR_len (b : List Nat) : ∀ r, (rowsR b r).length = r
  | 0 => rfl
  | r + 1 => by rw [rowsR, List.length_append, rowsR_len b r]; rfl
/-- What a file says: the error, the numbers, the rows. -/
def readS (b : List Nat) : Nat × Nat × Nat × Nat × List (List Nat) :=
  if b.length < 20 then (2, 0, 0, 0, [])
  else if val32 b ≠ 1735590144 ∨ b.length = 20 ∨ (b.length - 20) % 20 ≠ 0 then (3, 0, 0, 0, [])
  else if val32 (b.drop 16) ≠ sumS (b.take 16) then (4, 0, 0, 0, [])
  else if ¬ okHead (val32 (b.drop 4)) (val32 (b.drop 8)) (val32 (b.drop 12)) then (1, 0, 0, 0, [])
  else (0, val32 (b.drop 4), val32 (b.drop 8), val32 (b.drop 12), rowsR b ((b.length - 20) / 20))
end Go.Proofs.Ytehgjkckhjggbaa
namespace Go.Proofs.Ytehgjkckhjggbaa
open Go.RowKit
theorem wpList_append_at {w : World} {ops : Array Oper} {rest : List Oper} {o : Oper} {a : Act} {Q : Exit → Act → World → Prop} (hgd : o.guard = none) (s x : Operand)
    (ho : o.op = .call { callee := .builtin .append, args := #[s, x], argTypes := #[23, 23] })
    (B : Nat) (v : Value) (xs : List Nat) (hs : a.eval s = v) (hown : Own w B v xs)
    (u : Value) (ys : List Nat) (hx : a.eval x = u) (hr : IsB w u ys)
    (hlen : xs.length + ys.length ≤ 140737488355328) (hbase : B ≤ w.heap.size)
    (h : ∀ v' w', Own w' B v' (xs ++ ys) → w.grownBy w' v.ownBlock → (v'.ownBlock = v.ownBlock ∨ v'.ownBlock = some w.heap.size) → wpList Try.prog ops Q rest (a.put o.dst v') w') : wpList Try.prog ops Q (o :: rest) a w := by
  obtain ⟨i0, hi, hz0, hz1, hz2⟩ := info_parts Try.info_u8'
  obtain ⟨A, c, rfl, hr, hn, _⟩ := hr
  have fin : ∀ v' w', w'.ownsRow B 5 1 v' (xs.length + ys.length) ((xs.map fun x : Nat => Value.int .u8 (x : Int)) ++ (ys.map fun x : Nat => Value.int .u8 (x : Int))) → w.grownBy w' v.ownBlock → (v'.ownBlock = v.ownBlock ∨ v'.ownBlock = some w.heap.size) → wpList Try.prog ops Q rest (a.put o.dst v') w' := by
    intro v' w' hown' hg hl
    exact h v' w' (by unfold Own; simpa using hown') hg hl
  rcases A with _ | ad
  · have h0 := hn rfl
    subst h0
    have hys : ys = [] := by
      rcases ys with _ | ⟨y, ys⟩
      · rfl
      · obtain ⟨_, _, e, _⟩ := hr (by simp)
        cases e
    subst hys
    exact wpList_append_own_none hgd s x _ ho B 5 i0 1 Try.underlying23 hi v _ _ hs hown hx (fin v w (by simpa [Own] using hown) (World.grownBy.refl w _) (.inl rfl))
  · refine wpList_append_own_at w hgd s x _ ho B 5 i0 (.int .u8 0) 1 1 Try.underlying23 hi hz0 hz1 hz2 rfl (by decide) v _ _ hs hown ad ys.length c (ys.map fun x : Nat => Value.int .u8 (x : Int)) hx (by simp) ?_ ?_ (by unfold maxLen; omega) (by omega) hbase (fun v' w' h1 h2 _ h4 => fin v' w' h1 h2 h4)
    · intro j u hu
      have hj : j < ys.length := by
        rcases Nat.lt_or_ge j ys.length with h | h
        · exact h
        · simp [h] at hu
      obtain ⟨b, off, e, hc⟩ := hr (by intro e; rw [e] at hj; simp at hj)
      cases e
      have := hc j hj
      simp [hj] at hu
      subst hu
      simpa [add_off, hj] using this
    · intro u hu
      simp at hu
      obtain ⟨y, _, rfl⟩ := hu
      rfl
end Go.Proofs.Ytehgjkckhjggbaa
namespace Go.Proofs.Ytehgjkckhjggbaa
open Go.RowKit
set_option maxHeartbeats 400000 in
theorem rput32_any (x : Int) (v : Nat) (hx : x = (v : Int)) (w : World) (hv : v < 4294967296) :
    Calls Try.prog 73 #[.int .u32 x] w fun e w' => ∃ s, e = .returned s ∧ Own w' w.heap.size s (be32 v) ∧ Below w.heap.size w w' := by
  subst hx
  go_enter Try.func73, Try.ntmps73
  go_wp2
  go_ret
  exact ⟨_, rfl, own_be32 w v hv, (Below.refl _ _).alloc (Nat.le_refl _) _⟩
end Go.Proofs.Ytehgjkckhjggbaa
namespace Go.Proofs.Ytehgjkckhjggbaa
open Go.RowKit
theorem crcStep_xor (a b : Nat) : crcStep (a ^^^ b) = crcStep a ^^^ crcStep b := by
  have h1 : (a ^^^ b) / 2 = a / 2 ^^^ b / 2 := Nat.xor_div_two_pow (n := 1)
  have h2 : (a ^^^ b) % 2 = (a % 2) ^^^ (b % 2) := Nat.xor_mod_two_pow (n := 1)
  unfold crcStep
  rw [h1, h2]
  rcases Nat.mod_two_eq_zero_or_one a with ha | ha <;> rcases Nat.mod_two_eq_zero_or_one b with hb | hb <;> rw [ha, hb]
  · rfl
  · show (a / 2 ^^^ b / 2) ^^^ 3988292384 = a / 2 ^^^ (b / 2 ^^^ 3988292384)
    rw [Nat.xor_assoc]
  · show (a / 2 ^^^ b / 2) ^^^ 3988292384 = (a / 2 ^^^ 3988292384) ^^^ b / 2
    rw [Nat.xor_assoc, Nat.xor_assoc, Nat.xor_comm (b / 2)]
  · show a / 2 ^^^ b / 2 = (a / 2 ^^^ 3988292384) ^^^ (b / 2 ^^^ 3988292384)
    rw [Nat.xor_comm (b / 2) 3988292384, Nat.xor_assoc, ← Nat.xor_assoc 3988292384, Nat.xor_self, Nat.zero_xor]
theorem crcB_xor (a b : Nat) : ∀ k, crcB (a ^^^ b) k = crcB a k ^^^ crcB b k
  | 0 => rfl
  | k + 1 => by
    show crcStep (crcB (a ^^^ b) k) = crcStep (crcB a k) ^^^ crcStep (crcB b k)
    rw [crcB_xor a b k, crcStep_xor]
theorem crcStep_twice (q : Nat) : crcStep (2 * q) = q := by
  unfold crcStep
  rw [if_neg (by omega)]
  omega
theorem crcB_16 (q : Nat) : crcB (16 * q) 4 = q := by
  show crcStep (crcStep (crcStep (crcStep (16 * q)))) = q
  have e1 : 16 * q = 2 * (2 * (2 * (2 * q))) := by omega
  rw [e1, crcStep_twice, crcStep_twice, crcStep_twice, crcStep_twice]
theorem half_byte (s : Nat) : crcB s 4 = s / 16 ^^^ crcB (s % 16) 4 := by
  have e : (16 * (s / 16)) ^^^ (s % 16) = s := by
    obtain ⟨t, ht⟩ : ∃ t, t = (16 * (s / 16)) ^^^ (s % 16) := ⟨_, rfl⟩
    have h1 : t / 16 = (16 * (s / 16)) / 16 ^^^ (s % 16) / 16 := by rw [ht]; exact Nat.xor_div_two_pow (n := 4)
    have h2 : t % 16 = (16 * (s / 16)) % 16 ^^^ (s % 16) % 16 := by rw [ht]; exact Nat.xor_mod_two_pow (n := 4)
    have e1 : (16 * (s / 16)) / 16 = s / 16 := by omega
    have e2 : (s % 16) / 16 = 0 := by omega
    have e3 : (16 * (s / 16)) % 16 = 0 := by omega
    have e4 : (s % 16) % 16 = s % 16 := by omega
    rw [e1, e2, Nat.xor_zero] at h1
    rw [e3, e4, Nat.zero_xor] at h2
    rw [← ht]
    omega
  have h := crcB_xor (16 * (s / 16)) (s % 16) 4
  rw [e, crcB_16] at h
  exact h
theorem half_walk (s q m : Nat) (hs : s < 4294967296) (hq : q = s / 16) (hm : m = s % 16) : bits .xor .u32 (q : Int) ((crcB m 4 : Nat) : Int) = ((crcB s 4 : Nat) : Int) := by
  rw [half_byte s, ← hq, ← hm]
  exact xor32 _ _ (by omega) (crcB_lt (by omega) 4)
theorem crcStep_odd (t : Nat) (h : t % 2 = 1) (ht : t < 4294967296) : bits .xor .u32 ((t : Int) / 2) 3988292384 = ((crcStep t : Nat) : Int) := half_poly t ht h
theorem crcStep_even (t : Nat) (h : t % 2 = 0) : (t : Int) / 2 = ((crcStep t : Nat) : Int) := by
  unfold crcStep
  rw [if_neg (by omega)]
  simp
set_option maxHeartbeats 400000 in
theorem digit_any (n : Nat) (w : World) (hn : n < 4294967296) :
    Calls Try.prog 109 #[.int .u32 (n : Int)] w fun e w' => e = .returned (.int .u32 (crcB n 4 : Nat)) ∧ w = w' := by
  have HNN : Hid (n < 4294967296) := hide hn
  clear hn
  go_enter Try.func109, Try.ntmps109
  go_wp2
  go_loop [0, 3] (fun t i => ∃ j : Nat, j ≤ 4 ∧ i = .int .i64 (j : Int) ∧ t = .int .u32 (crcB n j : Nat)) (fun _ i => 4 - (intOf i).toNat)
  case atStart => exact ⟨0, Nat.zero_le _, rfl, rfl⟩
  case round =>
    obtain ⟨j, hj, rfl, rfl⟩ := hrel
    have ht := crcB_lt HNN.out j
    by_cases hlt : j < 4
    · have hst : crcB n (j + 1) = crcStep (crcB n j) := rfl
      obtain ⟨t, hte⟩ : ∃ t, t = crcB n j := ⟨_, rfl⟩
      rw [← hte] at ht hst ⊢
      have HST := hide hst
      clear hst hte
      by_cases hodd : t % 2 = 1
      · have h2 := crcStep_odd t hodd ht
        go_wp2
        go_round
        case rel => exact ⟨j + 1, by omega, by go_num, by rw [HST.out]⟩
        case measure => simp [intOf]; omega
      · have h0 : t % 2 = 0 := by omega
        have H2 := hide (crcStep_even t h0)
        clear hodd
        go_wp2
        go_round
        case rel => exact ⟨j + 1, by omega, by go_num, by rw [HST.out, H2.out]⟩
        case measure => simp [intOf]; omega
    · obtain rfl : j = 4 := by omega
      go_wp2
      go_ret
      exact ⟨rfl, rfl⟩
/-- A block of cells that the call made, as a table. -/
def Tab (w : World) (g : Nat) (e : TypeId) (n : Nat) (f : Nat → Value) (k : Nat) : Prop := ∃ cur, cur.size = n ∧ w.heap[g]? = some (.cells cur e (0, 0)) ∧ ∀ j, j < k → cur[j]? = some (f j)
theorem Tab.cell {w : World} {g : Nat} {e : TypeId} {n k : Nat} {f : Nat → Value} (h : Tab w g e n f k) {j : Nat} (hj : j < k) : w.cell? ⟨g, j, none⟩ = some (f j) := by
  obtain ⟨cur, _, hg, hc⟩ := h
  rw [cell_of_row w g j cur e (0, 0) hg]
  exact hc j hj
theorem Tab.some_ {w : World} {g : Nat} {e : TypeId} {n k : Nat} {f : Nat → Value} (h : Tab w g e n f k) {j : Nat} (hj : j < n) : ∃ v, w.cell? ⟨g, j, none⟩ = some v := by
  obtain ⟨cur, hs, hg, _⟩ := h
  refine ⟨cur[j]'(by omega), ?_⟩
  rw [cell_of_row w g j cur e (0, 0) hg]
  simp
theorem Tab.frozen {w : World} {g : Nat} {e : TypeId} {n k : Nat} {f : Nat → Value} (h : Tab w g e n f k) (j : Nat) : w.frozen? ⟨g, j, none⟩ = false := by
  obtain ⟨cur, _, hg, _⟩ := h
  exact frozen_of_row w g j cur e hg
theorem Tab.lt {w : World} {g : Nat} {e : TypeId} {n k : Nat} {f : Nat → Value} (h : Tab w g e n f k) : g < w.heap.size := by
  obtain ⟨cur, _, hg, _⟩ := h
  rcases Nat.lt_or_ge g w.heap.size with hlt | hge
  · exact hlt
  · simp [Array.getElem?_eq_none hge] at hg
theorem Tab.set {w : World} {g : Nat} {e : TypeId} {n k : Nat} {f : Nat → Value} (h : Tab w g e n f k) (hk : k < n) : Tab (w.setCell ⟨g, k, none⟩ (f k)) g e n f (k + 1) := by
  obtain ⟨cur, hs, hg, hc⟩ := h
  refine ⟨cur.setIfInBounds k (f k), by simpa using hs, heap_setCell_same w g k cur e (f k) hg, fun j hj => ?_⟩
  by_cases hjk : k = j
  · subst hjk
    simp [hs, hk]
  · rw [Array.getElem?_setIfInBounds, if_neg hjk]
    exact hc j (by omega)
theorem Tab.new (w : World) (cs : Array Value) (e : TypeId) (n g : Nat) (f : Nat → Value) (hs : cs.size = n) (hg : g = w.heap.size) : Tab (w.alloc (.cells cs e)) g e n f 0 := by
  subst hg
  exact ⟨cs, hs, heap_alloc_new w _, fun j hj => absurd hj (by omega)⟩
set_option maxHeartbeats 1600000 in
set_option maxRecDepth 100000 in
theorem rsum_any (A : Option Addr) (n ca : Nat) (xs : List Nat) (w : World) (hA : Rd w A xs) (hn : n = xs.length) (hb : ∀ x ∈ xs, x < 256) (ln : n ≤ 9223372036854775807) :
    Calls Try.prog 74 #[.slice A n ca] w fun e w' => e = .returned (.int .u32 (sumS xs : Nat)) ∧ Below w.heap.size w w' := by
  have HN := hide hn
  have HA := hide hA
  have HB := hide hb
  clear hn hA hb
  go_enter Try.func74, Try.ntmps74
  go_wp2
  go_loopw [4] (fun i wr => ∃ k : Nat, k ≤ 16 ∧ i = .int .i64 (k : Int) ∧ Hid (Tab wr w.heap.size 168 16 (fun j => .int .u32 (crcB j 4 : Nat)) k) ∧ Hid (Below w.heap.size w wr)) (fun i _ => 16 - (intOf i).toNat)
  case atStart => exact ⟨0, Nat.zero_le _, rfl, Tab.new _ _ _ _ _ _ rfl rfl, (Below.refl _ _).alloc (Nat.le_refl _) _⟩
  case round =>
    obtain ⟨k, hk, rfl, htab, hbel⟩ := hrel
    by_cases hlt : k < 16
    · obtain ⟨v, ck⟩ := htab.out.some_ hlt
      have fk := htab.out.frozen k
      have T2 := hide (htab.out.set hlt)
      have B2 := hide (show Below w.heap.size w (wr.setCell ⟨w.heap.size, k, none⟩ (.int .u32 (crcB k 4 : Nat))) from hbel.out.setCell (Nat.le_refl _) _)
      go_wp2_with fail
      refine (digit_any k _ (by omega)).mono ?_
      rintro e w1 ⟨rfl, rfl⟩
      go_wp2_with fail
      go_roundw
      case rel => exact ⟨k + 1, by omega, by go_num, T2, B2⟩
      case measure => simp [intOf]; omega
    · obtain rfl : k = 16 := by omega
      have HA2 := hide (HA.out.below hbel.out)
      clear HA hlt
      go_wp2_with fail
      go_loop [5, 6] (fun s i => ∃ k : Nat, k ≤ n ∧ i = .int .i64 (k : Int) ∧ s = .int .u32 (crcF 4294967295 (xs.take k) : Nat)) (fun _ i => n - (intOf i).toNat)
      case atStart => exact ⟨0, Nat.zero_le _, rfl, rfl⟩
      case round =>
        obtain ⟨k, hk, rfl, rfl⟩ := hrel
        have hs := crcF_lt (s := 4294967295) (by decide) (xs := xs.take k) (fun x hx => HB.out x (List.mem_of_mem_take hx))
        by_cases hlt : k < n
        · obtain ⟨b1, o1, rfl, c1⟩ := HA2.out (by intro e; rw [HN.out, e] at hlt; simp at hlt)
          obtain ⟨x, k1, hx, ex⟩ := rd_at c1 HB.out k (by rw [← HN.out]; exact hlt)
          have hsn := crcF_snoc 4294967295 xs k (by rw [← HN.out]; exact hlt)
          obtain ⟨s, hse⟩ : ∃ s, s = crcF 4294967295 (xs.take k) := ⟨_, rfl⟩
          rw [← ex] at hsn
          rw [← hse] at hs hsn ⊢
          have HSN := hide hsn
          clear hsn ex hse c1
          have hxor := xor32 s x hs (by omega)
          have hs1 := xor_lt32 hs (show x < 4294967296 by omega)
          obtain ⟨s1, hs1e⟩ : ∃ s1, s1 = s ^^^ x := ⟨_, rfl⟩
          rw [← hs1e] at hxor hs1
          obtain ⟨q1, hq1⟩ : ∃ q1, q1 = s1 / 16 := ⟨_, rfl⟩
          obtain ⟨m1, hm1⟩ : ∃ m1, m1 = s1 % 16 := ⟨_, rfl⟩
          have x1 := half_walk s1 q1 m1 hs1 hq1 hm1
          have d1 : (s1 : Int) / 16 = (q1 : Int) := by omega
          have r1 : (s1 : Int) % 16 = (m1 : Int) := by omega
          have t1 := htab.out.cell (j := m1) (by omega)
          have hs2 := crcB_lt hs1 4
          have h8 : crcB s1 8 = crcB (crcB s1 4) 4 := rfl
          obtain ⟨s2, hs2e⟩ : ∃ s2, s2 = crcB s1 4 := ⟨_, rfl⟩
          rw [← hs2e] at x1 hs2 h8
          obtain ⟨q2, hq2⟩ : ∃ q2, q2 = s2 / 16 := ⟨_, rfl⟩
          obtain ⟨m2, hm2⟩ : ∃ m2, m2 = s2 % 16 := ⟨_, rfl⟩
          have x2 := half_walk s2 q2 m2 hs2 hq2 hm2
          have d2 : (s2 : Int) / 16 = (q2 : Int) := by omega
          have r2 : (s2 : Int) % 16 = (m2 : Int) := by omega
          have t2 := htab.out.cell (j := m2) (by omega)
          have l1 : m1 < 16 := by omega
          have l2 : m2 < 16 := by omega
          have H8 := hide h8
          have HS1 := hide hs1e
          clear h8 hs1e hs2e hq1 hm1 hq2 hm2
          go_wp2_with fail
          go_round
          case rel => exact ⟨k + 1, by omega, by go_num, by rw [HSN.out, ← HS1.out, H8.out]⟩
          case measure => simp [intOf]; omega
        · have he : xs.take k = xs := List.take_of_length_le (by rw [← HN.out]; omega)
          rw [he] at hs ⊢
          have hnot := not32 (crcF 4294967295 xs) hs
          have hsum : sumS xs = 4294967295 - crcF 4294967295 xs := rfl
          rw [← hsum] at hnot
          have hsig : IntKind.u32.signed = false := rfl
          clear hsum he
          go_wp2_with fail
          go_ret
          exact ⟨rfl, hbel.out⟩
end Go.Proofs.Ytehgjkckhjggbaa
namespace Go.Proofs.Ytehgjkckhjggbaa
open Go.RowKit
set_option maxRecDepth 100000 in
set_option maxHeartbeats 3200000 in
theorem rfile_any (id i size : Int) (A : Option Addr) (n c : Nat) (rows : List Nat) (w : World) (hA : IsB w (.slice A n c) rows) (hn : rows.length = n) (hb : ∀ x ∈ rows, x < 256) (h9 : n ≤ 900000) :
    Calls Try.prog 33 #[.int .i64 id, .int .i64 i, .int .i64 size, .slice A n c] w fun e w' => ∃ s, e = .returned (.tuple #[s, .int .i64 (fileE id i size rows)]) ∧ Own w' w.heap.size s (fileL id i size rows) ∧ Below w.heap.size w w' := by
  by_cases c1 : id < 0
  · have hbad : fileBad id i size rows.length := .inl (fun h => by have := h.1.1; omega)
    have e1 : fileE id i size rows = 1 := if_pos hbad
    have e2 : fileL id i size rows = [] := if_pos hbad
    rw [e1, e2]
    clear e1 e2 hbad hA hn hb
    go_enter Try.func33, Try.ntmps33
    go_wp2_with fail
    go_ret2
    exact ⟨_, rfl, World.ownsRow_nil _ _ _ _, Below.refl _ _⟩
  · skip
    by_cases c2 : 2147483647 < id
    · have hbad : fileBad id i size rows.length := .inl (fun h => by have := h.1.2; omega)
      have e1 : fileE id i size rows = 1 := if_pos hbad
      have e2 : fileL id i size rows = [] := if_pos hbad
      rw [e1, e2]
      clear e1 e2 hbad hA hn hb
      go_enter Try.func33, Try.ntmps33
      go_wp2_with fail
      go_ret2
      exact ⟨_, rfl, World.ownsRow_nil _ _ _ _, Below.refl _ _⟩
    · skip
      by_cases c3 : i < 0
      · have hbad : fileBad id i size rows.length := .inl (fun h => by have := h.2.1.1; omega)
        have e1 : fileE id i size rows = 1 := if_pos hbad
        have e2 : fileL id i size rows = [] := if_pos hbad
        rw [e1, e2]
        clear e1 e2 hbad hA hn hb
        go_enter Try.func33, Try.ntmps33
        go_wp2_with fail
        go_ret2
        exact ⟨_, rfl, World.ownsRow_nil _ _ _ _, Below.refl _ _⟩
      · skip
        by_cases c4 : 2147483647 < i
        · have hbad : fileBad id i size rows.length := .inl (fun h => by have := h.2.1.2; omega)
          have e1 : fileE id i size rows = 1 := if_pos hbad
          have e2 : fileL id i size rows = [] := if_pos hbad
          rw [e1, e2]
          clear e1 e2 hbad hA hn hb
          go_enter Try.func33, Try.ntmps33
          go_wp2_with fail
          go_ret2
          exact ⟨_, rfl, World.ownsRow_nil _ _ _ _, Below.refl _ _⟩
        · skip
          by_cases c5 : size < 1
          · have hbad : fileBad id i size rows.length := .inl (fun h => by have := h.2.2.1; omega)
            have e1 : fileE id i size rows = 1 := if_pos hbad
            have e2 : fileL id i size rows = [] := if_pos hbad
            rw [e1, e2]
            clear e1 e2 hbad hA hn hb
            go_enter Try.func33, Try.ntmps33
            go_wp2_with fail
            go_ret2
            exact ⟨_, rfl, World.ownsRow_nil _ _ _ _, Below.refl _ _⟩
          · skip
            by_cases c6 : 4194304 < size
            · have hbad : fileBad id i size rows.length := .inl (fun h => by have := h.2.2.2; omega)
              have e1 : fileE id i size rows = 1 := if_pos hbad
              have e2 : fileL id i size rows = [] := if_pos hbad
              rw [e1, e2]
              clear e1 e2 hbad hA hn hb
              go_enter Try.func33, Try.ntmps33
              go_wp2_with fail
              go_ret2
              exact ⟨_, rfl, World.ownsRow_nil _ _ _ _, Below.refl _ _⟩
            · skip
              by_cases hn0 : n = 0
              · have hbad : fileBad id i size rows.length := .inr (.inl (by omega))
                have e1 : fileE id i size rows = 1 := if_pos hbad
                have e2 : fileL id i size rows = [] := if_pos hbad
                rw [e1, e2]
                clear e1 e2 hbad hA hn hb
                subst hn0
                go_enter Try.func33, Try.ntmps33
                go_wp2_with fail
                go_ret2
                exact ⟨_, rfl, World.ownsRow_nil _ _ _ _, Below.refl _ _⟩
              · have hn0z : ((n : Int) == 0) = false := by simp; omega
                by_cases hn16 : n % 16 = 0
                rotate_left
                · have hbad : fileBad id i size rows.length := .inr (.inr (by omega))
                  have e1 : fileE id i size rows = 1 := if_pos hbad
                  have e2 : fileL id i size rows = [] := if_pos hbad
                  rw [e1, e2]
                  clear e1 e2 hbad hA hn hb
                  obtain ⟨q, hq⟩ : ∃ q, q = n % 16 := ⟨_, rfl⟩
                  have hqz : (n : Int) % 16 = (q : Int) := by omega
                  have hq0 : ((q : Int) != 0) = true := by simp; omega
                  have hq1 : q < 16 := by omega
                  clear hq hn16 hn0
                  go_enter Try.func33, Try.ntmps33
                  go_wp2_with fail
                  go_ret2
                  exact ⟨_, rfl, World.ownsRow_nil _ _ _ _, Below.refl _ _⟩
                · have hno : ¬ fileBad id i size rows.length := by
                    rintro (h | h | h)
                    · exact h ⟨⟨by omega, by omega⟩, ⟨by omega, by omega⟩, by omega, by omega⟩
                    · omega
                    · omega
                  have e1 : fileE id i size rows = 0 := if_neg hno
                  have e2 : fileL id i size rows = fileB id.toNat i.toNat size.toNat rows := if_neg hno
                  rw [e1, e2]
                  obtain ⟨a, rfl⟩ : ∃ a : Nat, id = (a : Int) := ⟨id.toNat, by omega⟩
                  obtain ⟨j, rfl⟩ : ∃ j : Nat, i = (j : Int) := ⟨i.toNat, by omega⟩
                  obtain ⟨s, rfl⟩ : ∃ s : Nat, size = (s : Int) := ⟨size.toNat, by omega⟩
                  rw [Int.toNat_natCast, Int.toNat_natCast, Int.toNat_natCast]
                  obtain ⟨N, hN⟩ : ∃ N, N = n / 16 := ⟨_, rfl⟩
                  have hnN : n = N * 16 := by omega
                  have hE : fileB a j s rows = sumd (head16 a j s) ++ sumdRows rows N := by unfold fileB; rw [hn, ← hN]
                  rw [hE]
                  obtain ⟨ab, ao, rfl⟩ := isB_at hA (by omega)
                  have hnc := (isB_len hA).2
                  have HA := hide hA
                  have HN := hide hn
                  have HB := hide hb
                  have hm16 : (n : Int) % 16 = 0 := by omega
                  have HNN := hide hnN
                  have hn1 : 1 ≤ n := by omega
                  have u1 : IntKind.u32.wrap (a : Int) = (a : Int) := by rw [IntKind.wrap_u32]; omega
                  have u2 : IntKind.u32.wrap (j : Int) = (j : Int) := by rw [IntKind.wrap_u32]; omega
                  have u3 : IntKind.u32.wrap (s : Int) = (s : Int) := by rw [IntKind.wrap_u32]; omega
                  have q1 : a < 4294967296 := by omega
                  have q2 : j < 4294967296 := by omega
                  have q3 : s < 4294967296 := by omega
                  clear e1 e2 hA hn hb hE hno hnN hN hn16
                  have nb0 : Below w.heap.size w (w.alloc (.cells #[.int .u8 103, .int .u8 115, .int .u8 1, .int .u8 0] 5)) := (Below.refl _ _).alloc (Nat.le_refl _) _
                  have ob0 : Own (w.alloc (.cells #[.int .u8 103, .int .u8 115, .int .u8 1, .int .u8 0] 5)) w.heap.size (.slice (some ⟨w.heap.size, 0, none⟩) 4 4) [103, 115, 1, 0] := own_lit w #[.int .u8 103, .int .u8 115, .int .u8 1, .int .u8 0] [103, 115, 1, 0] rfl (by decide)
                  go_enter Try.func33, Try.ntmps33
                  go_wp2_with fail
                  refine (rput32_any _ a rfl _ q1).mono ?_
                  rintro e w2 ⟨s2, rfl, o2, k2⟩
                  have O2 := hide (ob0.keep k2)
                  have I2 := hide o2.isB
                  have K2 := hide (nb0.trans (k2.mono nb0.size))
                  clear o2 k2 ob0 nb0
                  go_wp2_with (at_builtin; refine halt ?_)
                  refine ⟨?_⟩
                  refine wpList_append_bytes rfl (.tmp 46) (.tmp 49) rfl w.heap.size _ [103, 115, 1, 0] rfl O2.out _ (be32 a) rfl I2.out (by simp [be32_len]) K2.out.size ?_
                  intro v3 w3 o3 k3
                  have O3 := hide o3
                  have K3 := hide (K2.out.trans k3)
                  clear o3 k3 O2 K2 I2
                  go_wp2_with fail
                  refine (rput32_any _ j rfl _ q2).mono ?_
                  rintro e w4 ⟨s4, rfl, o4, k4⟩
                  have O4 := hide (O3.out.keep k4)
                  have I4 := hide o4.isB
                  have K4 := hide (K3.out.trans (k4.mono K3.out.size))
                  clear o4 k4 O3 K3
                  go_wp2_with (at_builtin; refine halt ?_)
                  refine ⟨?_⟩
                  refine wpList_append_bytes rfl (.tmp 51) (.tmp 54) rfl w.heap.size _ _ rfl O4.out _ (be32 j) rfl I4.out (by simp [be32_len]) K4.out.size ?_
                  intro v5 w5 o5 k5
                  have O5 := hide o5
                  have K5 := hide (K4.out.trans k5)
                  clear o5 k5 O4 K4 I4
                  go_wp2_with fail
                  refine (rput32_any _ s rfl _ q3).mono ?_
                  rintro e w6 ⟨s6, rfl, o6, k6⟩
                  have O6 := hide (O5.out.keep k6)
                  have I6 := hide o6.isB
                  have K6 := hide (K5.out.trans (k6.mono K5.out.size))
                  clear o6 k6 O5 K5
                  go_wp2_with (at_builtin; refine halt ?_)
                  refine ⟨?_⟩
                  refine wpList_append_bytes rfl (.tmp 56) (.tmp 59) rfl w.heap.size _ _ rfl O6.out _ (be32 s) rfl I6.out (by simp [be32_len]) K6.out.size ?_
                  intro v7 w7 o7 k7
                  have o7 : Own w7 w.heap.size v7 (head16 a j s) := o7
                  obtain ⟨A7, c7, rfl, i7, l7, m7⟩ := o7.isB.form (n := 16) rfl
                  have O7 := hide o7
                  have I7 := hide i7
                  have K7 := hide (K6.out.trans k7)
                  clear o7 k7 O6 K6 I6 i7 l7 m7
                  go_wp2_with fail
                  refine (rsum_any A7 16 c7 (head16 a j s) w7 I7.out.rd rfl (head16_byte a j s) (by omega)).mono ?_
                  rintro e w8 ⟨rfl, k8⟩
                  have O8 := hide (O7.out.keep k8)
                  have K8 := hide (K7.out.trans (k8.mono K7.out.size))
                  clear k8 O7 K7 I7
                  go_wp2_with fail
                  refine (rput32_any _ (sumS (head16 a j s)) rfl _ (by unfold sumS; omega)).mono ?_
                  rintro e w9 ⟨s9, rfl, o9, k9⟩
                  have O9 := hide (O8.out.keep k9)
                  have I9 := hide o9.isB
                  have K9 := hide (K8.out.trans (k9.mono K8.out.size))
                  clear o9 k9 O8 K8
                  go_wp2_with (at_builtin; refine halt ?_)
                  refine ⟨?_⟩
                  refine wpList_append_bytes rfl (.tmp 61) (.tmp 64) rfl w.heap.size _ _ rfl O9.out _ (be32 (sumS (head16 a j s))) rfl I9.out (by rw [be32_len, head16_len]; omega) K9.out.size ?_
                  intro v10 w10 o10 k10
                  have O10 := hide (show Own w10 w.heap.size v10 (sumd (head16 a j s) ++ sumdRows rows 0) by rw [sumdRows, List.append_nil]; exact o10)
                  have K10 := hide (K9.out.trans k10)
                  clear o10 k10 O9 K9 I9
                  go_wp2_with fail
                  go_loopw [10, 11] (fun b at_ wr => ∃ r p : Nat, r ≤ N ∧ at_ = .int .i64 (p : Int) ∧ Hid (p = r * 16) ∧ Hid (Own wr w.heap.size b (sumd (head16 a j s) ++ sumdRows rows r)) ∧ Hid (Below w.heap.size w wr)) (fun _ at_ _ => n - (intOf at_).toNat)
                  case atStart => exact ⟨0, 0, Nat.zero_le _, rfl, hide rfl, O10, K10⟩
                  case round =>
                    clear O10 K10
                    obtain ⟨r, p, hr, rfl, hp, hO, hK⟩ := hrel
                    by_cases hrN : r < N
                    · have hpq : p + 16 ≤ n := by
                        have h8 := hp.out
                        have h7 := HNN.out
                        have := Nat.mul_le_mul_right 16 (show r + 1 ≤ N by omega)
                        omega
                      have hpn : (p : Int) < (n : Int) := by omega
                      obtain ⟨t, ht⟩ : ∃ t, t = p + 16 := ⟨_, rfl⟩
                      have htz : (p : Int) + 16 = (t : Int) := by omega
                      have hts : t - p = 16 := by omega
                      have hc1 : ¬ c = p := by omega
                      have hc2 : ¬ p = c := by omega
                      have h01 : (p : Int) ≤ (t : Int) := by omega
                      have h02 : (t : Int) ≤ (c : Int) := by omega
                      have h03 : (0 : Int) ≤ (p : Int) := by omega
                      have htb : t ≤ 900000 := by omega
                      have IB : Hid (∀ W : World, Below w.heap.size w W → IsB W (.slice (some ⟨ab, ao + p, none⟩) 16 (c - p)) (chunkS 16 rows r)) := hide (fun W hW => by
                        have h8 := isB_subc (HA.out.keep hW) p 16 (c - p) hpq (by omega) (by omega)
                        rw [hp.out] at h8 ⊢
                        exact h8)
                      have HXL : Hid ((sumd (head16 a j s) ++ sumdRows rows r).length = 20 + r * 20) := hide (by rw [List.length_append, sumd_len, head16_len, sumdRows_len (by rw [HN.out]; exact HNN.out) r (by omega)])
                      have HCL : Hid ((chunkS 16 rows r).length = 16) := hide (chunkS_len (N := N) (by rw [HN.out]; exact HNN.out) hrN)
                      have HR9 : Hid (r * 20 ≤ 1200000) := hide (by have h7 := HNN.out; omega)
                      have HTT : Hid (t = (r + 1) * 16) := hide (by have := hp.out; omega)
                      have HRN := hide hrN
                      clear ht hpq hp
                      go_wp2_with (at_builtin; refine halt ?_)
                      refine ⟨?_⟩
                      refine wpList_append_bytes rfl (.tmp 77) (.tmp 78) rfl w.heap.size _ _ rfl hO.out _ (chunkS 16 rows r) rfl (IB.out wr hK.out) (by rw [HXL.out, HCL.out]; have := HR9.out; omega) hK.out.size ?_
                      intro v12 w12 o12 k12
                      have O12 := hide o12
                      have K12 := hide (hK.out.trans k12)
                      have I12 := hide (IB.out w12 K12.out)
                      clear o12 k12 hO hK IB
                      go_wp2_with fail
                      refine (rsum_any (some ⟨ab, ao + p, none⟩) 16 (c - p) (chunkS 16 rows r) w12 I12.out.rd HCL.out.symm (chunkS_byte HB.out) (by omega)).mono ?_
                      rintro e w13 ⟨rfl, k13⟩
                      have O13 := hide (O12.out.keep k13)
                      have K13 := hide (K12.out.trans (k13.mono K12.out.size))
                      clear k13 O12 K12 I12
                      go_wp2_with fail
                      refine (rput32_any _ (sumS (chunkS 16 rows r)) rfl _ (by unfold sumS; omega)).mono ?_
                      rintro e w14 ⟨s14, rfl, o14, k14⟩
                      have O14 := hide (O13.out.keep k14)
                      have I14 := hide o14.isB
                      have K14 := hide (K13.out.trans (k14.mono K13.out.size))
                      clear o14 k14 O13 K13
                      go_wp2_with (at_builtin; refine halt ?_)
                      refine ⟨?_⟩
                      refine wpList_append_bytes rfl (.tmp 79) (.tmp 82) rfl w.heap.size _ _ rfl O14.out _ (be32 (sumS (chunkS 16 rows r))) rfl I14.out (by rw [List.length_append, be32_len, HXL.out, HCL.out]; have := HR9.out; omega) K14.out.size ?_
                      intro v15 w15 o15 k15
                      have O15 := hide (show Own w15 w.heap.size v15 (sumd (head16 a j s) ++ sumdRows rows (r + 1)) by rw [sumdRows, show sumd (chunkS 16 rows r) = chunkS 16 rows r ++ be32 (sumS (chunkS 16 rows r)) from rfl, ← List.append_assoc, ← List.append_assoc]; exact o15)
                      have K15 := hide (K14.out.trans k15)
                      clear o15 k15 O14 K14 I14 HXL
                      go_wp2_with fail
                      go_roundw
                      case rel => exact ⟨r + 1, t, by have := HRN.out; omega, by go_num, HTT, O15, K15⟩
                      case measure => simp [intOf]; omega
                    · have hrN2 : r = N := by omega
                      have hpn : ¬ ((p : Int) < (n : Int)) := by
                        have h8 := hp.out
                        have h7 := HNN.out
                        rw [hrN2] at h8
                        omega
                      have HRE := hide hrN2
                      clear hrN hrN2
                      go_wp2_with fail
                      go_ret2
                      exact ⟨_, rfl, by rw [← HRE.out]; exact hO.out, hK.out⟩

end Go.Proofs.Ytehgjkckhjggbaa
namespace Go.Proofs.Ytehgjkckhjggbaa
open Go.RowKit
set_option maxHeartbeats 400000 in
theorem clone_any (A : Option Addr) (n c : Nat) (xs : List Nat) (w : World) (hA : IsB w (.slice A n c) xs) (hn : xs.length = n) (h3 : n ≤ 1099511627776) :
    Calls Try.prog 78 #[.slice A n c] w fun e w' => ∃ s, e = .returned s ∧ Own w' w.heap.size s xs ∧ Below w.heap.size w w' := by
  have HA := hide hA
  have HN := hide hn
  have q22 : ∀ (w : World) (a : Option Addr) (n c n' c' : Nat), (binOp .eql 23 (.slice a n c) (.slice none n' c')).run Try.prog w = .ok (.bool a.isNone) w := fun w a n c n' c' => Lib.run_eql_slice_nil w _ _ a n c n' c' Try.underlying23
  rcases A with _ | a
  · have e0 : xs = [] := by
      rcases xs with _ | ⟨y, ys⟩
      · rfl
      · obtain ⟨_, _, e, _⟩ := hA.rd (by simp)
        cases e
    subst e0
    have h0 : n = 0 := by simpa using hn.symm
    subst h0
    clear hA hn
    go_enter Try.func78, Try.ntmps78
    go_wp2_with fail
    go_ret
    exact ⟨_, rfl, World.ownsRow_nil _ _ _ _, Below.refl _ _⟩
  · clear hA hn
    have nb : Below w.heap.size w (w.alloc (.cells #[] 5)) := (Below.refl _ _).alloc (Nat.le_refl _) _
    go_enter Try.func78, Try.ntmps78
    go_wp2_with (at_builtin; refine halt ?_)
    refine ⟨?_⟩
    refine wpList_append_bytes rfl (.tmp 5) (.tmp 6) rfl w.heap.size _ [] rfl (own_lit w #[] [] rfl (by decide)) _ xs rfl (HA.out.keep nb) (by rw [HN.out, List.length_nil]; omega) nb.size ?_
    intro s1 w1 o1 k1
    rw [List.nil_append] at o1
    have O1 := hide o1
    have K1 := hide (nb.trans k1)
    clear nb o1 k1
    go_wp2_with fail
    go_ret
    exact ⟨_, rfl, O1.out, K1.out⟩
end Go.Proofs.Ytehgjkckhjggbaa
namespace Go.Proofs.Ytehgjkckhjggbaa
open Go.RowKit
set_option maxHeartbeats 800000 in
theorem rget32_any (A : Option Addr) (n c : Nat) (xs : List Nat) (w : World) (hA : Rd w A xs) (hn : n = xs.length) (hb : ∀ x ∈ xs, x < 256) (h4 : 4 ≤ n) (ln : n ≤ 9223372036854775807) :
    Calls Try.prog 110 #[.slice A n c] w fun e w' => e = .returned (.int .u32 (val32 xs : Nat)) ∧ ∃ d, w' = w.drewN d := by
  obtain ⟨b, off, rfl, hc⟩ := hA (by intro e; rw [e] at hn; simp at hn; omega)
  obtain ⟨x0, c0, l0, e0⟩ := rd_at hc hb 0 (by omega)
  obtain ⟨x1, c1, l1, e1⟩ := rd_at hc hb 1 (by omega)
  obtain ⟨x2, c2, l2, e2⟩ := rd_at hc hb 2 (by omega)
  obtain ⟨x3, c3, l3, e3⟩ := rd_at hc hb 3 (by omega)
  rw [Nat.add_zero] at c0
  have E := hide (And.intro e0 (And.intro e1 (And.intro e2 e3)))
  clear hc e0 e1 e2 e3 hA
  have HN := hide hn
  clear hn hb
  go_enter Try.func110, Try.ntmps110
  go_wp2
  go_quiet (fail)
  go_wp2
  go_ret
  refine ⟨?_, nq, rfl⟩
  have e := E.out
  rw [get32_eq x0 x1 x2 x3 l0 l1 l2 l3]
  unfold val32
  rw [← e.1, ← e.2.1, ← e.2.2.1, ← e.2.2.2]
  rfl
end Go.Proofs.Ytehgjkckhjggbaa
namespace Go.Proofs.Ytehgjkckhjggbaa
open Go.RowKit
theorem take_ext {xs ys : List Nat} {k : Nat} (hx : k < xs.length) (hy : k < ys.length) (h : xs.take k = ys.take k) (e : xs.getD k 0 = ys.getD k 0) : xs.take (k + 1) = ys.take (k + 1) := by
  rw [List.take_succ_eq_append_getElem hx, List.take_succ_eq_append_getElem hy, h]
  have e1 : xs.getD k 0 = xs[k] := by simp [hx]
  have e2 : ys.getD k 0 = ys[k] := by simp [hy]
  rw [← e1, ← e2, e]
set_option maxHeartbeats 400000 in
theorem same_any (A B : Option Addr) (n m ca cb : Nat) (xs ys : List Nat) (w : World) (hA : Rd w A xs) (hB : Rd w B ys) (hn : n = xs.length) (hm : m = ys.length)
    (ln : n ≤ 9223372036854775807) (lm : m ≤ 9223372036854775807) :
    Calls Try.prog 34 #[.slice A n ca, .slice B m cb] w fun e w' => e = .returned (.bool (decide (xs = ys))) ∧ ∃ d, w' = w.drewN d := by
  by_cases hl : n = m
  · subst hl
    have hne0 : ((n : Int) != (n : Int)) = false := by simp
    have HN := hide hn
    have HM := hide hm
    clear hn hm
    go_enter Try.func34, Try.ntmps34
    go_wp2
    go_loopw [5] (fun i wr => ∃ k d : Nat, k ≤ n ∧ i = .int .i64 (k : Int) ∧ Hid (xs.take k = ys.take k) ∧ wr = w.drewN d) (fun i _ => n - (intOf i).toNat)
    case atStart => exact ⟨0, 0, Nat.zero_le _, rfl, rfl, rfl⟩
    case round =>
      obtain ⟨k, d, hk, rfl, hs, rfl⟩ := hrel
      by_cases hlt : k < n
      · obtain ⟨b1, o1, rfl, c1⟩ := hA (by intro e; rw [HN.out, e] at hlt; simp at hlt)
        obtain ⟨b2, o2, rfl, c2⟩ := hB (by intro e; rw [HM.out, e] at hlt; simp at hlt)
        have k1 := c1 k (by rw [← HN.out]; exact hlt)
        have k2 := c2 k (by rw [← HM.out]; exact hlt)
        obtain ⟨x, hx⟩ : ∃ x, x = xs.getD k 0 := ⟨_, rfl⟩
        obtain ⟨y, hy⟩ : ∃ y, y = ys.getD k 0 := ⟨_, rfl⟩
        rw [← hx] at k1
        rw [← hy] at k2
        have HX := hide hx
        have HY := hide hy
        clear hx hy c1 c2 hA hB
        by_cases hxy : x = y
        · subst hxy
          have hne1 : ((x : Int) != (x : Int)) = false := by simp
          go_wp2
          go_quiet (fail)
          go_wp2
          go_roundw
          case rel => exact ⟨k + 1, _, by omega, by go_num, take_ext (by rw [← HN.out]; exact hlt) (by rw [← HM.out]; exact hlt) hs.out (by rw [← HX.out, ← HY.out]), rfl⟩
          case measure => simp [intOf]; omega
        · have hne1 : ((x : Int) != (y : Int)) = true := by simp; omega
          go_wp2
          go_quiet (fail)
          go_wp2
          go_ret
          refine ⟨ret_bool ?_, _, World.drewN_drewN _ _ _⟩
          symm
          rw [decide_eq_false_iff_not]
          intro e
          exact hxy (by rw [HX.out, HY.out, e])
      · go_wp2
        go_ret
        refine ⟨ret_bool ?_, _, rfl⟩
        symm
        rw [decide_eq_true_eq]
        have e := hs.out
        rw [List.take_of_length_le (by rw [← HN.out]; omega), List.take_of_length_le (by rw [← HM.out]; omega)] at e
        exact e
  · have hne0 : ((n : Int) != (m : Int)) = true := by simp; omega
    have hd : decide (xs = ys) = false := by
      rw [decide_eq_false_iff_not]
      intro e
      exact hl (by rw [hn, hm, e])
    rw [hd]
    clear hd
    have HN := hide hn
    have HM := hide hm
    clear hn hm
    go_enter Try.func34, Try.ntmps34
    go_wp2
    go_ret
    exact ⟨rfl, 0, rfl⟩
end Go.Proofs.Ytehgjkckhjggbaa
