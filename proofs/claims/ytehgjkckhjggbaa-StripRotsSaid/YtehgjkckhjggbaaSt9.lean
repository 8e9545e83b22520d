/- A shard's file by lists: written and read. No program. An append of bytes to a slice of the call's own, with where the new slice lies. Condition: the lengths together are below 2 to the 47. The contract of bytes.Clone. Condition: the row is below 2 to the 40. One byte turned into another one changes the sum. No conditions but the widths. The contract of the law's own comparison: whether two rows of bytes are the same. Condition: no row is longer than a slice may be. -/
import Derived.Test.YtehgjkckhjggbaaSt7
import Derived.Test.YtehgjkckhjggbaaSt8
import Derived.Test.YtehgjkckhjggbaaSt5
import Derived.Maps.AppendAt
import Derived.Lib.SliceRun
import Derived.Test.YtehgjkckhjggbaaSt6
namespace Go.Proofs.Ytehgjkckhjggbaa
/-- Bytes and their sum. -/
def sumd (p : List Nat) : List Nat := p ++ be32 (sumS p)
theorem sumd_len (p : List Nat) : (sumd p).length = p.length + 4 := by simp [sumd, be32_len]
def head16 (id i size : Nat) : List Nat := be32 1735590144 ++ be32 id ++ be32 i ++ be32 size
theorem head16_len (id i size : Nat) : (head16 id i size).length = 16 := rfl
/-- A chunk of bytes. -/
def chunkS (z : Nat) (b : List Nat) (r : Nat) : List Nat := (b.drop (r * z)).take z
theorem chunkS_len {z : Nat} {b : List Nat} {r N : Nat} (h : b.length = N * z) (hr : r < N) : (chunkS z b r).length = z := by
  have := Nat.mul_le_mul_right z (show r + 1 ≤ N by omega)
  rw [Nat.add_mul, Nat.one_mul] at this
  rw [chunkS, List.length_take, List.length_drop]
  omega
theorem chunkS_byte {z : Nat} {b : List Nat} {r : Nat} (h : ∀ x ∈ b, x < 256) : ∀ x ∈ chunkS z b r, x < 256 := fun x hx => h x (List.mem_of_mem_drop (List.mem_of_mem_take hx))
/-- The first rows, each with its sum. -/
def sumdRows (b : List Nat) : Nat → List Nat
  | 0 => []
  | r + 1 => sumdRows b r ++ sumd (chunkS 16 b r)
theorem sumdRows_len {b : List Nat} {N : Nat} (h : b.length = N * 16) : ∀ r, r ≤ N → (sumdRows b r).length = r * 20
  | 0, _ => rfl
  | r + 1, hr => by
    rw [sumdRows, List.length_append, sumdRows_len h r (by omega), sumd_len, chunkS_len h (by omega)]
    omega
def okHead (id i size : Int) : Prop := (0 ≤ id ∧ id ≤ 2147483647) ∧ (0 ≤ i ∧ i ≤ 2147483647) ∧ 1 ≤ size ∧ size ≤ 4194304
instance (id i size : Int) : Decidable (okHead id i size) := by unfold okHead; infer_instance
def fileBad (id i size : Int) (n : Nat) : Prop := ¬ okHead id i size ∨ n = 0 ∨ n % 16 ≠ 0
instance (id i size : Int) (n : Nat) : Decidable (fileBad id i size n) := by unfold fileBad; infer_instance
def fileB (id i size : Nat) (rows : List Nat) : List Nat := sumd (head16 id i size) ++ sumdRows rows (rows.length / 16)
def fileL (id i size : Int) (rows : List Nat) : List Nat := if fileBad id i size rows.length then [] else fileB id.toNat i.toNat size.toNat rows
def fileE (id i size : Int) (rows : List Nat) : Int := if fileBad id i size rows.length then 1 else 0
theorem fileB_len {id i size : Nat} {rows : List Nat} (h : rows.length % 16 = 0) : (fileB id i size rows).length = 20 + rows.length / 16 * 20 := by
  rw [fileB, List.length_append, sumd_len, head16_len, sumdRows_len (N := rows.length / 16) (by omega) _ (Nat.le_refl _)]
theorem byte_app' {a b : List Nat} (h : ∀ x ∈ a, x < 256) (k : ∀ x ∈ b, x < 256) : ∀ x ∈ a ++ b, x < 256 := fun x hx => (List.mem_append.1 hx).elim (h x) (k x)
theorem sumd_byte {p : List Nat} (h : ∀ x ∈ p, x < 256) : ∀ x ∈ sumd p, x < 256 := byte_app' h (be32_byte _)
theorem head16_byte (id i size : Nat) : ∀ x ∈ head16 id i size, x < 256 := byte_app' (byte_app' (byte_app' (be32_byte _) (be32_byte _)) (be32_byte _)) (be32_byte _)
theorem sumdRows_byte {b : List Nat} (h : ∀ x ∈ b, x < 256) : ∀ r, ∀ x ∈ sumdRows b r, x < 256
  | 0 => fun x hx => by cases hx
  | r + 1 => byte_app' (sumdRows_byte h r) (sumd_byte (chunkS_byte h))
theorem fileB_byte {id i size : Nat} {rows : List Nat} (h : ∀ x ∈ rows, x < 256) : ∀ x ∈ fileB id i size rows, x < 256 := byte_app' (sumd_byte (head16_byte _ _ _)) (sumdRows_byte h _)
theorem fileL_byte {id i size : Int} {rows : List Nat} (h : ∀ x ∈ rows, x < 256) : ∀ x ∈ fileL id i size rows, x < 256 := by
  unfold fileL
  split
  · intro x hx; cases hx
  · exact fileB_byte h
/-! ### reading -/
/-- A row of a file, empty where its sum is not right. -/
def rowR (c : List Nat) : List Nat := if val32 (c.drop 16) = sumS (c.take 16) then c.take 16 else []
def rowsR (b : List Nat) : Nat → List (List Nat)
  | 0 => []
  | r + 1 => rowsR b r ++ [rowR (chunkS 20 (b.drop 20) r)]
theorem rowsR_len (b : List Nat) : ∀ r, (rowsR b r).length = r
  | 0 => rfl
  | r + 1 => by rw [rowsR, List.length_append, rowsR_len b r]; rfl
/-- What a file says: the error, the numbers, the rows. -/
def readS (b : List Nat) : Nat × Nat × Nat × Nat × List (List Nat) :=
  if b.length < 20 then (2, 0, 0, 0, [])
  else if val32 b ≠ 1735590144 ∨ b.length = 20 ∨ (b.length - 20) % 20 ≠ 0 then (3, 0, 0, 0, [])
  else if val32 (b.drop 16) ≠ sumS (b.take 16) then (4, 0, 0, 0, [])
  else if ¬ okHead (val32 (b.drop 4)) (val32 (b.drop 8)) (val32 (b.drop 12)) then (1, 0, 0, 0, [])
  else (0, val32 (b.drop 4), val32 (b.drop 8), val32 (b.drop 12), rowsR b ((b.length - 20) / 20))
end Go.Proofs.Ytehgjkckhjggbaa
namespace Go.Proofs.Ytehgjkckhjggbaa
open Go.RowKit
theorem wpList_append_at {w : World} {ops : Array Oper} {rest : List Oper} {o : Oper} {a : Act} {Q : Exit → Act → World → Prop} (hgd : o.guard = none) (s x : Operand)
    (ho : o.op = .call { callee := .builtin .append, args := #[s, x], argTypes := #[23, 23] })
    (B : Nat) (v : Value) (xs : List Nat) (hs : a.eval s = v) (hown : Own w B v xs)
    (u : Value) (ys : List Nat) (hx : a.eval x = u) (hr : IsB w u ys)
    (hlen : xs.length + ys.length ≤ 140737488355328) (hbase : B ≤ w.heap.size)
    (h : ∀ v' w', Own w' B v' (xs ++ ys) → w.grownBy w' v.ownBlock → (v'.ownBlock = v.ownBlock ∨ v'.ownBlock = some w.heap.size) → wpList Try.prog ops Q rest (a.put o.dst v') w') : wpList Try.prog ops Q (o :: rest) a w := by
  obtain ⟨i0, hi, hz0, hz1, hz2⟩ := info_parts Try.info_u8'
  obtain ⟨A, c, rfl, hr, hn, _⟩ := hr
  have fin : ∀ v' w', w'.ownsRow B 5 1 v' (xs.length + ys.length) ((xs.map fun x : Nat => Value.int .u8 (x : Int)) ++ (ys.map fun x : Nat => Value.int .u8 (x : Int))) → w.grownBy w' v.ownBlock → (v'.ownBlock = v.ownBlock ∨ v'.ownBlock = some w.heap.size) → wpList Try.prog ops Q rest (a.put o.dst v') w' := by
    intro v' w' hown' hg hl
    exact h v' w' (by unfold Own; simpa using hown') hg hl
  rcases A with _ | ad
  · have h0 := hn rfl
    subst h0
    have hys : ys = [] := by
      rcases ys with _ | ⟨y, ys⟩
      · rfl
      · obtain ⟨_, _, e, _⟩ := hr (by simp)
        cases e
    subst hys
    exact wpList_append_own_none hgd s x _ ho B 5 i0 1 Try.underlying23 hi v _ _ hs hown hx (fin v w (by simpa [Own] using hown) (World.grownBy.refl w _) (.inl rfl))
  · refine wpList_append_own_at w hgd s x _ ho B 5 i0 (.int .u8 0) 1 1 Try.underlying23 hi hz0 hz1 hz2 rfl (by decide) v _ _ hs hown ad ys.length c (ys.map fun x : Nat => Value.int .u8 (x : Int)) hx (by simp) ?_ ?_ (by unfold maxLen; omega) (by omega) hbase (fun v' w' h1 h2 _ h4 => fin v' w' h1 h2 h4)
    · intro j u hu
      have hj : j < ys.length := by
        rcases Nat.lt_or_ge j ys.length with h | h
        · exact h
        · simp [h] at hu
      obtain ⟨b, off, e, hc⟩ := hr (by intro e; rw [e] at hj; simp at hj)
      cases e
      have := hc j hj
      simp [hj] at hu
      subst hu
      simpa [add_off, hj] using this
    · intro u hu
      simp at hu
      obtain ⟨y, _, rfl⟩ := hu
      rfl
end Go.Proofs.Ytehgjkckhjggbaa
namespace Go.Proofs.Ytehgjkckhjggbaa
open Go.RowKit
set_option maxHeartbeats 400000 in
theorem clone_any (A : Option Addr) (n c : Nat) (xs : List Nat) (w : World) (hA : IsB w (.slice A n c) xs) (hn : xs.length = n) (h3 : n ≤ 1099511627776) :
    Calls Try.prog 78 #[.slice A n c] w fun e w' => ∃ s, e = .returned s ∧ Own w' w.heap.size s xs ∧ Below w.heap.size w w' := by
  have HA := hide hA
  have HN := hide hn
  have q22 : ∀ (w : World) (a : Option Addr) (n c n' c' : Nat), (binOp .eql 23 (.slice a n c) (.slice none n' c')).run Try.prog w = .ok (.bool a.isNone) w := fun w a n c n' c' => Lib.run_eql_slice_nil w _ _ a n c n' c' Try.underlying23
  rcases A with _ | a
  · have e0 : xs = [] := by
      rcases xs with _ | ⟨y, ys⟩
      · rfl
      · obtain ⟨_, _, e, _⟩ := hA.rd (by simp)
        cases e
    subst e0
    have h0 : n = 0 := by simpa using hn.symm
    subst h0
    clear hA hn
    go_enter Try.func78, Try.ntmps78
    go_wp2_with fail
    go_ret
    exact ⟨_, rfl, World.ownsRow_nil _ _ _ _, Below.refl _ _⟩
  · clear hA hn
    have nb : Below w.heap.size w (w.alloc (.cells #[] 5)) := (Below.refl _ _).alloc (Nat.le_refl _) _
    go_enter Try.func78, Try.ntmps78
    go_wp2_with (at_builtin; refine halt ?_)
    refine ⟨?_⟩
    refine wpList_append_bytes rfl (.tmp 5) (.tmp 6) rfl w.heap.size _ [] rfl (own_lit w #[] [] rfl (by decide)) _ xs rfl (HA.out.keep nb) (by rw [HN.out, List.length_nil]; omega) nb.size ?_
    intro s1 w1 o1 k1
    rw [List.nil_append] at o1
    have O1 := hide o1
    have K1 := hide (nb.trans k1)
    clear nb o1 k1
    go_wp2_with fail
    go_ret
    exact ⟨_, rfl, O1.out, K1.out⟩
end Go.Proofs.Ytehgjkckhjggbaa
namespace Go.Proofs.Ytehgjkckhjggbaa
open Go.RowKit
theorem xor_rc {a b c : Nat} (h : a ^^^ c = b ^^^ c) : a = b := by
  have h1 : (a ^^^ c) ^^^ c = (b ^^^ c) ^^^ c := by rw [h]
  rwa [Nat.xor_assoc, Nat.xor_assoc, Nat.xor_self, Nat.xor_zero, Nat.xor_zero] at h1
theorem xor_lc {a b c : Nat} (h : a ^^^ b = a ^^^ c) : b = c := by
  rw [Nat.xor_comm a b, Nat.xor_comm a c] at h
  exact xor_rc h
theorem crcStep_inj {s t : Nat} (hs : s < 4294967296) (ht : t < 4294967296) (h : crcStep s = crcStep t) : s = t := by
  have top : ∀ a b : Nat, a < 4294967296 → b < 4294967296 → a / 2 ^^^ 3988292384 ≠ b / 2 := by
    intro a b ha hb e
    have h1 := congrArg (Nat.testBit · 31) e
    simp only [Nat.testBit_xor] at h1
    have e1 : (a / 2).testBit 31 = false := Nat.testBit_lt_two_pow (by omega)
    have e2 : (b / 2).testBit 31 = false := Nat.testBit_lt_two_pow (by omega)
    have e3 : Nat.testBit 3988292384 31 = true := by decide +kernel
    rw [e1, e2, e3] at h1
    cases h1
  unfold crcStep at h
  split at h <;> split at h
  · have : s / 2 = t / 2 := xor_rc h
    omega
  · exact absurd h (top s t hs ht)
  · exact absurd h.symm (top t s ht hs)
  · omega
theorem crcB_inj {s t : Nat} (hs : s < 4294967296) (ht : t < 4294967296) : ∀ k, crcB s k = crcB t k → s = t
  | 0, h => h
  | k + 1, h => crcB_inj hs ht k (crcStep_inj (crcB_lt hs k) (crcB_lt ht k) h)
theorem crcF_inj {xs : List Nat} (hx : ∀ x ∈ xs, x < 256) : ∀ {s t : Nat}, s < 4294967296 → t < 4294967296 → crcF s xs = crcF t xs → s = t := by
  induction xs with
  | nil => intro s t _ _ h; exact h
  | cons x xs ih =>
    intro s t hs ht h
    have hx0 : x < 4294967296 := by have := hx x (by simp); omega
    have h2 := ih (fun y hy => hx y (by simp [hy])) (crcB_lt (xor_lt32 hs hx0) 8) (crcB_lt (xor_lt32 ht hx0) 8) h
    exact xor_rc (crcB_inj (xor_lt32 hs hx0) (xor_lt32 ht hx0) 8 h2)
theorem sum_wrong {xs : List Nat} (hx : ∀ x ∈ xs, x < 256) (k y : Nat) (hk : k < xs.length) (hy : y < 256) (hy0 : y ≠ 0) : sumS (xs.set k (xs.getD k 0 ^^^ y)) ≠ sumS xs := by
  intro h
  have hx0 : xs.getD k 0 < 256 := by
    have e : xs.getD k 0 = xs[k] := by simp [hk]
    rw [e]; exact hx _ (List.getElem_mem hk)
  have hxy : xs.getD k 0 ^^^ y < 256 := Nat.xor_lt_two_pow (n := 8) hx0 hy
  have hset : ∀ x ∈ xs.set k (xs.getD k 0 ^^^ y), x < 256 := by
    intro z hz
    rcases List.mem_or_eq_of_mem_set hz with h | h
    · exact hx z h
    · rw [h]; exact hxy
  have l1 := crcF_lt (s := 4294967295) (by decide) hset
  have l2 := crcF_lt (s := 4294967295) (by decide) hx
  have e : crcF 4294967295 (xs.set k (xs.getD k 0 ^^^ y)) = crcF 4294967295 xs := by
    unfold sumS at h
    omega
  have d1 : xs.set k (xs.getD k 0 ^^^ y) = xs.take k ++ (xs.getD k 0 ^^^ y) :: xs.drop (k + 1) := List.set_eq_take_append_cons_drop.trans (if_pos hk)
  have d2 : xs = xs.take k ++ xs.getD k 0 :: xs.drop (k + 1) := by
    have e : xs.getD k 0 = xs[k] := by simp [hk]
    rw [e, List.getElem_cons_drop, List.take_append_drop]
  rw [d1] at e
  have e2 : crcF 4294967295 (xs.take k ++ (xs.getD k 0 ^^^ y) :: xs.drop (k + 1)) = crcF 4294967295 (xs.take k ++ xs.getD k 0 :: xs.drop (k + 1)) := by rw [e, ← d2]
  unfold crcF at e2
  rw [List.foldl_append, List.foldl_append, List.foldl_cons, List.foldl_cons] at e2
  have ls := crcF_lt (s := 4294967295) (by decide) (xs := xs.take k) (fun x hx' => hx x (List.mem_of_mem_take hx'))
  have a1 := xor_lt32 ls (show xs.getD k 0 ^^^ y < 4294967296 by omega)
  have a2 := xor_lt32 ls (show xs.getD k 0 < 4294967296 by omega)
  have e3 := crcF_inj (xs := xs.drop (k + 1)) (fun x hx' => hx x (List.mem_of_mem_drop hx')) (crcB_lt a1 8) (crcB_lt a2 8) e2
  have e4 := crcB_inj a1 a2 8 e3
  have e5 : xs.getD k 0 ^^^ y = xs.getD k 0 := xor_lc e4
  have e6 : xs.getD k 0 ^^^ y = xs.getD k 0 ^^^ 0 := by rw [e5, Nat.xor_zero]
  exact hy0 (xor_lc e6)
theorem place (n : Int) (len : Nat) (h : 1 ≤ len) : ∃ k : Nat, k < len ∧ (n.tmod (len : Int) = (k : Int) ∨ n.tmod (len : Int) = (k : Int) - (len : Int)) := by
  rcases tmod_cases n (len : Int) with ⟨_, e⟩ | ⟨_, e⟩
  · have h1 := Int.emod_nonneg n (b := (len : Int)) (by omega)
    have h2 := Int.emod_lt_of_pos n (b := (len : Int)) (by omega)
    exact ⟨(n % (len : Int)).toNat, by omega, .inl (by rw [e]; omega)⟩
  · have h1 := Int.emod_nonneg (-n) (b := (len : Int)) (by omega)
    have h2 := Int.emod_lt_of_pos (-n) (b := (len : Int)) (by omega)
    by_cases h0 : -n % (len : Int) = 0
    · exact ⟨0, by omega, .inl (by rw [e, h0]; rfl)⟩
    · exact ⟨((len : Int) - -n % (len : Int)).toNat, by omega, .inr (by rw [e]; omega)⟩
end Go.Proofs.Ytehgjkckhjggbaa
namespace Go.Proofs.Ytehgjkckhjggbaa
open Go.RowKit
theorem take_ext {xs ys : List Nat} {k : Nat} (hx : k < xs.length) (hy : k < ys.length) (h : xs.take k = ys.take k) (e : xs.getD k 0 = ys.getD k 0) : xs.take (k + 1) = ys.take (k + 1) := by
  rw [List.take_succ_eq_append_getElem hx, List.take_succ_eq_append_getElem hy, h]
  have e1 : xs.getD k 0 = xs[k] := by simp [hx]
  have e2 : ys.getD k 0 = ys[k] := by simp [hy]
  rw [← e1, ← e2, e]
set_option maxHeartbeats 400000 in
theorem same_any (A B : Option Addr) (n m ca cb : Nat) (xs ys : List Nat) (w : World) (hA : Rd w A xs) (hB : Rd w B ys) (hn : n = xs.length) (hm : m = ys.length)
    (ln : n ≤ 9223372036854775807) (lm : m ≤ 9223372036854775807) :
    Calls Try.prog 34 #[.slice A n ca, .slice B m cb] w fun e w' => e = .returned (.bool (decide (xs = ys))) ∧ ∃ d, w' = w.drewN d := by
  by_cases hl : n = m
  · subst hl
    have hne0 : ((n : Int) != (n : Int)) = false := by simp
    have HN := hide hn
    have HM := hide hm
    clear hn hm
    go_enter Try.func34, Try.ntmps34
    go_wp2
    go_loopw [5] (fun i wr => ∃ k d : Nat, k ≤ n ∧ i = .int .i64 (k : Int) ∧ Hid (xs.take k = ys.take k) ∧ wr = w.drewN d) (fun i _ => n - (intOf i).toNat)
    case atStart => exact ⟨0, 0, Nat.zero_le _, rfl, rfl, rfl⟩
    case round =>
      obtain ⟨k, d, hk, rfl, hs, rfl⟩ := hrel
      by_cases hlt : k < n
      · obtain ⟨b1, o1, rfl, c1⟩ := hA (by intro e; rw [HN.out, e] at hlt; simp at hlt)
        obtain ⟨b2, o2, rfl, c2⟩ := hB (by intro e; rw [HM.out, e] at hlt; simp at hlt)
        have k1 := c1 k (by rw [← HN.out]; exact hlt)
        have k2 := c2 k (by rw [← HM.out]; exact hlt)
        obtain ⟨x, hx⟩ : ∃ x, x = xs.getD k 0 := ⟨_, rfl⟩
        obtain ⟨y, hy⟩ : ∃ y, y = ys.getD k 0 := ⟨_, rfl⟩
        rw [← hx] at k1
        rw [← hy] at k2
        have HX := hide hx
        have HY := hide hy
        clear hx hy c1 c2 hA hB
        by_cases hxy : x = y
        · subst hxy
          have hne1 : ((x : Int) != (x : Int)) = false := by simp
          go_wp2
          go_quiet (fail)
          go_wp2
          go_roundw
          case rel => exact ⟨k + 1, _, by omega, by go_num, take_ext (by rw [← HN.out]; exact hlt) (by rw [← HM.out]; exact hlt) hs.out (by rw [← HX.out, ← HY.out]), rfl⟩
          case measure => simp [intOf]; omega
        · have hne1 : ((x : Int) != (y : Int)) = true := by simp; omega
          go_wp2
          go_quiet (fail)
          go_wp2
          go_ret
          refine ⟨ret_bool ?_, _, World.drewN_drewN _ _ _⟩
          symm
          rw [decide_eq_false_iff_not]
          intro e
          exact hxy (by rw [HX.out, HY.out, e])
      · go_wp2
        go_ret
        refine ⟨ret_bool ?_, _, rfl⟩
        symm
        rw [decide_eq_true_eq]
        have e := hs.out
        rw [List.take_of_length_le (by rw [← HN.out]; omega), List.take_of_length_le (by rw [← HM.out]; omega)] at e
        exact e
  · have hne0 : ((n : Int) != (m : Int)) = true := by simp; omega
    have hd : decide (xs = ys) = false := by
      rw [decide_eq_false_iff_not]
      intro e
      exact hl (by rw [hn, hm, e])
    rw [hd]
    clear hd
    have HN := hide hn
    have HM := hide hm
    clear hn hm
    go_enter Try.func34, Try.ntmps34
    go_wp2
    go_ret
    exact ⟨rfl, 0, rfl⟩
end Go.Proofs.Ytehgjkckhjggbaa
