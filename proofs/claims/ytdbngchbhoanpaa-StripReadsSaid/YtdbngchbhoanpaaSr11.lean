/- The contract of bytes.Clone. Condition: the row is below 2 to the 40. The contract of bits.Sum: of any bytes it is the CRC, reckoned digit by digit. Condition: no row is longer than a slice may be. The contracts of strip.isBound and strip.isIndex. No conditions but the widths. An append of bytes to a slice of the call's own, with where the new slice lies. Condition: the lengths together are below 2 to the 47. The contract of strip.appendPlace. Conditions: the widths, At and N as an index has them. The contract of bytes.Equal: whether two rows of bytes are the same. Condition: bytes are below 256. -/
import Derived.Test.YtdbngchbhoanpaaSr7
import Derived.Lib.SliceRun
import Derived.Test.YtdbngchbhoanpaaSr10
import Derived.Test.YtdbngchbhoanpaaSr8
import Derived.BigQuiet
import Derived.Maps.AppendAt
import Derived.Test.YtdbngchbhoanpaaSr9
import Derived.Laws.IdiomStrings
import Derived.Laws.BytesArg
import Derived.Laws.BytesString
namespace Go.Proofs.Ytdbngchbhoanpaa
open Go.RowKit
set_option maxHeartbeats 400000 in
theorem clone_any (A : Option Addr) (n c : Nat) (xs : List Nat) (w : World) (hA : IsB w (.slice A n c) xs) (hn : xs.length = n) (h3 : n ≤ 1099511627776) :
    Calls Try.prog 41 #[.slice A n c] w fun e w' => ∃ s, e = .returned s ∧ Own w' w.heap.size s xs ∧ Below w.heap.size w w' := by
  have HA := hide hA
  have HN := hide hn
  have q22 : ∀ (w : World) (a : Option Addr) (n c n' c' : Nat), (binOp .eql 24 (.slice a n c) (.slice none n' c')).run Try.prog w = .ok (.bool a.isNone) w := fun w a n c n' c' => Lib.run_eql_slice_nil w _ _ a n c n' c' Try.underlying24
  rcases A with _ | a
  · have e0 : xs = [] := by
      rcases xs with _ | ⟨y, ys⟩
      · rfl
      · obtain ⟨_, _, e, _⟩ := hA.rd (by simp)
        cases e
    subst e0
    have h0 : n = 0 := by simpa using hn.symm
    subst h0
    clear hA hn
    go_enter Try.func41, Try.ntmps41
    go_wp2_with fail
    go_ret
    exact ⟨_, rfl, World.ownsRow_nil _ _ _ _, Below.refl _ _⟩
  · clear hA hn
    have nb : Below w.heap.size w (w.alloc (.cells #[] 5)) := (Below.refl _ _).alloc (Nat.le_refl _) _
    go_enter Try.func41, Try.ntmps41
    go_wp2_with (at_builtin; refine halt ?_)
    refine ⟨?_⟩
    refine wpList_append_bytes rfl (.tmp 5) (.tmp 6) rfl w.heap.size _ [] rfl (own_lit w #[] [] rfl (by decide)) _ xs rfl (HA.out.keep nb) (by rw [HN.out, List.length_nil]; omega) nb.size ?_
    intro s1 w1 o1 k1
    rw [List.nil_append] at o1
    have O1 := hide o1
    have K1 := hide (nb.trans k1)
    clear nb o1 k1
    go_wp2_with fail
    go_ret
    exact ⟨_, rfl, O1.out, K1.out⟩
end Go.Proofs.Ytdbngchbhoanpaa
namespace Go.Proofs.Ytdbngchbhoanpaa
open Go.RowKit
def crcStep (s : Nat) : Nat := if s % 2 = 1 then s / 2 ^^^ 3988292384 else s / 2
def crcB (s : Nat) : Nat → Nat
  | 0 => s
  | k + 1 => crcStep (crcB s k)
def crcF (s : Nat) (xs : List Nat) : Nat := xs.foldl (fun s c => crcB (s ^^^ c) 8) s
def sumS (xs : List Nat) : Nat := 4294967295 - crcF 4294967295 xs
theorem xor_lt32 {a b : Nat} (ha : a < 4294967296) (hb : b < 4294967296) : a ^^^ b < 4294967296 := Nat.xor_lt_two_pow (n := 32) ha hb
theorem crcStep_lt {s : Nat} (h : s < 4294967296) : crcStep s < 4294967296 := by
  unfold crcStep
  split
  · exact xor_lt32 (by omega) (by decide)
  · omega
theorem crcB_lt {s : Nat} (h : s < 4294967296) : ∀ k, crcB s k < 4294967296
  | 0 => h
  | k + 1 => crcStep_lt (crcB_lt h k)
theorem crcF_lt {s : Nat} (h : s < 4294967296) {xs : List Nat} (hx : ∀ x ∈ xs, x < 256) : crcF s xs < 4294967296 := by
  unfold crcF
  induction xs generalizing s with
  | nil => exact h
  | cons x xs ih =>
    rw [List.foldl_cons]
    exact ih (crcB_lt (xor_lt32 h (by have := hx x (by simp); omega)) 8) (fun y hy => hx y (by simp [hy]))
theorem crcF_snoc (s : Nat) (xs : List Nat) (k : Nat) (h : k < xs.length) : crcF s (xs.take (k + 1)) = crcB (crcF s (xs.take k) ^^^ xs.getD k 0) 8 := by
  unfold crcF
  rw [List.take_succ_eq_append_getElem h, List.foldl_append]
  simp [h]
theorem sumS_known : sumS [49, 50, 51, 52, 53, 54, 55, 56, 57] = 3421780262 := by decide +kernel
theorem and_one32 (x : Nat) (hx : x < 4294967296) : bits .and .u32 (x : Int) 1 = ((x % 2 : Nat) : Int) := by
  rw [u32_and _ _ (by omega) (by omega) (by decide) (by decide)]
  have : (1 : Int).toNat = 1 := rfl
  rw [this, nat_mask1, Int.toNat_natCast]
theorem xor32 (a b : Nat) (ha : a < 4294967296) (hb : b < 4294967296) : bits .xor .u32 (a : Int) (b : Int) = ((a ^^^ b : Nat) : Int) := u32_xor_nat a b ha hb
theorem half_poly (t : Nat) (ht : t < 4294967296) (h : t % 2 = 1) : bits .xor .u32 ((t : Int) / 2) 3988292384 = (crcStep t : Nat) := by
  unfold crcStep
  rw [if_pos h, ← xor32 (t / 2) 3988292384 (by omega) (by decide)]
  simp
theorem half_none (t : Nat) (ht : t < 4294967296) (h : t % 2 = 0) : bits .xor .u32 ((t : Int) / 2) 0 = (crcStep t : Nat) := by
  unfold crcStep
  rw [if_neg (by omega)]
  have := xor32 (t / 2) 0 (by omega) (by decide)
  simpa using this
theorem not32 (a : Nat) (ha : a < 4294967296) : bits .xor .u32 IntKind.u32.max (a : Int) = ((4294967295 - a : Nat) : Int) := by
  show IntKind.u32.wrap ((BitVec.ofInt 32 IntKind.u32.max ^^^ BitVec.ofInt 32 (a : Int)).toNat : Int) = _
  have h1 : BitVec.ofInt 32 IntKind.u32.max = BitVec.allOnes 32 := by decide
  rw [h1, BitVec.allOnes_xor, BitVec.toNat_not, ofInt_u32 a (by omega), IntKind.wrap_u32]
  omega
theorem poly_none : bits .and .u32 3988292384 0 = 0 := by decide +kernel
theorem poly_all : bits .and .u32 3988292384 4294967295 = 3988292384 := by decide +kernel
set_option maxHeartbeats 400000 in
theorem sum_any (A : Option Addr) (n ca : Nat) (xs : List Nat) (w : World) (hA : Rd w A xs) (hn : n = xs.length) (hb : ∀ x ∈ xs, x < 256) (ln : n ≤ 9223372036854775807) :
    Calls Try.prog 44 #[.slice A n ca] w fun e w' => e = .returned (.int .u32 (sumS xs : Nat)) ∧ w = w' := by
  have HN := hide hn
  clear hn
  have pn := poly_none
  have pa := poly_all
  go_enter Try.func44, Try.ntmps44
  go_wp2
  go_loop [3, 8] (fun s i => ∃ k : Nat, k ≤ n ∧ i = .int .i64 (k : Int) ∧ s = .int .u32 (crcF 4294967295 (xs.take k) : Nat)) (fun _ i => n - (intOf i).toNat)
  case atStart => exact ⟨0, Nat.zero_le _, rfl, rfl⟩
  case round =>
    obtain ⟨k, hk, rfl, rfl⟩ := hrel
    have hs := crcF_lt (s := 4294967295) (by decide) (xs := xs.take k) (fun x hx => hb x (List.mem_of_mem_take hx))
    by_cases hlt : k < n
    · obtain ⟨b1, o1, rfl, c1⟩ := hA (by intro e; rw [HN.out, e] at hlt; simp at hlt)
      have k1 := c1 k (by rw [← HN.out]; exact hlt)
      have hsn := crcF_snoc 4294967295 xs k (by rw [← HN.out]; exact hlt)
      have hx : xs.getD k 0 < 256 := by
        have hl : k < xs.length := by rw [← HN.out]; exact hlt
        have : xs.getD k 0 = xs[k] := by simp [hl]
        rw [this]; exact hb _ (List.getElem_mem hl)
      obtain ⟨x, hxe⟩ : ∃ x, x = xs.getD k 0 := ⟨_, rfl⟩
      obtain ⟨s, hse⟩ : ∃ s, s = crcF 4294967295 (xs.take k) := ⟨_, rfl⟩
      rw [← hxe] at k1 hx hsn
      rw [← hse] at hs hsn ⊢
      have HSN := hide hsn
      clear hsn hxe hse c1 hA
      have hxor := xor32 s x hs (by omega)
      have hs2 := xor_lt32 hs (show x < 4294967296 by omega)
      go_wp2
      go_loop [3, 16] (fun t i => ∃ j : Nat, j ≤ 8 ∧ i = .int .i64 (j : Int) ∧ t = .int .u32 (crcB (s ^^^ x) j : Nat)) (fun _ i => 8 - (intOf i).toNat)
      case atStart => exact ⟨0, Nat.zero_le _, rfl, rfl⟩
      case round =>
        obtain ⟨j, hj, rfl, rfl⟩ := hrel
        have ht := crcB_lt hs2 j
        by_cases hj8 : j < 8
        · have hst : crcB (s ^^^ x) (j + 1) = crcStep (crcB (s ^^^ x) j) := rfl
          obtain ⟨t, hte⟩ : ∃ t, t = crcB (s ^^^ x) j := ⟨_, rfl⟩
          rw [← hte] at ht hst ⊢
          have HST := hide hst
          clear hst hte
          have h1 := and_one32 t ht
          by_cases hodd : t % 2 = 1
          · rw [hodd] at h1
            have h2 := half_poly t ht hodd
            go_wp2
            go_round
            case rel => exact ⟨j + 1, by omega, by go_num, by rw [HST.out]⟩
            case measure => simp [intOf]; omega
          · have h0 : t % 2 = 0 := by omega
            rw [h0] at h1
            have h2 := half_none t ht h0
            go_wp2
            go_round
            case rel => exact ⟨j + 1, by omega, by go_num, by rw [HST.out]⟩
            case measure => simp [intOf]; omega
        · obtain rfl : j = 8 := by omega
          go_wp2
          go_round
          case rel => exact ⟨k + 1, by omega, by go_num, by rw [HSN.out]⟩
          case measure => simp [intOf]; omega
    · go_wp2
      go_ret
      have he : xs.take k = xs := List.take_of_length_le (by rw [← HN.out]; omega)
      rw [he] at hs
      rw [he]
      exact ⟨ret_int (by unfold sumS; exact not32 _ hs), rfl⟩
end Go.Proofs.Ytdbngchbhoanpaa
namespace Go.Proofs.Ytdbngchbhoanpaa
open Go.RowKit
attribute [local go_sem] Oper.semAt_some
theorem bound_any (z : Int) (w : World) : Calls Try.prog 28 #[.int .i64 z] w fun e w' => e = .returned (.bool (bndB z)) ∧ w' = w := by
  by_cases h1 : 0 ≤ z
  · by_cases h2 : z ≤ 4194304
    · have e : bndB z = true := by simp [bndB, h1, h2]
      rw [e]
      go_enter Try.func28, Try.ntmps28
      go_wp2_with fail
      go_ret
      exact ⟨rfl, rfl⟩
    · have e : bndB z = false := by simp [bndB, h2]
      rw [e]
      go_enter Try.func28, Try.ntmps28
      go_wp2_with fail
      go_ret
      exact ⟨rfl, rfl⟩
  · have e : bndB z = false := by simp [bndB, h1]
    rw [e]
    go_enter Try.func28, Try.ntmps28
    go_wp2_with fail
    go_ret
    exact ⟨rfl, rfl⟩
set_option maxRecDepth 100000 in
set_option maxHeartbeats 3200000 in
theorem isindex_any (A : Option Addr) (n c : Nat) (ps : List Plc) (w : World) (hA : IsP w A ps) (hn : ps.length = n) (hm : n ≤ 1000000000000) :
    Calls Try.prog 14 #[.slice A n c] w fun e w' => e = .returned (.bool (decide (IsIx ps))) ∧ Below w.heap.size w w' := by
  have HA := hide hA
  have HN := hide hn
  have HB := hide (fun z W => bound_any z W)
  obtain ⟨R, hR⟩ : ∃ R, R = decide (IsIx ps) := ⟨_, rfl⟩
  rw [← hR]
  have HR := hide hR
  clear hA hn hR
  go_enter Try.func14, Try.ntmps14
  go_wp2_with fail
  go_loopw [3, 4, 7] (fun _ _ i wr => ∃ j : Nat, j ≤ n ∧ i = .int .i64 (j : Int) ∧ Hid (∀ k, k < j → okAt ps k) ∧ Hid (Below w.heap.size w wr)) (fun _ _ i _ => n - (intOf i).toNat)
  case atStart => exact ⟨0, Nat.zero_le _, rfl, hide (fun k hk => by omega), hide (Below.refl _ _)⟩
  case round =>
    obtain ⟨j, hj, rfl, HO, HK⟩ := hrel
    by_cases hlt : j < n
    · have hz : (j : Int) < (n : Int) := by omega
      obtain ⟨b, o, rfl, f0, f1, f2, f3, f4⟩ := (HA.out.keep HK.out) j (by rw [HN.out]; exact hlt)
      obtain ⟨P, hP⟩ : ∃ P, ps.getD j noPlc = P := ⟨_, rfl⟩
      rw [hP] at f0 f1 f2 f3 f4
      have hprev : 0 < j → wr.cell? ⟨b, o + (j - 1) * 5, none⟩ = some (.int .u64 ((ps.getD (j - 1) noPlc).key : Int)) := fun h0 => by
        obtain ⟨b', o', e, g0, _⟩ := (HA.out.keep HK.out) (j - 1) (by rw [HN.out]; omega)
        cases e
        exact g0
      obtain ⟨key, a, m, ck, dd⟩ := P
      dsimp only at f0 f1 f2 f3 f4
      have b5 := Blk.new wr (B := 0) 36 #[.int .u64 (key : Int), .int .i64 a, .int .i64 m, .int .u32 (ck : Int), .bool dd] (Nat.zero_le _)
      have k5 := below_alloc wr (.cells #[.int .u64 (key : Int), .int .i64 a, .int .i64 m, .int .u32 (ck : Int), .bool dd] 36)
      have K5 := hide (HK.out.trans (k5.mono HK.out.size))
      have KK := hide k5
      have q0 := b5.cell 0
      have q1 := b5.cell 1
      have q2 := b5.cell 2
      dsimp only [Array.toList, List.getElem?_cons_zero, List.getElem?_cons_succ] at q0 q1 q2
      have HPV := hide hprev
      clear b5 k5 hprev
      by_cases hj0 : j = 0
      · have hd0 : decide (0 < j) = false := decide_eq_false (by omega)
        have HJ0 := hide hj0
        clear hj0
        go_wp2_with fail
        clear f0 f1 f2 f3 f4
        generalize wr.alloc (.cells #[.int .u64 (key : Int), .int .i64 a, .int .i64 m, .int .u32 (ck : Int), .bool dd] 36) = W5 at *
        by_cases ha : bndB a = true
        · by_cases hc : bndB m = true
          · have HOK : okAt ps j := by unfold okAt; rw [hP]; exact ⟨fun h => by have := HJ0.out; omega, ha, hc⟩
            go_quiet ((go_at_call 28; exact Calls.quiet_of_same (HB.out _ _)))
            go_wp2_with fail
            go_roundw
            case rel => exact ⟨j + 1, by omega, by go_num, hide (fun k hk => by
              by_cases e : k = j
              · subst e; exact HOK
              · exact HO.out k (by omega)), hide (below_drewN K5.out _)⟩
            case measure => simp [intOf]; omega
          · have hc : bndB m = false := by simpa using hc
            go_quiet ((go_at_call 28; exact Calls.quiet_of_same (HB.out _ _)))
            go_wp2_with fail
            go_ret
            exact ⟨by rw [HR.out, decide_eq_false (fun h => absurd (h j (by rw [HN.out]; exact hlt)) (by unfold okAt; rw [hP]; rintro ⟨_, _, e⟩; rw [show bndB m = false from hc] at e; cases e))]; rfl, below_drewN K5.out _⟩
        · have ha : bndB a = false := by simpa using ha
          go_quiet ((go_at_call 28; exact Calls.quiet_of_same (HB.out _ _)))
          go_wp2_with fail
          go_ret
          exact ⟨by rw [HR.out, decide_eq_false (fun h => absurd (h j (by rw [HN.out]; exact hlt)) (by unfold okAt; rw [hP]; rintro ⟨_, e, _⟩; rw [show bndB a = false from ha] at e; cases e))]; rfl, below_drewN K5.out _⟩
      · have hd0 : decide (0 < j) = true := decide_eq_true (by omega)
        have p0 := (KK.out.cell (cell_lt (HPV.out (by omega)))).trans (HPV.out (by omega))
        obtain ⟨j1, hj1⟩ : ∃ j1, j1 = j - 1 := ⟨_, rfl⟩
        rw [← hj1] at p0
        have hw1 : IntKind.i64.wrap ((j : Int) - 1) = (j1 : Int) := by rw [IntWalk.i64_in _ (by omega)]; omega
        have hj2 : (j1 : Int) < (n : Int) := by omega
        have hj3 : (0 : Int) ≤ (j1 : Int) := by omega
        have HJ1 := hide hj1
        clear hj1
        obtain ⟨pk, hpk⟩ : ∃ pk, (ps.getD j1 noPlc).key = pk := ⟨_, rfl⟩
        rw [hpk] at p0
        go_wp2_with fail
        clear f0 f1 f2 f3 f4
        generalize wr.alloc (.cells #[.int .u64 (key : Int), .int .i64 a, .int .i64 m, .int .u32 (ck : Int), .bool dd] 36) = W5 at *
        by_cases hkey : (key : Int) ≤ (pk : Int)
        · have hd1 : decide (key ≤ pk) = true := decide_eq_true (by omega)
          go_quiet ((go_at_call 28; exact Calls.quiet_of_same (HB.out _ _)))
          go_wp2_with fail
          go_ret
          exact ⟨by rw [HR.out, decide_eq_false (fun h => absurd (h j (by rw [HN.out]; exact hlt)) (by unfold okAt; rw [hP]; rintro ⟨e, _, _⟩; have e := e (by omega); rw [← HJ1.out, hpk] at e; dsimp only at e; omega))]; rfl, below_drewN K5.out _⟩
        · have hd1 : decide (key ≤ pk) = false := decide_eq_false (by omega)
          by_cases ha : bndB a = true
          · by_cases hc : bndB m = true
            · have HOK : okAt ps j := by unfold okAt; rw [hP]; exact ⟨fun _ => by rw [← HJ1.out, hpk]; dsimp only; omega, ha, hc⟩
              go_quiet ((go_at_call 28; exact Calls.quiet_of_same (HB.out _ _)))
              go_wp2_with fail
              go_roundw
              case rel => exact ⟨j + 1, by omega, by go_num, hide (fun k hk => by
                by_cases e : k = j
                · subst e; exact HOK
                · exact HO.out k (by omega)), hide (below_drewN K5.out _)⟩
              case measure => simp [intOf]; omega
            · have hc : bndB m = false := by simpa using hc
              go_quiet ((go_at_call 28; exact Calls.quiet_of_same (HB.out _ _)))
              go_wp2_with fail
              go_ret
              exact ⟨by rw [HR.out, decide_eq_false (fun h => absurd (h j (by rw [HN.out]; exact hlt)) (by unfold okAt; rw [hP]; rintro ⟨_, _, e⟩; rw [show bndB m = false from hc] at e; cases e))]; rfl, below_drewN K5.out _⟩
          · have ha : bndB a = false := by simpa using ha
            go_quiet ((go_at_call 28; exact Calls.quiet_of_same (HB.out _ _)))
            go_wp2_with fail
            go_ret
            exact ⟨by rw [HR.out, decide_eq_false (fun h => absurd (h j (by rw [HN.out]; exact hlt)) (by unfold okAt; rw [hP]; rintro ⟨_, e, _⟩; rw [show bndB a = false from ha] at e; cases e))]; rfl, below_drewN K5.out _⟩
    · obtain rfl : j = n := by omega
      have hz : ¬ (j : Int) < (j : Int) := by omega
      have e : decide (IsIx ps) = true := decide_eq_true (fun i hi => HO.out i (by rw [← HN.out]; exact hi))
      have HE := hide e
      clear e
      go_wp2_with fail
      go_ret
      exact ⟨by rw [HR.out, HE.out]; rfl, HK.out⟩
end Go.Proofs.Ytdbngchbhoanpaa
namespace Go.Proofs.Ytdbngchbhoanpaa
open Go.RowKit
theorem wpList_append_at {w : World} {ops : Array Oper} {rest : List Oper} {o : Oper} {a : Act} {Q : Exit → Act → World → Prop} (hgd : o.guard = none) (s x : Operand)
    (ho : o.op = .call { callee := .builtin .append, args := #[s, x], argTypes := #[24, 24] })
    (B : Nat) (v : Value) (xs : List Nat) (hs : a.eval s = v) (hown : Own w B v xs)
    (u : Value) (ys : List Nat) (hx : a.eval x = u) (hr : IsB w u ys)
    (hlen : xs.length + ys.length ≤ 140737488355328) (hbase : B ≤ w.heap.size)
    (h : ∀ v' w', Own w' B v' (xs ++ ys) → w.grownBy w' v.ownBlock → (v'.ownBlock = v.ownBlock ∨ v'.ownBlock = some w.heap.size) → wpList Try.prog ops Q rest (a.put o.dst v') w') : wpList Try.prog ops Q (o :: rest) a w := by
  obtain ⟨i0, hi, hz0, hz1, hz2⟩ := info_parts Try.info_u8'
  obtain ⟨A, c, rfl, hr, hn, _⟩ := hr
  have fin : ∀ v' w', w'.ownsRow B 5 1 v' (xs.length + ys.length) ((xs.map fun x : Nat => Value.int .u8 (x : Int)) ++ (ys.map fun x : Nat => Value.int .u8 (x : Int))) → w.grownBy w' v.ownBlock → (v'.ownBlock = v.ownBlock ∨ v'.ownBlock = some w.heap.size) → wpList Try.prog ops Q rest (a.put o.dst v') w' := by
    intro v' w' hown' hg hl
    exact h v' w' (by unfold Own; simpa using hown') hg hl
  rcases A with _ | ad
  · have h0 := hn rfl
    subst h0
    have hys : ys = [] := by
      rcases ys with _ | ⟨y, ys⟩
      · rfl
      · obtain ⟨_, _, e, _⟩ := hr (by simp)
        cases e
    subst hys
    exact wpList_append_own_none hgd s x _ ho B 5 i0 1 Try.underlying24 hi v _ _ hs hown hx (fin v w (by simpa [Own] using hown) (World.grownBy.refl w _) (.inl rfl))
  · refine wpList_append_own_at w hgd s x _ ho B 5 i0 (.int .u8 0) 1 1 Try.underlying24 hi hz0 hz1 hz2 rfl (by decide) v _ _ hs hown ad ys.length c (ys.map fun x : Nat => Value.int .u8 (x : Int)) hx (by simp) ?_ ?_ (by unfold maxLen; omega) (by omega) hbase (fun v' w' h1 h2 _ h4 => fin v' w' h1 h2 h4)
    · intro j u hu
      have hj : j < ys.length := by
        rcases Nat.lt_or_ge j ys.length with h | h
        · exact h
        · simp [h] at hu
      obtain ⟨b, off, e, hc⟩ := hr (by intro e; rw [e] at hj; simp at hj)
      cases e
      have := hc j hj
      simp [hj] at hu
      subst hu
      simpa [add_off, hj] using this
    · intro u hu
      simp at hu
      obtain ⟨y, _, rfl⟩ := hu
      rfl
end Go.Proofs.Ytdbngchbhoanpaa
namespace Go.Proofs.Ytdbngchbhoanpaa
open Go.RowKit
attribute [local go_sem] Oper.semAt_some
theorem index3 (a b c : Int) (j : Nat) (x : Int) (w : World) (hj : j < 3) (hx : [a, b, c][j]? = some x) : (Instr.index 62 (.agg #[.int .u64 a, .int .u64 b, .int .u64 c]) (.int .i64 (j : Int))).run Try.prog w = .ok (.int .u64 x) w := by
  have hu := Try.underlying62
  match j, hj with
  | 0, _ => (simp at hx; subst hx; simp [Instr.index, run_underlying hu, asIntOf, go_sem])
  | 1, _ => (simp at hx; subst hx; simp [Instr.index, run_underlying hu, asIntOf, go_sem])
  | 2, _ => (simp at hx; subst hx; simp [Instr.index, run_underlying hu, asIntOf, go_sem])
theorem uvl_small (v : Nat) (h : v < 18446744073709551616) : (uvl v).length ≤ 10 := uvl_len64 v h
set_option maxRecDepth 100000 in
set_option maxHeartbeats 3200000 in
theorem appplace_any {B : Nat} {v : Value} {xs : List Nat} (key a m ck : Nat) (dd : Bool) (w : World) (hO : Own w B v xs) (hB : B ≤ w.heap.size) (hk : key < 18446744073709551616) (ha : a ≤ 4194304) (hm : m ≤ 4194304) (hc : ck < 4294967296) (hl : xs.length ≤ 1000000000) :
    Calls Try.prog 16 #[v, .agg #[.int .u64 (key : Int), .int .i64 (a : Int), .int .i64 (m : Int), .int .u32 (ck : Int), .bool dd]] w fun e w' => ∃ s, e = .returned s ∧ Own w' B s (xs ++ plcL ⟨key, a, m, ck, dd⟩) ∧ Below B w w' := by
  have b0 := Blk.new w (B := 0) 36 #[.int .u64 (key : Int), .int .i64 (a : Int), .int .i64 (m : Int), .int .u32 (ck : Int), .bool dd] (Nat.zero_le _)
  have k0 := below_alloc w (.cells #[.int .u64 (key : Int), .int .i64 (a : Int), .int .i64 (m : Int), .int .u32 (ck : Int), .bool dd] 36)
  have O0 := hide (hO.keep k0)
  have HVB : Hid (∀ g, v.ownBlock = some g → B ≤ g ∧ g < w.heap.size) := hide (fun g hg => hO.lt g hg)
  have HNZ : Hid (¬ (some w.heap.size = v.ownBlock ∨ w.heap.size + 1 ≤ w.heap.size)) := hide (by
    rintro (e | e)
    · have := (HVB.out _ e.symm).2
      omega
    · omega)
  have B0 := hide b0
  have K0 := hide k0
  have q0 := b0.cell 0
  have q1 := b0.cell 1
  have q2 := b0.cell 2
  dsimp only [Array.toList, List.getElem?_cons_zero, List.getElem?_cons_succ] at q0 q1 q2
  have e1 : IntKind.u64.wrap (a : Int) = (a : Int) := by rw [IntKind.wrap_u64]; omega
  have e2 : IntKind.u64.wrap (m : Int) = (m : Int) := by rw [IntKind.wrap_u64]; omega
  clear hO b0 k0
  go_enter Try.func16, Try.ntmps16
  go_wp2_with fail
  clear q0 q1 q2
  generalize (w.alloc (.cells #[.int .u64 (key : Int), .int .i64 (a : Int), .int .i64 (m : Int), .int .u32 (ck : Int), .bool dd] 36)) = W0 at *
  go_loopw [0, 6, 16] (fun b _ j wr => ∃ j' : Nat, j' ≤ 3 ∧ j = .int .i64 (j' : Int) ∧ Hid (Own wr B b (xs ++ ([key, a, m].take j').flatMap uvl)) ∧ Hid (∀ g, b.ownBlock = some g → v.ownBlock = some g ∨ w.heap.size + 1 ≤ g) ∧ Hid (Turn (fun k => some k = v.ownBlock ∨ w.heap.size + 1 ≤ k) W0 wr)) (fun _ _ j _ => 3 - (intOf j).toNat)
  case atStart => exact ⟨0, by omega, rfl, hide (by simpa using O0.out), hide (fun g hg => .inl hg), hide (Turn.refl _ _)⟩
  case round =>
    obtain ⟨j, hj, rfl, hO, hL, hT⟩ := hrel
    have HSZ : Hid (w.heap.size + 1 ≤ wr.heap.size) := hide (by have h1 := hT.out.size; have h2 := B0.out.lt; omega)
    rcases (show j = 0 ∨ j = 1 ∨ j = 2 ∨ j = 3 by omega) with rfl | rfl | rfl | rfl
    · have hx := index3 (key : Int) (a : Int) (m : Int) 0 (key : Int) wr (by decide) rfl
      have hx : (Instr.index 62 (.agg #[.int .u64 (key : Int), .int .u64 (a : Int), .int .u64 (m : Int)]) (.int .i64 0)).run Try.prog wr = .ok (.int .u64 (key : Int)) wr := hx
      go_wp2_with fail
      refine (uvarint_any key wr hk).mono ?_
      rintro e w2 ⟨s, rfl, o2, k2⟩
      have hul : (uvl key).length ≤ 10 := uvl_small key hk
      have hfl : (([key, a, m].take 0).flatMap uvl).length ≤ 20 := by
        have := uvl_small key hk
        have := uvl_small a (by omega)
        simp
        try omega
      have I2 := hide o2.isB
      have O2 := hide (hO.out.keep k2)
      have T2 := hide (hT.out.trans (Turn.of_below _ k2))
      have S2 := hide (Nat.le_trans HSZ.out k2.size)
      clear o2 k2 hO hT hx
      go_wp2_with (at_builtin; refine halt ?_)
      refine ⟨?_⟩
      refine wpList_append_at rfl (.tmp 19) (.tmp 21) rfl B u0 _ rfl O2.out _ (uvl key) rfl I2.out (by rw [List.length_append]; omega) (by have := S2.out; omega) ?_
      intro v3 w3 o3 g3 l3
      have O3 := hide o3
      have T3 : Hid (Turn (fun k => some k = v.ownBlock ∨ w.heap.size + 1 ≤ k) W0 w3) := hide (T2.out.trans ((Turn.of_grown g3).mono (fun k e => by
        rcases hL.out k e.symm with q | q
        · exact .inl q.symm
        · exact .inr q)))
      have L3 : Hid (∀ g, v3.ownBlock = some g → v.ownBlock = some g ∨ w.heap.size + 1 ≤ g) := hide (fun g hg => by
        rcases l3 with q | q
        · exact hL.out g (by rw [← q]; exact hg)
        · rw [q] at hg
          exact .inr (by rw [← Option.some.inj hg]; exact S2.out))
      clear o3 g3 l3 O2 T2 I2 hL
      go_wp2_with fail
      go_roundw
      case rel => exact ⟨1, by omega, by go_num, by simpa using O3, L3, T3⟩
      case measure => simp [intOf]
    · have hx := index3 (key : Int) (a : Int) (m : Int) 1 (a : Int) wr (by decide) rfl
      have hx : (Instr.index 62 (.agg #[.int .u64 (key : Int), .int .u64 (a : Int), .int .u64 (m : Int)]) (.int .i64 1)).run Try.prog wr = .ok (.int .u64 (a : Int)) wr := hx
      go_wp2_with fail
      refine (uvarint_any a wr (by omega)).mono ?_
      rintro e w2 ⟨s, rfl, o2, k2⟩
      have hul : (uvl a).length ≤ 10 := uvl_small a (by omega)
      have hfl : (([key, a, m].take 1).flatMap uvl).length ≤ 20 := by
        have := uvl_small key hk
        have := uvl_small a (by omega)
        simp [List.flatMap_cons]
        try omega
      have I2 := hide o2.isB
      have O2 := hide (hO.out.keep k2)
      have T2 := hide (hT.out.trans (Turn.of_below _ k2))
      have S2 := hide (Nat.le_trans HSZ.out k2.size)
      clear o2 k2 hO hT hx
      go_wp2_with (at_builtin; refine halt ?_)
      refine ⟨?_⟩
      refine wpList_append_at rfl (.tmp 19) (.tmp 21) rfl B u0 _ rfl O2.out _ (uvl a) rfl I2.out (by rw [List.length_append]; omega) (by have := S2.out; omega) ?_
      intro v3 w3 o3 g3 l3
      have O3 := hide o3
      have T3 : Hid (Turn (fun k => some k = v.ownBlock ∨ w.heap.size + 1 ≤ k) W0 w3) := hide (T2.out.trans ((Turn.of_grown g3).mono (fun k e => by
        rcases hL.out k e.symm with q | q
        · exact .inl q.symm
        · exact .inr q)))
      have L3 : Hid (∀ g, v3.ownBlock = some g → v.ownBlock = some g ∨ w.heap.size + 1 ≤ g) := hide (fun g hg => by
        rcases l3 with q | q
        · exact hL.out g (by rw [← q]; exact hg)
        · rw [q] at hg
          exact .inr (by rw [← Option.some.inj hg]; exact S2.out))
      clear o3 g3 l3 O2 T2 I2 hL
      go_wp2_with fail
      go_roundw
      case rel => exact ⟨2, by omega, by go_num, by simpa using O3, L3, T3⟩
      case measure => simp [intOf]
    · have hx := index3 (key : Int) (a : Int) (m : Int) 2 (m : Int) wr (by decide) rfl
      have hx : (Instr.index 62 (.agg #[.int .u64 (key : Int), .int .u64 (a : Int), .int .u64 (m : Int)]) (.int .i64 2)).run Try.prog wr = .ok (.int .u64 (m : Int)) wr := hx
      go_wp2_with fail
      refine (uvarint_any m wr (by omega)).mono ?_
      rintro e w2 ⟨s, rfl, o2, k2⟩
      have hul : (uvl m).length ≤ 10 := uvl_small m (by omega)
      have hfl : (([key, a, m].take 2).flatMap uvl).length ≤ 20 := by
        have := uvl_small key hk
        have := uvl_small a (by omega)
        simp [List.flatMap_cons]
        try omega
      have I2 := hide o2.isB
      have O2 := hide (hO.out.keep k2)
      have T2 := hide (hT.out.trans (Turn.of_below _ k2))
      have S2 := hide (Nat.le_trans HSZ.out k2.size)
      clear o2 k2 hO hT hx
      go_wp2_with (at_builtin; refine halt ?_)
      refine ⟨?_⟩
      refine wpList_append_at rfl (.tmp 19) (.tmp 21) rfl B u0 _ rfl O2.out _ (uvl m) rfl I2.out (by rw [List.length_append]; omega) (by have := S2.out; omega) ?_
      intro v3 w3 o3 g3 l3
      have O3 := hide o3
      have T3 : Hid (Turn (fun k => some k = v.ownBlock ∨ w.heap.size + 1 ≤ k) W0 w3) := hide (T2.out.trans ((Turn.of_grown g3).mono (fun k e => by
        rcases hL.out k e.symm with q | q
        · exact .inl q.symm
        · exact .inr q)))
      have L3 : Hid (∀ g, v3.ownBlock = some g → v.ownBlock = some g ∨ w.heap.size + 1 ≤ g) := hide (fun g hg => by
        rcases l3 with q | q
        · exact hL.out g (by rw [← q]; exact hg)
        · rw [q] at hg
          exact .inr (by rw [← Option.some.inj hg]; exact S2.out))
      clear o3 g3 l3 O2 T2 I2 hL
      go_wp2_with fail
      go_roundw
      case rel => exact ⟨3, by omega, by go_num, by simpa using O3, L3, T3⟩
      case measure => simp [intOf]
    · have bx := B0.out.turn hT.out HNZ.out
      have q3 := bx.cell 3
      have q4 := bx.cell 4
      dsimp only [Array.toList, List.getElem?_cons_zero, List.getElem?_cons_succ] at q3 q4
      have hul1 := uvl_small key hk
      have hul2 := uvl_small a (by omega)
      have hul3 := uvl_small m (by omega)
      have e9 : xs ++ ([key, a, m].take 3).flatMap uvl = xs ++ (uvl key ++ uvl a ++ uvl m) := by simp
      rw [e9] at hO
      obtain ⟨XS, hXS⟩ : ∃ X, X = xs ++ (uvl key ++ uvl a ++ uvl m) := ⟨_, rfl⟩
      have hXl : XS.length ≤ 1000000030 := by rw [hXS]; simp only [List.length_append]; omega
      have hfin : ∀ f : Nat, XS ++ be32 ck ++ [f] = xs ++ (uvl key ++ uvl a ++ uvl m ++ be32 ck ++ [f]) := fun f => by rw [hXS]; simp
      rw [← hXS] at hO
      have BX := hide bx
      have HFIN := hide hfin
      clear e9 hXS bx hul1 hul2 hul3 hfin
      go_wp2_with fail
      refine (put32_any _ ck rfl wr hc).mono ?_
      rintro e w2 ⟨s, rfl, o2, k2⟩
      have I2 := hide o2.isB
      have O2 := hide (hO.out.keep k2)
      have T2 := hide (hT.out.trans (Turn.of_below _ k2))
      have S2 := hide (Nat.le_trans HSZ.out k2.size)
      clear o2 k2 hO hT q3 q4
      go_wp2_with (at_builtin; refine halt ?_)
      refine ⟨?_⟩
      refine wpList_append_at rfl (.tmp 24) (.tmp 27) rfl B u0 _ rfl O2.out _ (be32 ck) rfl I2.out (by rw [be32_len]; omega) (by have := S2.out; omega) ?_
      intro v3 w3 o3 g3 l3
      have O3 := hide o3
      have T3 : Hid (Turn (fun k => some k = v.ownBlock ∨ w.heap.size + 1 ≤ k) W0 w3) := hide (T2.out.trans ((Turn.of_grown g3).mono (fun k e => by
        rcases hL.out k e.symm with q | q
        · exact .inl q.symm
        · exact .inr q)))
      have L3 : Hid (∀ g, v3.ownBlock = some g → v.ownBlock = some g ∨ w.heap.size + 1 ≤ g) := hide (fun g hg => by
        rcases l3 with q | q
        · exact hL.out g (by rw [← q]; exact hg)
        · rw [q] at hg
          exact .inr (by rw [← Option.some.inj hg]; exact S2.out))
      have S3 := hide (Nat.le_trans S2.out g3.size)
      have bx := B0.out.turn T3.out HNZ.out
      have q4 := bx.cell 4
      dsimp only [Array.toList, List.getElem?_cons_zero, List.getElem?_cons_succ] at q4
      clear o3 g3 l3 O2 T2 I2 hL bx BX S2
      cases dd
      · go_wp2_with (at_builtin; refine halt ?_)
        refine ⟨?_⟩
        have k5 := below_alloc w3 (.cells #[.int .u8 0] 5)
        refine wpList_append_at rfl (.tmp 34) (.tmp 35) rfl B v3 _ rfl (O3.out.keep k5) _ [0] rfl (isB_new w3 _ [0] rfl (by decide) _ _ rfl rfl) (by rw [List.length_append, be32_len]; simp; omega) (by have := S3.out; have := k5.size; omega) ?_
        intro v6 w6 o6 g6 l6
        rw [HFIN.out 0] at o6
        have T6 := (T3.out.trans (Turn.of_below _ k5)).trans ((Turn.of_grown g6).mono (fun k e => by
          rcases L3.out k e.symm with q | q
          · exact .inl q.symm
          · exact .inr q))
        have k6 : Below B w w6 := (K0.out.mono hB).trans (T6.below (Nat.le_trans hB K0.out.size) (fun k e => by
          rcases e with e | e
          · exact (HVB.out k e.symm).1
          · omega))
        have O6 := hide o6
        have K6 := hide k6
        clear o6 g6 l6 T6 k6 k5
        go_wp2_with fail
        go_ret
        exact ⟨_, rfl, O6.out, K6.out⟩
      · go_wp2_with (at_builtin; refine halt ?_)
        refine ⟨?_⟩
        have k5 := below_alloc w3 (.cells #[.int .u8 1] 5)
        refine wpList_append_at rfl (.tmp 31) (.tmp 32) rfl B v3 _ rfl (O3.out.keep k5) _ [1] rfl (isB_new w3 _ [1] rfl (by decide) _ _ rfl rfl) (by rw [List.length_append, be32_len]; simp; omega) (by have := S3.out; have := k5.size; omega) ?_
        intro v6 w6 o6 g6 l6
        rw [HFIN.out 1] at o6
        have T6 := (T3.out.trans (Turn.of_below _ k5)).trans ((Turn.of_grown g6).mono (fun k e => by
          rcases L3.out k e.symm with q | q
          · exact .inl q.symm
          · exact .inr q))
        have k6 : Below B w w6 := (K0.out.mono hB).trans (T6.below (Nat.le_trans hB K0.out.size) (fun k e => by
          rcases e with e | e
          · exact (HVB.out k e.symm).1
          · omega))
        have O6 := hide o6
        have K6 := hide k6
        clear o6 g6 l6 T6 k6 k5
        go_wp2_with fail
        go_ret
        exact ⟨_, rfl, O6.out, K6.out⟩
end Go.Proofs.Ytdbngchbhoanpaa
namespace Go.Proofs.Ytdbngchbhoanpaa
open Go.RowKit
/-- Bytes as a text. -/
def txt (xs : List Nat) : ByteArray := ⟨(xs.map UInt8.ofNat).toArray⟩
theorem txt_inj {xs ys : List Nat} (hx : ∀ x ∈ xs, x < 256) (hy : ∀ y ∈ ys, y < 256) (h : txt xs = txt ys) : xs = ys := by
  have h1 : xs.map UInt8.ofNat = ys.map UInt8.ofNat := by
    have := congrArg (fun s : ByteArray => s.data.toList) h
    simpa [txt] using this
  refine List.ext_getElem ?_ fun i a b => ?_
  · have := congrArg List.length h1
    simpa using this
  · have h2 := congrArg (fun l => (l[i]?).map UInt8.toNat) h1
    simp [a, b] at h2
    have h3 := hx xs[i] (List.getElem_mem a)
    have h4 := hy ys[i] (List.getElem_mem b)
    omega
theorem convert_txt (w : World) (A : Option Addr) (n c : Nat) (xs : List Nat) (hA : IsB w (.slice A n c) xs) (hb : ∀ x ∈ xs, x < 256) :
    (convert 24 9 (.slice A n c)).run Try.prog w = .ok (.string (txt xs)) w := by
  obtain ⟨hl, h1, h2⟩ := isB_len hA
  rcases A with _ | ad
  · obtain ⟨A', c', e, r, h0, _⟩ := hA
    cases e
    have hc := h0 rfl
    obtain rfl : xs = [] := List.eq_nil_of_length_eq_zero (by omega)
    have e0 : (convert 24 9 (.slice none 0 0)).run Try.prog w = .ok (.string (txt [])) w := by
      rw [run_convert_bytes_string w _ _ 5 none _ _ Try.underlying24 Try.underlying5 Try.underlying9]
      rfl
    rw [hc]
    exact e0
  · by_cases h0 : xs = []
    · subst h0
      have hn : n = 0 := by simpa using hl.symm
      subst hn
      have h := run_convert_bytes_back (P := Try.prog) w 24 9 5 ad c [] Try.underlying24 Try.underlying5 Try.underlying9 (fun j hj => by simp at hj)
      exact h
    · obtain ⟨g, off, e, hc⟩ := hA.rd h0
      cases e
      have h := run_convert_bytes_back (P := Try.prog) w 24 9 5 ⟨g, off, none⟩ c (xs.map UInt8.ofNat) Try.underlying24 Try.underlying5 Try.underlying9 (fun j hj => by
        have hj' : j < xs.length := by simpa using hj
        rw [add_off, hc j hj']
        have h3 := hb xs[j] (List.getElem_mem hj')
        simp [hj']
        omega)
      rw [List.length_map, hl] at h
      exact h
set_option maxHeartbeats 800000 in
theorem bytesEqual_any (A B : Option Addr) (n m ca cb : Nat) (xs ys : List Nat) (w : World) (hA : IsB w (.slice A n ca) xs) (hB : IsB w (.slice B m cb) ys) (hx : ∀ x ∈ xs, x < 256) (hy : ∀ y ∈ ys, y < 256) :
    Calls Try.prog 24 #[.slice A n ca, .slice B m cb] w fun e w' => e = .returned (.bool (decide (xs = ys))) ∧ w = w' := by
  have c1 := convert_txt w A n ca xs hA hx
  have c2 := convert_txt w B m cb ys hB hy
  have hq : ((txt xs).toList == (txt ys).toList) = decide (xs = ys) := by
    rw [Bool.eq_iff_iff, decide_eq_true_iff, beq_iff_eq, ByteArray.toList_eq, ByteArray.toList_eq]
    refine ⟨fun h => txt_inj hx hy ?_, fun h => by rw [h]⟩
    exact congrArg (fun l : List UInt8 => (⟨l.toArray⟩ : ByteArray)) h
  obtain ⟨u, hu⟩ : ∃ u, u = txt xs := ⟨_, rfl⟩
  obtain ⟨v, hv⟩ : ∃ v, v = txt ys := ⟨_, rfl⟩
  rw [← hu] at c1 hq
  rw [← hv] at c2 hq
  have HQ := hide hq
  clear hu hv hq hA hB hx hy
  go_enter Try.func24, Try.ntmps24
  go_wp2_with fail
  go_ret
  exact ⟨ret_bool HQ.out, rfl⟩
end Go.Proofs.Ytdbngchbhoanpaa
