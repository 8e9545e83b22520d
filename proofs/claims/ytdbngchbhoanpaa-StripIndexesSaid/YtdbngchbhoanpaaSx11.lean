/- The contract of strip.appendPlace. Conditions: the widths, At and N as an index has them. The contract of bytes.Equal: whether two rows of bytes are the same. Condition: bytes are below 256. The contract of the document's own sum, which goes by half bytes and a table: of any bytes it is the CRC, reckoned digit by digit. Condition: no row is longer than a slice may be. Four bytes, the highest first: the contract of the document's own Put32. Conditions: the widths. The contract of the document's own Get32, of four bytes that are there. Condition: no row is longer than a slice may be. An append of bytes inside a region that draws its order. No conditions. -/
import Derived.Test.YtdbngchbhoanpaaSx6
import Derived.Test.YtdbngchbhoanpaaSx7
import Derived.Test.YtdbngchbhoanpaaSx8
import Derived.Test.YtdbngchbhoanpaaSx10
import Derived.Laws.IdiomStrings
import Derived.Laws.BytesArg
import Derived.Laws.BytesString
namespace Go.Proofs.Ytdbngchbhoanpaa
open Go.RowKit
attribute [local go_sem] Oper.semAt_some
theorem index3 (a b c : Int) (j : Nat) (x : Int) (w : World) (hj : j < 3) (hx : [a, b, c][j]? = some x) : (Instr.index 62 (.agg #[.int .u64 a, .int .u64 b, .int .u64 c]) (.int .i64 (j : Int))).run Try.prog w = .ok (.int .u64 x) w := by
  have hu := Try.underlying62
  match j, hj with
  | 0, _ => (simp at hx; subst hx; simp [Instr.index, run_underlying hu, asIntOf, go_sem])
  | 1, _ => (simp at hx; subst hx; simp [Instr.index, run_underlying hu, asIntOf, go_sem])
  | 2, _ => (simp at hx; subst hx; simp [Instr.index, run_underlying hu, asIntOf, go_sem])
theorem uvl_small (v : Nat) (h : v < 18446744073709551616) : (uvl v).length ≤ 10 := uvl_len64 v h
set_option maxRecDepth 100000 in
set_option maxHeartbeats 3200000 in
theorem appplace_any {B : Nat} {v : Value} {xs : List Nat} (key a m ck : Nat) (dd : Bool) (w : World) (hO : Own w B v xs) (hB : B ≤ w.heap.size) (hk : key < 18446744073709551616) (ha : a ≤ 4194304) (hm : m ≤ 4194304) (hc : ck < 4294967296) (hl : xs.length ≤ 1000000000) :
    Calls Try.prog 16 #[v, .agg #[.int .u64 (key : Int), .int .i64 (a : Int), .int .i64 (m : Int), .int .u32 (ck : Int), .bool dd]] w fun e w' => ∃ s, e = .returned s ∧ Own w' B s (xs ++ plcL ⟨key, a, m, ck, dd⟩) ∧ Below B w w' := by
  have b0 := Blk.new w (B := 0) 36 #[.int .u64 (key : Int), .int .i64 (a : Int), .int .i64 (m : Int), .int .u32 (ck : Int), .bool dd] (Nat.zero_le _)
  have k0 := below_alloc w (.cells #[.int .u64 (key : Int), .int .i64 (a : Int), .int .i64 (m : Int), .int .u32 (ck : Int), .bool dd] 36)
  have O0 := hide (hO.keep k0)
  have HVB : Hid (∀ g, v.ownBlock = some g → B ≤ g ∧ g < w.heap.size) := hide (fun g hg => hO.lt g hg)
  have HNZ : Hid (¬ (some w.heap.size = v.ownBlock ∨ w.heap.size + 1 ≤ w.heap.size)) := hide (by
    rintro (e | e)
    · have := (HVB.out _ e.symm).2
      omega
    · omega)
  have B0 := hide b0
  have K0 := hide k0
  have q0 := b0.cell 0
  have q1 := b0.cell 1
  have q2 := b0.cell 2
  dsimp only [Array.toList, List.getElem?_cons_zero, List.getElem?_cons_succ] at q0 q1 q2
  have e1 : IntKind.u64.wrap (a : Int) = (a : Int) := by rw [IntKind.wrap_u64]; omega
  have e2 : IntKind.u64.wrap (m : Int) = (m : Int) := by rw [IntKind.wrap_u64]; omega
  clear hO b0 k0
  go_enter Try.func16, Try.ntmps16
  go_wp2_with fail
  clear q0 q1 q2
  generalize (w.alloc (.cells #[.int .u64 (key : Int), .int .i64 (a : Int), .int .i64 (m : Int), .int .u32 (ck : Int), .bool dd] 36)) = W0 at *
  go_loopw [0, 6, 16] (fun b _ j wr => ∃ j' : Nat, j' ≤ 3 ∧ j = .int .i64 (j' : Int) ∧ Hid (Own wr B b (xs ++ ([key, a, m].take j').flatMap uvl)) ∧ Hid (∀ g, b.ownBlock = some g → v.ownBlock = some g ∨ w.heap.size + 1 ≤ g) ∧ Hid (Turn (fun k => some k = v.ownBlock ∨ w.heap.size + 1 ≤ k) W0 wr)) (fun _ _ j _ => 3 - (intOf j).toNat)
  case atStart => exact ⟨0, by omega, rfl, hide (by simpa using O0.out), hide (fun g hg => .inl hg), hide (Turn.refl _ _)⟩
  case round =>
    obtain ⟨j, hj, rfl, hO, hL, hT⟩ := hrel
    have HSZ : Hid (w.heap.size + 1 ≤ wr.heap.size) := hide (by have h1 := hT.out.size; have h2 := B0.out.lt; omega)
    rcases (show j = 0 ∨ j = 1 ∨ j = 2 ∨ j = 3 by omega) with rfl | rfl | rfl | rfl
    · have hx := index3 (key : Int) (a : Int) (m : Int) 0 (key : Int) wr (by decide) rfl
      have hx : (Instr.index 62 (.agg #[.int .u64 (key : Int), .int .u64 (a : Int), .int .u64 (m : Int)]) (.int .i64 0)).run Try.prog wr = .ok (.int .u64 (key : Int)) wr := hx
      go_wp2_with fail
      refine (uvarint_any key wr hk).mono ?_
      rintro e w2 ⟨s, rfl, o2, k2⟩
      have hul : (uvl key).length ≤ 10 := uvl_small key hk
      have hfl : (([key, a, m].take 0).flatMap uvl).length ≤ 20 := by
        have := uvl_small key hk
        have := uvl_small a (by omega)
        simp
        try omega
      have I2 := hide o2.isB
      have O2 := hide (hO.out.keep k2)
      have T2 := hide (hT.out.trans (Turn.of_below _ k2))
      have S2 := hide (Nat.le_trans HSZ.out k2.size)
      clear o2 k2 hO hT hx
      go_wp2_with (at_builtin; refine halt ?_)
      refine ⟨?_⟩
      refine wpList_append_at rfl (.tmp 19) (.tmp 21) rfl B u0 _ rfl O2.out _ (uvl key) rfl I2.out (by rw [List.length_append]; omega) (by have := S2.out; omega) ?_
      intro v3 w3 o3 g3 l3
      have O3 := hide o3
      have T3 : Hid (Turn (fun k => some k = v.ownBlock ∨ w.heap.size + 1 ≤ k) W0 w3) := hide (T2.out.trans ((Turn.of_grown g3).mono (fun k e => by
        rcases hL.out k e.symm with q | q
        · exact .inl q.symm
        · exact .inr q)))
      have L3 : Hid (∀ g, v3.ownBlock = some g → v.ownBlock = some g ∨ w.heap.size + 1 ≤ g) := hide (fun g hg => by
        rcases l3 with q | q
        · exact hL.out g (by rw [← q]; exact hg)
        · rw [q] at hg
          exact .inr (by rw [← Option.some.inj hg]; exact S2.out))
      clear o3 g3 l3 O2 T2 I2 hL
      go_wp2_with fail
      go_roundw
      case rel => exact ⟨1, by omega, by go_num, by simpa using O3, L3, T3⟩
      case measure => simp [intOf]
    · have hx := index3 (key : Int) (a : Int) (m : Int) 1 (a : Int) wr (by decide) rfl
      have hx : (Instr.index 62 (.agg #[.int .u64 (key : Int), .int .u64 (a : Int), .int .u64 (m : Int)]) (.int .i64 1)).run Try.prog wr = .ok (.int .u64 (a : Int)) wr := hx
      go_wp2_with fail
      refine (uvarint_any a wr (by omega)).mono ?_
      rintro e w2 ⟨s, rfl, o2, k2⟩
      have hul : (uvl a).length ≤ 10 := uvl_small a (by omega)
      have hfl : (([key, a, m].take 1).flatMap uvl).length ≤ 20 := by
        have := uvl_small key hk
        have := uvl_small a (by omega)
        simp [List.flatMap_cons]
        try omega
      have I2 := hide o2.isB
      have O2 := hide (hO.out.keep k2)
      have T2 := hide (hT.out.trans (Turn.of_below _ k2))
      have S2 := hide (Nat.le_trans HSZ.out k2.size)
      clear o2 k2 hO hT hx
      go_wp2_with (at_builtin; refine halt ?_)
      refine ⟨?_⟩
      refine wpList_append_at rfl (.tmp 19) (.tmp 21) rfl B u0 _ rfl O2.out _ (uvl a) rfl I2.out (by rw [List.length_append]; omega) (by have := S2.out; omega) ?_
      intro v3 w3 o3 g3 l3
      have O3 := hide o3
      have T3 : Hid (Turn (fun k => some k = v.ownBlock ∨ w.heap.size + 1 ≤ k) W0 w3) := hide (T2.out.trans ((Turn.of_grown g3).mono (fun k e => by
        rcases hL.out k e.symm with q | q
        · exact .inl q.symm
        · exact .inr q)))
      have L3 : Hid (∀ g, v3.ownBlock = some g → v.ownBlock = some g ∨ w.heap.size + 1 ≤ g) := hide (fun g hg => by
        rcases l3 with q | q
        · exact hL.out g (by rw [← q]; exact hg)
        · rw [q] at hg
          exact .inr (by rw [← Option.some.inj hg]; exact S2.out))
      clear o3 g3 l3 O2 T2 I2 hL
      go_wp2_with fail
      go_roundw
      case rel => exact ⟨2, by omega, by go_num, by simpa using O3, L3, T3⟩
      case measure => simp [intOf]
    · have hx := index3 (key : Int) (a : Int) (m : Int) 2 (m : Int) wr (by decide) rfl
      have hx : (Instr.index 62 (.agg #[.int .u64 (key : Int), .int .u64 (a : Int), .int .u64 (m : Int)]) (.int .i64 2)).run Try.prog wr = .ok (.int .u64 (m : Int)) wr := hx
      go_wp2_with fail
      refine (uvarint_any m wr (by omega)).mono ?_
      rintro e w2 ⟨s, rfl, o2, k2⟩
      have hul : (uvl m).length ≤ 10 := uvl_small m (by omega)
      have hfl : (([key, a, m].take 2).flatMap uvl).length ≤ 20 := by
        have := uvl_small key hk
        have := uvl_small a (by omega)
        simp [List.flatMap_cons]
        try omega
      have I2 := hide o2.isB
      have O2 := hide (hO.out.keep k2)
      have T2 := hide (hT.out.trans (Turn.of_below _ k2))
      have S2 := hide (Nat.le_trans HSZ.out k2.size)
      clear o2 k2 hO hT hx
      go_wp2_with (at_builtin; refine halt ?_)
      refine ⟨?_⟩
      refine wpList_append_at rfl (.tmp 19) (.tmp 21) rfl B u0 _ rfl O2.out _ (uvl m) rfl I2.out (by rw [List.length_append]; omega) (by have := S2.out; omega) ?_
      intro v3 w3 o3 g3 l3
      have O3 := hide o3
      have T3 : Hid (Turn (fun k => some k = v.ownBlock ∨ w.heap.size + 1 ≤ k) W0 w3) := hide (T2.out.trans ((Turn.of_grown g3).mono (fun k e => by
        rcases hL.out k e.symm with q | q
        · exact .inl q.symm
        · exact .inr q)))
      have L3 : Hid (∀ g, v3.ownBlock = some g → v.ownBlock = some g ∨ w.heap.size + 1 ≤ g) := hide (fun g hg => by
        rcases l3 with q | q
        · exact hL.out g (by rw [← q]; exact hg)
        · rw [q] at hg
          exact .inr (by rw [← Option.some.inj hg]; exact S2.out))
      clear o3 g3 l3 O2 T2 I2 hL
      go_wp2_with fail
      go_roundw
      case rel => exact ⟨3, by omega, by go_num, by simpa using O3, L3, T3⟩
      case measure => simp [intOf]
    · have bx := B0.out.turn hT.out HNZ.out
      have q3 := bx.cell 3
      have q4 := bx.cell 4
      dsimp only [Array.toList, List.getElem?_cons_zero, List.getElem?_cons_succ] at q3 q4
      have hul1 := uvl_small key hk
      have hul2 := uvl_small a (by omega)
      have hul3 := uvl_small m (by omega)
      have e9 : xs ++ ([key, a, m].take 3).flatMap uvl = xs ++ (uvl key ++ uvl a ++ uvl m) := by simp
      rw [e9] at hO
      obtain ⟨XS, hXS⟩ : ∃ X, X = xs ++ (uvl key ++ uvl a ++ uvl m) := ⟨_, rfl⟩
      have hXl : XS.length ≤ 1000000030 := by rw [hXS]; simp only [List.length_append]; omega
      have hfin : ∀ f : Nat, XS ++ be32 ck ++ [f] = xs ++ (uvl key ++ uvl a ++ uvl m ++ be32 ck ++ [f]) := fun f => by rw [hXS]; simp
      rw [← hXS] at hO
      have BX := hide bx
      have HFIN := hide hfin
      clear e9 hXS bx hul1 hul2 hul3 hfin
      go_wp2_with fail
      refine (put32_any _ ck rfl wr hc).mono ?_
      rintro e w2 ⟨s, rfl, o2, k2⟩
      have I2 := hide o2.isB
      have O2 := hide (hO.out.keep k2)
      have T2 := hide (hT.out.trans (Turn.of_below _ k2))
      have S2 := hide (Nat.le_trans HSZ.out k2.size)
      clear o2 k2 hO hT q3 q4
      go_wp2_with (at_builtin; refine halt ?_)
      refine ⟨?_⟩
      refine wpList_append_at rfl (.tmp 24) (.tmp 27) rfl B u0 _ rfl O2.out _ (be32 ck) rfl I2.out (by rw [be32_len]; omega) (by have := S2.out; omega) ?_
      intro v3 w3 o3 g3 l3
      have O3 := hide o3
      have T3 : Hid (Turn (fun k => some k = v.ownBlock ∨ w.heap.size + 1 ≤ k) W0 w3) := hide (T2.out.trans ((Turn.of_grown g3).mono (fun k e => by
        rcases hL.out k e.symm with q | q
        · exact .inl q.symm
        · exact .inr q)))
      have L3 : Hid (∀ g, v3.ownBlock = some g → v.ownBlock = some g ∨ w.heap.size + 1 ≤ g) := hide (fun g hg => by
        rcases l3 with q | q
        · exact hL.out g (by rw [← q]; exact hg)
        · rw [q] at hg
          exact .inr (by rw [← Option.some.inj hg]; exact S2.out))
      have S3 := hide (Nat.le_trans S2.out g3.size)
      have bx := B0.out.turn T3.out HNZ.out
      have q4 := bx.cell 4
      dsimp only [Array.toList, List.getElem?_cons_zero, List.getElem?_cons_succ] at q4
      clear o3 g3 l3 O2 T2 I2 hL bx BX S2
      cases dd
      · go_wp2_with (at_builtin; refine halt ?_)
        refine ⟨?_⟩
        have k5 := below_alloc w3 (.cells #[.int .u8 0] 5)
        refine wpList_append_at rfl (.tmp 34) (.tmp 35) rfl B v3 _ rfl (O3.out.keep k5) _ [0] rfl (isB_new w3 _ [0] rfl (by decide) _ _ rfl rfl) (by rw [List.length_append, be32_len]; simp; omega) (by have := S3.out; have := k5.size; omega) ?_
        intro v6 w6 o6 g6 l6
        rw [HFIN.out 0] at o6
        have T6 := (T3.out.trans (Turn.of_below _ k5)).trans ((Turn.of_grown g6).mono (fun k e => by
          rcases L3.out k e.symm with q | q
          · exact .inl q.symm
          · exact .inr q))
        have k6 : Below B w w6 := (K0.out.mono hB).trans (T6.below (Nat.le_trans hB K0.out.size) (fun k e => by
          rcases e with e | e
          · exact (HVB.out k e.symm).1
          · omega))
        have O6 := hide o6
        have K6 := hide k6
        clear o6 g6 l6 T6 k6 k5
        go_wp2_with fail
        go_ret
        exact ⟨_, rfl, O6.out, K6.out⟩
      · go_wp2_with (at_builtin; refine halt ?_)
        refine ⟨?_⟩
        have k5 := below_alloc w3 (.cells #[.int .u8 1] 5)
        refine wpList_append_at rfl (.tmp 31) (.tmp 32) rfl B v3 _ rfl (O3.out.keep k5) _ [1] rfl (isB_new w3 _ [1] rfl (by decide) _ _ rfl rfl) (by rw [List.length_append, be32_len]; simp; omega) (by have := S3.out; have := k5.size; omega) ?_
        intro v6 w6 o6 g6 l6
        rw [HFIN.out 1] at o6
        have T6 := (T3.out.trans (Turn.of_below _ k5)).trans ((Turn.of_grown g6).mono (fun k e => by
          rcases L3.out k e.symm with q | q
          · exact .inl q.symm
          · exact .inr q))
        have k6 : Below B w w6 := (K0.out.mono hB).trans (T6.below (Nat.le_trans hB K0.out.size) (fun k e => by
          rcases e with e | e
          · exact (HVB.out k e.symm).1
          · omega))
        have O6 := hide o6
        have K6 := hide k6
        clear o6 g6 l6 T6 k6 k5
        go_wp2_with fail
        go_ret
        exact ⟨_, rfl, O6.out, K6.out⟩
end Go.Proofs.Ytdbngchbhoanpaa
namespace Go.Proofs.Ytdbngchbhoanpaa
open Go.RowKit
/-- Bytes as a text. -/
def txt (xs : List Nat) : ByteArray := ⟨(xs.map UInt8.ofNat).toArray⟩
theorem txt_inj {xs ys : List Nat} (hx : ∀ x ∈ xs, x < 256) (hy : ∀ y ∈ ys, y < 256) (h : txt xs = txt ys) : xs = ys := by
  have h1 : xs.map UInt8.ofNat = ys.map UInt8.ofNat := by
    have := congrArg (fun s : ByteArray => s.data.toList) h
    simpa [txt] using this
  refine List.ext_getElem ?_ fun i a b => ?_
  · have := congrArg List.length h1
    simpa using this
  · have h2 := congrArg (fun l => (l[i]?).map UInt8.toNat) h1
    simp [a, b] at h2
    have h3 := hx xs[i] (List.getElem_mem a)
    have h4 := hy ys[i] (List.getElem_mem b)
    omega
theorem convert_txt (w : World) (A : Option Addr) (n c : Nat) (xs : List Nat) (hA : IsB w (.slice A n c) xs) (hb : ∀ x ∈ xs, x < 256) :
    (convert 24 9 (.slice A n c)).run Try.prog w = .ok (.string (txt xs)) w := by
  obtain ⟨hl, h1, h2⟩ := isB_len hA
  rcases A with _ | ad
  · obtain ⟨A', c', e, r, h0, _⟩ := hA
    cases e
    have hc := h0 rfl
    obtain rfl : xs = [] := List.eq_nil_of_length_eq_zero (by omega)
    have e0 : (convert 24 9 (.slice none 0 0)).run Try.prog w = .ok (.string (txt [])) w := by
      rw [run_convert_bytes_string w _ _ 5 none _ _ Try.underlying24 Try.underlying5 Try.underlying9]
      rfl
    rw [hc]
    exact e0
  · by_cases h0 : xs = []
    · subst h0
      have hn : n = 0 := by simpa using hl.symm
      subst hn
      have h := run_convert_bytes_back (P := Try.prog) w 24 9 5 ad c [] Try.underlying24 Try.underlying5 Try.underlying9 (fun j hj => by simp at hj)
      exact h
    · obtain ⟨g, off, e, hc⟩ := hA.rd h0
      cases e
      have h := run_convert_bytes_back (P := Try.prog) w 24 9 5 ⟨g, off, none⟩ c (xs.map UInt8.ofNat) Try.underlying24 Try.underlying5 Try.underlying9 (fun j hj => by
        have hj' : j < xs.length := by simpa using hj
        rw [add_off, hc j hj']
        have h3 := hb xs[j] (List.getElem_mem hj')
        simp [hj']
        omega)
      rw [List.length_map, hl] at h
      exact h
set_option maxHeartbeats 800000 in
theorem bytesEqual_any (A B : Option Addr) (n m ca cb : Nat) (xs ys : List Nat) (w : World) (hA : IsB w (.slice A n ca) xs) (hB : IsB w (.slice B m cb) ys) (hx : ∀ x ∈ xs, x < 256) (hy : ∀ y ∈ ys, y < 256) :
    Calls Try.prog 24 #[.slice A n ca, .slice B m cb] w fun e w' => e = .returned (.bool (decide (xs = ys))) ∧ w = w' := by
  have c1 := convert_txt w A n ca xs hA hx
  have c2 := convert_txt w B m cb ys hB hy
  have hq : ((txt xs).toList == (txt ys).toList) = decide (xs = ys) := by
    rw [Bool.eq_iff_iff, decide_eq_true_iff, beq_iff_eq, ByteArray.toList_eq, ByteArray.toList_eq]
    refine ⟨fun h => txt_inj hx hy ?_, fun h => by rw [h]⟩
    exact congrArg (fun l : List UInt8 => (⟨l.toArray⟩ : ByteArray)) h
  obtain ⟨u, hu⟩ : ∃ u, u = txt xs := ⟨_, rfl⟩
  obtain ⟨v, hv⟩ : ∃ v, v = txt ys := ⟨_, rfl⟩
  rw [← hu] at c1 hq
  rw [← hv] at c2 hq
  have HQ := hide hq
  clear hu hv hq hA hB hx hy
  go_enter Try.func24, Try.ntmps24
  go_wp2_with fail
  go_ret
  exact ⟨ret_bool HQ.out, rfl⟩
end Go.Proofs.Ytdbngchbhoanpaa
namespace Go.Proofs.Ytdbngchbhoanpaa
open Go.RowKit
theorem crcStep_xor (a b : Nat) : crcStep (a ^^^ b) = crcStep a ^^^ crcStep b := by
  have h1 : (a ^^^ b) / 2 = a / 2 ^^^ b / 2 := Nat.xor_div_two_pow (n := 1)
  have h2 : (a ^^^ b) % 2 = (a % 2) ^^^ (b % 2) := Nat.xor_mod_two_pow (n := 1)
  unfold crcStep
  rw [h1, h2]
  rcases Nat.mod_two_eq_zero_or_one a with ha | ha <;> rcases Nat.mod_two_eq_zero_or_one b with hb | hb <;> rw [ha, hb]
  · rfl
  · show (a / 2 ^^^ b / 2) ^^^ 3988292384 = a / 2 ^^^ (b / 2 ^^^ 3988292384)
    rw [Nat.xor_assoc]
  · show (a / 2 ^^^ b / 2) ^^^ 3988292384 = (a / 2 ^^^ 3988292384) ^^^ b / 2
    rw [Nat.xor_assoc, Nat.xor_assoc, Nat.xor_comm (b / 2)]
  · show a / 2 ^^^ b / 2 = (a / 2 ^^^ 3988292384) ^^^ (b / 2 ^^^ 3988292384)
    rw [Nat.xor_comm (b / 2) 3988292384, Nat.xor_assoc, ← Nat.xor_assoc 3988292384, Nat.xor_self, Nat.zero_xor]
theorem crcB_xor (a b : Nat) : ∀ k, crcB (a ^^^ b) k = crcB a k ^^^ crcB b k
  | 0 => rfl
  | k + 1 => by
    show crcStep (crcB (a ^^^ b) k) = crcStep (crcB a k) ^^^ crcStep (crcB b k)
    rw [crcB_xor a b k, crcStep_xor]
theorem crcStep_twice (q : Nat) : crcStep (2 * q) = q := by
  unfold crcStep
  rw [if_neg (by omega)]
  omega
theorem crcB_16 (q : Nat) : crcB (16 * q) 4 = q := by
  show crcStep (crcStep (crcStep (crcStep (16 * q)))) = q
  have e1 : 16 * q = 2 * (2 * (2 * (2 * q))) := by omega
  rw [e1, crcStep_twice, crcStep_twice, crcStep_twice, crcStep_twice]
theorem half_byte (s : Nat) : crcB s 4 = s / 16 ^^^ crcB (s % 16) 4 := by
  have e : (16 * (s / 16)) ^^^ (s % 16) = s := by
    obtain ⟨t, ht⟩ : ∃ t, t = (16 * (s / 16)) ^^^ (s % 16) := ⟨_, rfl⟩
    have h1 : t / 16 = (16 * (s / 16)) / 16 ^^^ (s % 16) / 16 := by rw [ht]; exact Nat.xor_div_two_pow (n := 4)
    have h2 : t % 16 = (16 * (s / 16)) % 16 ^^^ (s % 16) % 16 := by rw [ht]; exact Nat.xor_mod_two_pow (n := 4)
    have e1 : (16 * (s / 16)) / 16 = s / 16 := by omega
    have e2 : (s % 16) / 16 = 0 := by omega
    have e3 : (16 * (s / 16)) % 16 = 0 := by omega
    have e4 : (s % 16) % 16 = s % 16 := by omega
    rw [e1, e2, Nat.xor_zero] at h1
    rw [e3, e4, Nat.zero_xor] at h2
    rw [← ht]
    omega
  have h := crcB_xor (16 * (s / 16)) (s % 16) 4
  rw [e, crcB_16] at h
  exact h
theorem half_walk (s q m : Nat) (hs : s < 4294967296) (hq : q = s / 16) (hm : m = s % 16) : bits .xor .u32 (q : Int) ((crcB m 4 : Nat) : Int) = ((crcB s 4 : Nat) : Int) := by
  rw [half_byte s, ← hq, ← hm]
  exact xor32 _ _ (by omega) (crcB_lt (by omega) 4)
theorem crcStep_odd (t : Nat) (h : t % 2 = 1) (ht : t < 4294967296) : bits .xor .u32 ((t : Int) / 2) 3988292384 = ((crcStep t : Nat) : Int) := half_poly t ht h
theorem crcStep_even (t : Nat) (h : t % 2 = 0) : (t : Int) / 2 = ((crcStep t : Nat) : Int) := by
  unfold crcStep
  rw [if_neg (by omega)]
  simp
set_option maxHeartbeats 400000 in
theorem digit_any (n : Nat) (w : World) (hn : n < 4294967296) :
    Calls Try.prog 46 #[.int .u32 (n : Int)] w fun e w' => e = .returned (.int .u32 (crcB n 4 : Nat)) ∧ w = w' := by
  have HNN : Hid (n < 4294967296) := hide hn
  clear hn
  go_enter Try.func46, Try.ntmps46
  go_wp2
  go_loop [0, 3] (fun t i => ∃ j : Nat, j ≤ 4 ∧ i = .int .i64 (j : Int) ∧ t = .int .u32 (crcB n j : Nat)) (fun _ i => 4 - (intOf i).toNat)
  case atStart => exact ⟨0, Nat.zero_le _, rfl, rfl⟩
  case round =>
    obtain ⟨j, hj, rfl, rfl⟩ := hrel
    have ht := crcB_lt HNN.out j
    by_cases hlt : j < 4
    · have hst : crcB n (j + 1) = crcStep (crcB n j) := rfl
      obtain ⟨t, hte⟩ : ∃ t, t = crcB n j := ⟨_, rfl⟩
      rw [← hte] at ht hst ⊢
      have HST := hide hst
      clear hst hte
      by_cases hodd : t % 2 = 1
      · have h2 := crcStep_odd t hodd ht
        go_wp2
        go_round
        case rel => exact ⟨j + 1, by omega, by go_num, by rw [HST.out]⟩
        case measure => simp [intOf]; omega
      · have h0 : t % 2 = 0 := by omega
        have H2 := hide (crcStep_even t h0)
        clear hodd
        go_wp2
        go_round
        case rel => exact ⟨j + 1, by omega, by go_num, by rw [HST.out, H2.out]⟩
        case measure => simp [intOf]; omega
    · obtain rfl : j = 4 := by omega
      go_wp2
      go_ret
      exact ⟨rfl, rfl⟩
/-- A block of cells that the call made, as a table. -/
def Tab (w : World) (g : Nat) (e : TypeId) (n : Nat) (f : Nat → Value) (k : Nat) : Prop := ∃ cur, cur.size = n ∧ w.heap[g]? = some (.cells cur e (0, 0)) ∧ ∀ j, j < k → cur[j]? = some (f j)
theorem Tab.cell {w : World} {g : Nat} {e : TypeId} {n k : Nat} {f : Nat → Value} (h : Tab w g e n f k) {j : Nat} (hj : j < k) : w.cell? ⟨g, j, none⟩ = some (f j) := by
  obtain ⟨cur, _, hg, hc⟩ := h
  rw [cell_of_row w g j cur e (0, 0) hg]
  exact hc j hj
theorem Tab.some_ {w : World} {g : Nat} {e : TypeId} {n k : Nat} {f : Nat → Value} (h : Tab w g e n f k) {j : Nat} (hj : j < n) : ∃ v, w.cell? ⟨g, j, none⟩ = some v := by
  obtain ⟨cur, hs, hg, _⟩ := h
  refine ⟨cur[j]'(by omega), ?_⟩
  rw [cell_of_row w g j cur e (0, 0) hg]
  simp
theorem Tab.frozen {w : World} {g : Nat} {e : TypeId} {n k : Nat} {f : Nat → Value} (h : Tab w g e n f k) (j : Nat) : w.frozen? ⟨g, j, none⟩ = false := by
  obtain ⟨cur, _, hg, _⟩ := h
  exact frozen_of_row w g j cur e hg
theorem Tab.lt {w : World} {g : Nat} {e : TypeId} {n k : Nat} {f : Nat → Value} (h : Tab w g e n f k) : g < w.heap.size := by
  obtain ⟨cur, _, hg, _⟩ := h
  rcases Nat.lt_or_ge g w.heap.size with hlt | hge
  · exact hlt
  · simp [Array.getElem?_eq_none hge] at hg
theorem Tab.set {w : World} {g : Nat} {e : TypeId} {n k : Nat} {f : Nat → Value} (h : Tab w g e n f k) (hk : k < n) : Tab (w.setCell ⟨g, k, none⟩ (f k)) g e n f (k + 1) := by
  obtain ⟨cur, hs, hg, hc⟩ := h
  refine ⟨cur.setIfInBounds k (f k), by simpa using hs, heap_setCell_same w g k cur e (f k) hg, fun j hj => ?_⟩
  by_cases hjk : k = j
  · subst hjk
    simp [hs, hk]
  · rw [Array.getElem?_setIfInBounds, if_neg hjk]
    exact hc j (by omega)
theorem Tab.new (w : World) (cs : Array Value) (e : TypeId) (n g : Nat) (f : Nat → Value) (hs : cs.size = n) (hg : g = w.heap.size) : Tab (w.alloc (.cells cs e)) g e n f 0 := by
  subst hg
  exact ⟨cs, hs, heap_alloc_new w _, fun j hj => absurd hj (by omega)⟩
set_option maxHeartbeats 1600000 in
set_option maxRecDepth 100000 in
theorem rsum_any (A : Option Addr) (n ca : Nat) (xs : List Nat) (w : World) (hA : Rd w A xs) (hn : n = xs.length) (hb : ∀ x ∈ xs, x < 256) (ln : n ≤ 9223372036854775807) :
    Calls Try.prog 32 #[.slice A n ca] w fun e w' => e = .returned (.int .u32 (sumS xs : Nat)) ∧ Below w.heap.size w w' := by
  have HN := hide hn
  have HA := hide hA
  have HB := hide hb
  clear hn hA hb
  go_enter Try.func32, Try.ntmps32
  go_wp2
  go_loopw [4] (fun i wr => ∃ k : Nat, k ≤ 16 ∧ i = .int .i64 (k : Int) ∧ Hid (Tab wr w.heap.size 84 16 (fun j => .int .u32 (crcB j 4 : Nat)) k) ∧ Hid (Below w.heap.size w wr)) (fun i _ => 16 - (intOf i).toNat)
  case atStart => exact ⟨0, Nat.zero_le _, rfl, Tab.new _ _ _ _ _ _ rfl rfl, (Below.refl _ _).alloc (Nat.le_refl _) _⟩
  case round =>
    obtain ⟨k, hk, rfl, htab, hbel⟩ := hrel
    by_cases hlt : k < 16
    · obtain ⟨v, ck⟩ := htab.out.some_ hlt
      have fk := htab.out.frozen k
      have T2 := hide (htab.out.set hlt)
      have B2 := hide (show Below w.heap.size w (wr.setCell ⟨w.heap.size, k, none⟩ (.int .u32 (crcB k 4 : Nat))) from hbel.out.setCell (Nat.le_refl _) _)
      go_wp2_with fail
      refine (digit_any k _ (by omega)).mono ?_
      rintro e w1 ⟨rfl, rfl⟩
      go_wp2_with fail
      go_roundw
      case rel => exact ⟨k + 1, by omega, by go_num, T2, B2⟩
      case measure => simp [intOf]; omega
    · obtain rfl : k = 16 := by omega
      have HA2 := hide (HA.out.below hbel.out)
      clear HA hlt
      go_wp2_with fail
      go_loop [5, 6] (fun s i => ∃ k : Nat, k ≤ n ∧ i = .int .i64 (k : Int) ∧ s = .int .u32 (crcF 4294967295 (xs.take k) : Nat)) (fun _ i => n - (intOf i).toNat)
      case atStart => exact ⟨0, Nat.zero_le _, rfl, rfl⟩
      case round =>
        obtain ⟨k, hk, rfl, rfl⟩ := hrel
        have hs := crcF_lt (s := 4294967295) (by decide) (xs := xs.take k) (fun x hx => HB.out x (List.mem_of_mem_take hx))
        by_cases hlt : k < n
        · obtain ⟨b1, o1, rfl, c1⟩ := HA2.out (by intro e; rw [HN.out, e] at hlt; simp at hlt)
          obtain ⟨x, k1, hx, ex⟩ := rd_at c1 HB.out k (by rw [← HN.out]; exact hlt)
          have hsn := crcF_snoc 4294967295 xs k (by rw [← HN.out]; exact hlt)
          obtain ⟨s, hse⟩ : ∃ s, s = crcF 4294967295 (xs.take k) := ⟨_, rfl⟩
          rw [← ex] at hsn
          rw [← hse] at hs hsn ⊢
          have HSN := hide hsn
          clear hsn ex hse c1
          have hxor := xor32 s x hs (by omega)
          have hs1 := xor_lt32 hs (show x < 4294967296 by omega)
          obtain ⟨s1, hs1e⟩ : ∃ s1, s1 = s ^^^ x := ⟨_, rfl⟩
          rw [← hs1e] at hxor hs1
          obtain ⟨q1, hq1⟩ : ∃ q1, q1 = s1 / 16 := ⟨_, rfl⟩
          obtain ⟨m1, hm1⟩ : ∃ m1, m1 = s1 % 16 := ⟨_, rfl⟩
          have x1 := half_walk s1 q1 m1 hs1 hq1 hm1
          have d1 : (s1 : Int) / 16 = (q1 : Int) := by omega
          have r1 : (s1 : Int) % 16 = (m1 : Int) := by omega
          have t1 := htab.out.cell (j := m1) (by omega)
          have hs2 := crcB_lt hs1 4
          have h8 : crcB s1 8 = crcB (crcB s1 4) 4 := rfl
          obtain ⟨s2, hs2e⟩ : ∃ s2, s2 = crcB s1 4 := ⟨_, rfl⟩
          rw [← hs2e] at x1 hs2 h8
          obtain ⟨q2, hq2⟩ : ∃ q2, q2 = s2 / 16 := ⟨_, rfl⟩
          obtain ⟨m2, hm2⟩ : ∃ m2, m2 = s2 % 16 := ⟨_, rfl⟩
          have x2 := half_walk s2 q2 m2 hs2 hq2 hm2
          have d2 : (s2 : Int) / 16 = (q2 : Int) := by omega
          have r2 : (s2 : Int) % 16 = (m2 : Int) := by omega
          have t2 := htab.out.cell (j := m2) (by omega)
          have l1 : m1 < 16 := by omega
          have l2 : m2 < 16 := by omega
          have H8 := hide h8
          have HS1 := hide hs1e
          clear h8 hs1e hs2e hq1 hm1 hq2 hm2
          go_wp2_with fail
          go_round
          case rel => exact ⟨k + 1, by omega, by go_num, by rw [HSN.out, ← HS1.out, H8.out]⟩
          case measure => simp [intOf]; omega
        · have he : xs.take k = xs := List.take_of_length_le (by rw [← HN.out]; omega)
          rw [he] at hs ⊢
          have hnot := not32 (crcF 4294967295 xs) hs
          have hsum : sumS xs = 4294967295 - crcF 4294967295 xs := rfl
          rw [← hsum] at hnot
          have hsig : IntKind.u32.signed = false := rfl
          clear hsum he
          go_wp2_with fail
          go_ret
          exact ⟨rfl, hbel.out⟩
end Go.Proofs.Ytdbngchbhoanpaa
namespace Go.Proofs.Ytdbngchbhoanpaa
open Go.RowKit
set_option maxHeartbeats 400000 in
theorem rput32_any (x : Int) (v : Nat) (hx : x = (v : Int)) (w : World) (hv : v < 4294967296) :
    Calls Try.prog 19 #[.int .u32 x] w fun e w' => ∃ s, e = .returned s ∧ Own w' w.heap.size s (be32 v) ∧ Below w.heap.size w w' := by
  subst hx
  go_enter Try.func19, Try.ntmps19
  go_wp2
  go_ret
  exact ⟨_, rfl, own_be32 w v hv, (Below.refl _ _).alloc (Nat.le_refl _) _⟩
end Go.Proofs.Ytdbngchbhoanpaa
namespace Go.Proofs.Ytdbngchbhoanpaa
open Go.RowKit
set_option maxHeartbeats 800000 in
theorem rget32_any (A : Option Addr) (n c : Nat) (xs : List Nat) (w : World) (hA : Rd w A xs) (hn : n = xs.length) (hb : ∀ x ∈ xs, x < 256) (h4 : 4 ≤ n) (ln : n ≤ 9223372036854775807) :
    Calls Try.prog 27 #[.slice A n c] w fun e w' => e = .returned (.int .u32 (val32 xs : Nat)) ∧ ∃ d, w' = w.drewN d := by
  obtain ⟨b, off, rfl, hc⟩ := hA (by intro e; rw [e] at hn; simp at hn; omega)
  obtain ⟨x0, c0, l0, e0⟩ := rd_at hc hb 0 (by omega)
  obtain ⟨x1, c1, l1, e1⟩ := rd_at hc hb 1 (by omega)
  obtain ⟨x2, c2, l2, e2⟩ := rd_at hc hb 2 (by omega)
  obtain ⟨x3, c3, l3, e3⟩ := rd_at hc hb 3 (by omega)
  rw [Nat.add_zero] at c0
  have E := hide (And.intro e0 (And.intro e1 (And.intro e2 e3)))
  clear hc e0 e1 e2 e3 hA
  have HN := hide hn
  clear hn hb
  go_enter Try.func27, Try.ntmps27
  go_wp2
  go_quiet (fail)
  go_wp2
  go_ret
  refine ⟨?_, nq, rfl⟩
  have e := E.out
  rw [get32_eq x0 x1 x2 x3 l0 l1 l2 l3]
  unfold val32
  rw [← e.1, ← e.2.1, ← e.2.2.1, ← e.2.2.2]
  rfl
end Go.Proofs.Ytdbngchbhoanpaa
namespace Go.Proofs.Ytdbngchbhoanpaa
open Go.RowKit
theorem step_append_bytes {w : World} {ops : Array Oper} {o : Oper} {a : Act} {K : Act → World → Prop} {Q : Exit → Act → World → Prop} {E : Prop} (hgd : o.guard = none) (s x : Operand)
    (ho : o.op = .call { callee := .builtin .append, args := #[s, x], argTypes := #[24, 24] })
    (B : Nat) (v : Value) (xs : List Nat) (hs : a.eval s = v) (hown : Own w B v xs)
    (u : Value) (ys : List Nat) (hx : a.eval x = u) (hr : IsB w u ys)
    (hlen : xs.length + ys.length ≤ 140737488355328) (hbase : B ≤ w.heap.size)
    (h : ∀ v' w', Own w' B v' (xs ++ ys) → Below B w w' → K (a.put o.dst v') w') : if Region.wanted o (yielded ops a.tmps) = true then Oper.wp Try.prog o a w K Q else E := by
  have hw : Region.wanted o (yielded ops a.tmps) = true := by simp [Region.wanted, hgd]
  rw [if_pos hw]
  obtain ⟨i0, hi, hz0, hz1, hz2⟩ := info_parts Try.info_u8'
  obtain ⟨A, c, rfl, hr, hn, _⟩ := hr
  have fin : ∀ v' w', w'.ownsRow B 5 1 v' (xs.length + ys.length) ((xs.map fun x : Nat => Value.int .u8 (x : Int)) ++ (ys.map fun x : Nat => Value.int .u8 (x : Int))) → w.grownBy w' v.ownBlock → K (a.put o.dst v') w' := by
    intro v' w' hown' hg
    refine h v' w' (by unfold Own; simpa using hown') ((Below.refl _ _).grown hg hbase fun k hk => (hown.lt k hk).1)
  rcases A with _ | ad
  · have h0 := hn rfl
    subst h0
    have hys : ys = [] := by
      rcases ys with _ | ⟨y, ys⟩
      · rfl
      · obtain ⟨_, _, e, _⟩ := hr (by simp)
        cases e
    subst hys
    have hrun := run_append_owned_none (P := Try.prog) (w := w) B 24 o.type 5 i0 1 Try.underlying24 hi v _ _ hown
    unfold Oper.wp
    simp [execOp, ho, resolve, invoke, builtin, hs, hx, hrun, Result.andThen]
    exact fin v w (by simpa [Own] using hown) (World.grownBy.refl w _)
  · refine wp_append_own w s x _ ho B 5 i0 (.int .u8 0) 1 1 Try.underlying24 hi hz0 hz1 hz2 rfl (by decide) v _ _ hs hown ad ys.length c (ys.map fun x : Nat => Value.int .u8 (x : Int)) hx (by simp) ?_ ?_ (by unfold maxLen; omega) (by omega) hbase (fun v' w' h1 h2 _ => fin v' w' h1 h2)
    · intro j u hu
      have hj : j < ys.length := by
        rcases Nat.lt_or_ge j ys.length with h | h
        · exact h
        · simp [h] at hu
      obtain ⟨b, off, e, hc⟩ := hr (by intro e; rw [e] at hj; simp at hj)
      cases e
      have := hc j hj
      simp [hj] at hu
      subst hu
      simpa [add_off, hj] using this
    · intro u hu
      simp at hu
      obtain ⟨y, _, rfl⟩ := hu
      rfl
end Go.Proofs.Ytdbngchbhoanpaa
