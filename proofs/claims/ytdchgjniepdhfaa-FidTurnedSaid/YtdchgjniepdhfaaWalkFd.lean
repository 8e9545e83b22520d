/- The walks of the laws FidTexts, FidCookies, FidTurned and FidParses: each returns true, and writes nothing that was there. No conditions but the widths and the form's reach. -/
import Derived.Test.YtdchgjniepdhfaaFdKnow
import Derived.Test.YtdchgjniepdhfaaFdRText
import Derived.Test.YtdchgjniepdhfaaFdCook
namespace Go.Proofs.Ytdchgjniepdhfaa
open Go.RowKit
set_option maxHeartbeats 1600000 in
theorem fidTexts_bad (v : Int) (k c : Nat) (w : World) (hb : v < 1 ∨ 99999999 < v ∨ k = 0) :
    Calls Try.prog 3 #[fdV v k c] w fun e w' => e = .returned (.bool true) ∧ Below w.heap.size w w' := by
    have HP := hide (fun W => text_bad v k c W hb)
    have HR := hide (fun W => rtext_bad v k c W hb)
    clear hb
    unfold fdV at *
    go_enter Try.func3, Try.ntmps3
    go_wp2_with fail
    have b0 : Blk (w.alloc (.cells #[.int .i64 v, .int .u64 (k : Int), .int .u32 (c : Int)] 25)) 0 25 w.heap.size [.int .i64 v, .int .u64 (k : Int), .int .u32 (c : Int)] := Blk.new w 25 #[.int .i64 v, .int .u64 (k : Int), .int .u32 (c : Int)] (Nat.zero_le _)
    have ka := below_alloc w (.cells #[.int .i64 v, .int .u64 (k : Int), .int .u32 (c : Int)] 25)
    obtain ⟨g, hg⟩ : ∃ g, g = w.heap.size := ⟨_, rfl⟩
    rw [← hg] at b0 ⊢
    obtain ⟨W, hW⟩ : ∃ W, W = w.alloc (.cells #[.int .i64 v, .int .u64 (k : Int), .int .u32 (c : Int)] 25) := ⟨_, rfl⟩
    rw [← hW] at ka b0 ⊢
    have HG := hide hg
    have KA := hide ka
    have B0 := hide b0
    clear ka b0 hg hW
    refine (HP.out _).mono ?_
    rintro e w1 ⟨rfl, k1⟩
    have B1 := hide (B0.out.keep k1)
    have K1 := hide (below_step KA.out k1)
    have b10 := B1.out.cell 0
    have b11 := B1.out.cell 1
    have b12 := B1.out.cell 2
    dsimp only [List.getElem?_cons_succ, List.getElem?_cons_zero] at b10 b11 b12
    clear k1
    go_wp2_with fail
    refine (HR.out _).mono ?_
    rintro e w2 ⟨rfl, k2⟩
    have K2 := hide (below_step K1.out k2)
    clear k2
    go_wp2_with fail
    refine (known_any _).mono ?_
    rintro e w3 ⟨rfl, k3⟩
    have K3 := hide (below_step K2.out k3)
    clear k3
    go_wp2_with fail
    go_ret
    exact ⟨rfl, K3.out⟩
theorem isAnswer_of {f : Fd} (hf : FdOk f) {v : Value} (h : isAnswer (textL f) v) : v = .tuple #[fdV (f.v : Int) f.k f.c, .int .i64 0] := by
  rcases h with ⟨g, ⟨hg, ht⟩, hv⟩ | ⟨hn, _⟩
  · rw [hv, textL_inj hg hf ht]
  · exact absurd ⟨hf, rfl⟩ (hn f)
theorem len40 {f : Fd} (hf : FdOk f) : (textL f).length < 1099511627776 := by have := (textL_len hf).2; omega
set_option maxHeartbeats 1600000 in
theorem fidTexts_ok (v k c : Nat) (w : World) (hf : FdOk ⟨v, k, c⟩) :
    Calls Try.prog 3 #[fdV (v : Int) k c] w fun e w' => e = .returned (.bool true) ∧ Below w.heap.size w w' := by
    have HP := hide (fun W => text_ok ⟨v, k, c⟩ W hf)
    have HR := hide (fun W => rtext_ok ⟨v, k, c⟩ W hf)
    have HQ := hide (fun W => parse_any (textL ⟨v, k, c⟩) W (len40 hf))
    have HF := hide hf
    obtain ⟨s, hs⟩ : ∃ s, s = mkS (textL ⟨v, k, c⟩) := ⟨_, rfl⟩
    rw [← hs] at HP HR HQ
    have hss : (s.toList == s.toList) = true := by simp
    clear hs hf
    unfold fdV at *
    go_enter Try.func3, Try.ntmps3
    go_wp2_with fail
    have b0 : Blk (w.alloc (.cells #[.int .i64 (v : Int), .int .u64 (k : Int), .int .u32 (c : Int)] 25)) 0 25 w.heap.size [.int .i64 (v : Int), .int .u64 (k : Int), .int .u32 (c : Int)] := Blk.new w 25 #[.int .i64 (v : Int), .int .u64 (k : Int), .int .u32 (c : Int)] (Nat.zero_le _)
    have ka := below_alloc w (.cells #[.int .i64 (v : Int), .int .u64 (k : Int), .int .u32 (c : Int)] 25)
    obtain ⟨g, hg⟩ : ∃ g, g = w.heap.size := ⟨_, rfl⟩
    rw [← hg] at b0 ⊢
    obtain ⟨W, hW⟩ : ∃ W, W = w.alloc (.cells #[.int .i64 (v : Int), .int .u64 (k : Int), .int .u32 (c : Int)] 25) := ⟨_, rfl⟩
    rw [← hW] at ka b0 ⊢
    have HG := hide hg
    have KA := hide ka
    have B0 := hide b0
    clear ka b0 hg hW
    refine (HP.out _).mono ?_
    rintro e w1 ⟨rfl, k1⟩
    have B1 := hide (B0.out.keep k1)
    have K1 := hide (below_step KA.out k1)
    have b10 := B1.out.cell 0
    have b11 := B1.out.cell 1
    have b12 := B1.out.cell 2
    dsimp only [List.getElem?_cons_succ, List.getElem?_cons_zero] at b10 b11 b12
    clear k1
    go_wp2_with fail
    refine (HR.out _).mono ?_
    rintro e w2 ⟨rfl, k2⟩
    have B2 := hide (B1.out.keep k2)
    have K2 := hide (below_step K1.out k2)
    clear k2 b10 b11 b12
    go_wp2_with fail
    refine (HQ.out _).mono ?_
    rintro e w3 ⟨⟨r, rfl, hr⟩, k3⟩
    have hr2 := isAnswer_of HF.out hr
    clear hr
    unfold fdV at hr2
    subst hr2
    have B3 := hide (B2.out.keep k3)
    have K3 := hide (below_step K2.out k3)
    have b30 := B3.out.cell 0
    have b31 := B3.out.cell 1
    have b32 := B3.out.cell 2
    dsimp only [List.getElem?_cons_succ, List.getElem?_cons_zero] at b30 b31 b32
    clear k3
    have k5 := below_alloc w3 (.cells #[.int .i64 (v : Int), .int .u64 (k : Int), .int .u32 (c : Int)] 25)
    have F5 : Blk (w3.alloc (.cells #[.int .i64 (v : Int), .int .u64 (k : Int), .int .u32 (c : Int)] 25)) 0 25 w3.heap.size [.int .i64 (v : Int), .int .u64 (k : Int), .int .u32 (c : Int)] := Blk.new w3 25 #[.int .i64 (v : Int), .int .u64 (k : Int), .int .u32 (c : Int)] (Nat.zero_le _)
    have B5 := B3.out.keep k5
    have K5 := hide (below_step K3.out k5)
    have b50 := B5.cell 0
    have b51 := B5.cell 1
    have b52 := B5.cell 2
    have f50 := F5.cell 0
    have f51 := F5.cell 1
    have f52 := F5.cell 2
    dsimp only [List.getElem?_cons_succ, List.getElem?_cons_zero] at b50 b51 b52 f50 f51 f52
    clear b30 b31 b32 k5 F5 B5
    go_wp2_with fail
    refine (known_any _).mono ?_
    rintro e w4 ⟨rfl, k4⟩
    have K4 := hide (below_step K5.out k4)
    clear k4
    go_wp2_with fail
    go_ret
    exact ⟨rfl, K4.out⟩
theorem fidTexts_walk (v : Int) (k c : Nat) (w : World) (hk : k < 18446744073709551616) (hc : c < 4294967296) :
    Calls Try.prog 3 #[fdV v k c] w fun e w' => e = .returned (.bool true) ∧ Below w.heap.size w w' := by
  by_cases hb : v < 1 ∨ 99999999 < v ∨ k = 0
  · exact fidTexts_bad v k c w hb
  · obtain ⟨n, rfl⟩ : ∃ n : Nat, v = (n : Int) := ⟨v.toNat, by omega⟩
    exact fidTexts_ok n k c w ⟨by simp only; omega, by simp only; omega, by simp only; omega, hk, hc⟩
set_option maxHeartbeats 1600000 in
theorem fidCookies_walk (a0 a1 a2 a3 : Int) (_w0 : (Lit.int .i64 a0).wf = true) (w1 : (Lit.int .u64 a1).wf = true) (w2 : (Lit.int .u32 a2).wf = true) (w3 : (Lit.int .u32 a3).wf = true) (w : World) :
    Calls Try.prog 5 #[.int .i64 a0, .int .u64 a1, .int .u32 a2, .int .u32 a3] w fun e w' => e = .returned (.bool true) ∧ Below w.heap.size w w' := by
  have b1 := bounds_u64 w1
  have b2 := bounds_u32 w2
  have b3 := bounds_u32 w3
  obtain ⟨k, rfl⟩ : ∃ k : Nat, a1 = (k : Int) := ⟨a1.toNat, by omega⟩
  obtain ⟨s, rfl⟩ : ∃ k : Nat, a2 = (k : Int) := ⟨a2.toNat, by omega⟩
  obtain ⟨b, rfl⟩ : ∃ k : Nat, a3 = (k : Int) := ⟨a3.toNat, by omega⟩
  have hk : k < 18446744073709551616 := by omega
  have hs : s < 4294967296 := by omega
  have hb : b < 4294967296 := by omega
  have hx := xor_walk hs hb
  have hsb : s ^^^ b < 4294967296 := Nat.xor_lt_two_pow (n := 32) hs hb
  have hinj : (b = 0) ↔ (cookL a0 k (s ^^^ b) = cookL a0 k s) := by
    constructor
    · rintro rfl
      rw [Nat.xor_zero]
    · intro h
      unfold cookL at h
      have hl := lowV_lt a0
      have h1 := ckL_inj 4 (Nat.xor_lt_two_pow (n := 32) hsb hl) (Nat.xor_lt_two_pow (n := 32) hs hl) h
      have h2 := congrArg (· ^^^ lowV a0) h1
      simp only [Nat.xor_assoc, Nat.xor_self, Nat.xor_zero] at h2
      have h3 := congrArg (fun z => s ^^^ z) h2
      simp only [← Nat.xor_assoc, Nat.xor_self, Nat.zero_xor] at h3
      exact h3
  have HC1 := hide (fun W => cookie_any a0 k s W hs hk)
  have HC2 := hide (fun W => rcookie_any a0 k s W hs hk)
  have HC3 := hide (fun W => cookie_any a0 k (s ^^^ b) W hsb hk)
  obtain ⟨t, ht⟩ : ∃ t, t = s ^^^ b := ⟨_, rfl⟩
  obtain ⟨c, hc⟩ : ∃ c, c = cookL a0 k s := ⟨_, rfl⟩
  rw [← ht] at hx HC3 hinj
  rw [← hc] at HC1 HC2 hinj
  obtain ⟨d, hd⟩ : ∃ d, d = cookL a0 k t := ⟨_, rfl⟩
  rw [← hd] at HC3 hinj
  have hbool : (((b : Int) == 0) == ((d : Int) == (c : Int))) = true := by
    by_cases h0 : b = 0
    · have := hinj.1 h0
      rw [h0, this]
      simp
    · have : ¬ d = c := fun h => h0 (hinj.2 h)
      have e1 : ((b : Int) == 0) = false := by rw [beq_eq_false_iff_ne]; omega
      have e2 : ((d : Int) == (c : Int)) = false := by rw [beq_eq_false_iff_ne]; omega
      rw [e1, e2]
      rfl
  have HB := hide hbool
  clear ht hc hd hinj hbool w1 w2 w3 hk hs hb hsb b1 b2 b3
  go_enter Try.func5, Try.ntmps5
  go_wp2_with fail
  refine (HC1.out _).mono ?_
  rintro e w1 ⟨rfl, rfl⟩
  go_wp2_with fail
  refine (HC2.out _).mono ?_
  rintro e w1 ⟨rfl, rfl⟩
  go_wp2_with fail
  refine (HC3.out _).mono ?_
  rintro e w1 ⟨rfl, rfl⟩
  have hbool := HB.out
  go_wp2_with fail
  refine (known_any _).mono ?_
  rintro e w3 ⟨rfl, k3⟩
  go_wp2_with fail
  go_ret
  exact ⟨rfl, k3⟩
end Go.Proofs.Ytdchgjniepdhfaa
