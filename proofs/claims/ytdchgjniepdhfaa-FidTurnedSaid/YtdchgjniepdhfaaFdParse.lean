/- The contract of fid.Parse: the file id of a text, or ErrForm. Condition: no more than 2 to the 38 bytes. -/
import Derived.Test.YtdchgjniepdhfaaFdText
import Derived.Test.YtdchgjniepdhfaaFdNum
namespace Go.Proofs.Ytdchgjniepdhfaa
open Go.RowKit
theorem cutA_le (l : List UInt8) : (cutA l).length ≤ l.length := (List.takeWhile_sublist _).length_le
theorem cutZ_le (l : List UInt8) : (cutZ l).length ≤ l.length := by
  unfold cutZ
  rw [List.length_drop]
  have : (l.dropWhile (· != 44)).length ≤ l.length := (List.dropWhile_sublist _).length_le
  omega
/-- What is read, whatever stands there. -/
def rdK (l : List UInt8) : Nat := numW 16 (cutA (cutZ l))
def rdC (l : List UInt8) : Nat := numW 16 (cutZ (cutZ l)) % 4294967296
def rdV (l : List UInt8) : Int := IntKind.i64.wrap ((numW 10 (cutA l) : Nat) : Int)
theorem rd_text {f : Fd} (h : FdOk f) : rdV (textL f) = (f.v : Int) ∧ rdK (textL f) = f.k ∧ rdC (textL f) = f.c := by
  obtain ⟨h1, h2, h3, h4, h5⟩ := h
  unfold rdV rdK rdC
  rw [textA, textB, textK, textC, numW_vL _ h2, numW_kL _ h4, numW_cL _ h5]
  refine ⟨?_, rfl, Nat.mod_eq_of_lt h5⟩
  rw [IntKind.wrap_i64]
  omega
/-- What was read is a file id, and these bytes are its text. -/
def IsText (l : List UInt8) (f : Fd) : Prop := FdOk f ∧ textL f = l
/-- An answer's two parts. -/
def isAnswer (l : List UInt8) (v : Value) : Prop := (∃ f, IsText l f ∧ v = .tuple #[fdV (f.v : Int) f.k f.c, .int .i64 0]) ∨ ((∀ f, ¬ IsText l f) ∧ v = .tuple #[fdV 0 0 0, .int .i64 3])
theorem three {w : World} {B g : Nat} {x y z : Value} (h : Blk w B 25 g [x, y, z]) (u0 u1 u2 : Value) : Blk (((w.setCell ⟨g, 0, none⟩ u0).setCell ⟨g, 1, none⟩ u1).setCell ⟨g, 2, none⟩ u2) B 25 g [u0, u1, u2] := ((h.stored 0 u0).stored 1 u1).stored 2 u2
theorem three_below {w w' : World} {B g : Nat} (h : Below B w w') (hg : B ≤ g) (u0 u1 u2 : Value) : Below B w (((w'.setCell ⟨g, 0, none⟩ u0).setCell ⟨g, 1, none⟩ u1).setCell ⟨g, 2, none⟩ u2) := ((h.setCell (p := ⟨g, 0, none⟩) hg u0).setCell (p := ⟨g, 1, none⟩) hg u1).setCell (p := ⟨g, 2, none⟩) hg u2
set_option maxRecDepth 100000 in
set_option maxHeartbeats 3200000 in
theorem parse_any (l : List UInt8) (w : World) (hl : l.length < 1099511627776) :
    Calls Try.prog 10 #[.string (mkS l)] w fun e w' => (∃ v, e = .returned v ∧ isAnswer l v) ∧ Below w.heap.size w w' := by
  have l1 : (cutZ l).length < 1099511627776 := Nat.lt_of_le_of_lt (cutZ_le l) hl
  have HN1 := hide (fun W => number_any (cutA l) 10 W (Nat.lt_of_le_of_lt (cutA_le l) hl))
  have HN2 := hide (fun W => number_any (cutA (cutZ l)) 16 W (Nat.lt_of_le_of_lt (cutA_le _) l1))
  have HN3 := hide (fun W => number_any (cutZ (cutZ l)) 16 W (Nat.lt_of_le_of_lt (cutZ_le _) l1))
  have HC1 := hide (fun W => cut_any l W hl)
  have HC2 := hide (fun W => cut_any (cutZ l) W l1)
  obtain ⟨v0, hv0⟩ : ∃ v0, v0 = rdV l := ⟨_, rfl⟩
  obtain ⟨k0, hk0⟩ : ∃ k0, k0 = rdK l := ⟨_, rfl⟩
  obtain ⟨c0, hc0⟩ : ∃ c0, c0 = rdC l := ⟨_, rfl⟩
  have hw1 : IntKind.i64.wrap ((numW 10 (cutA l) : Nat) : Int) = v0 := by rw [hv0]; rfl
  have hw3 : ((numW 16 (cutZ (cutZ l)) : Nat) : Int) % 4294967296 = (c0 : Int) := by rw [hc0]; unfold rdC; omega
  obtain ⟨n1, hn1⟩ : ∃ n1, n1 = numW 10 (cutA l) := ⟨_, rfl⟩
  obtain ⟨n3, hn3⟩ : ∃ n3, n3 = numW 16 (cutZ (cutZ l)) := ⟨_, rfl⟩
  rw [show numW 16 (cutA (cutZ l)) = k0 from hk0.symm] at HN2
  rw [← hn1] at hw1 HN1
  rw [← hn3] at hw3 HN3
  have hkl : k0 < 18446744073709551616 := by rw [hk0]; exact numW_lt _ _
  have hcl : c0 < 4294967296 := by rw [hc0]; exact Nat.mod_lt _ (by omega)
  have HR := hide (And.intro hv0 (And.intro hk0 hc0))
  clear hv0 hk0 hc0 hn1 hn3 l1
  obtain ⟨s, hs⟩ : ∃ s, s = mkS l := ⟨_, rfl⟩
  obtain ⟨s1, hs1⟩ : ∃ s1, s1 = mkS (cutA l) := ⟨_, rfl⟩
  obtain ⟨s2, hs2⟩ : ∃ s2, s2 = mkS (cutZ l) := ⟨_, rfl⟩
  obtain ⟨s3, hs3⟩ : ∃ s3, s3 = mkS (cutA (cutZ l)) := ⟨_, rfl⟩
  obtain ⟨s4, hs4⟩ : ∃ s4, s4 = mkS (cutZ (cutZ l)) := ⟨_, rfl⟩
  rw [← hs, ← hs1, ← hs2] at HC1
  rw [← hs2, ← hs3, ← hs4] at HC2
  rw [← hs1] at HN1
  rw [← hs3] at HN2
  rw [← hs4] at HN3
  rw [← hs]
  have HS := hide hs
  clear hs hs1 hs2 hs3 hs4
  have hT : (v0 < 1 ∨ 99999999 < v0 ∨ k0 = 0) ∨ (∃ f : Fd, FdOk f ∧ v0 = (f.v : Int) ∧ k0 = f.k ∧ c0 = f.c) := by
    by_cases h1 : v0 < 1
    · exact .inl (.inl h1)
    · by_cases h2 : 99999999 < v0
      · exact .inl (.inr (.inl h2))
      · by_cases h3 : k0 = 0
        · exact .inl (.inr (.inr h3))
        · exact .inr ⟨⟨v0.toNat, k0, c0⟩, ⟨by simp only; omega, by simp only; omega, by simp only; omega, hkl, hcl⟩, by simp only; omega, rfl, rfl⟩
  have HT := hide hT
  clear hT hkl hcl hl
  go_enter Try.func10, Try.ntmps10
  go_wp2_with fail
  have ka := below_alloc w (.cells #[.int .i64 0, .int .u64 0, .int .u32 0] 25)
  have b0 : Blk (w.alloc (.cells #[.int .i64 0, .int .u64 0, .int .u32 0] 25)) 0 25 w.heap.size [.int .i64 0, .int .u64 0, .int .u32 0] := Blk.new w 25 #[.int .i64 0, .int .u64 0, .int .u32 0] (Nat.zero_le _)
  obtain ⟨g, hg⟩ : ∃ g, g = w.heap.size := ⟨_, rfl⟩
  rw [← hg] at b0 ⊢
  obtain ⟨W, hW⟩ : ∃ W, W = w.alloc (.cells #[.int .i64 0, .int .u64 0, .int .u32 0] 25) := ⟨_, rfl⟩
  rw [← hW] at ka b0 ⊢
  have HG := hide hg
  have B0 := hide b0
  have KA := hide ka
  clear hg hW b0 ka
  refine (HC1.out _).mono ?_
  rintro e w1 ⟨⟨t1, rfl⟩, d1, rfl⟩
  go_wp2_with fail
  refine (HC2.out _).mono ?_
  rintro e w1 ⟨⟨t2, rfl⟩, d2, rfl⟩
  have B1 := hide ((B0.out.drewN d1).drewN d2)
  have K1 := hide (below_drewN (below_drewN KA.out d1) d2)
  generalize (W.drewN d1).drewN d2 = W1 at B1 K1 ⊢
  go_wp2_with fail
  refine (HN1.out _).mono ?_
  rintro e w2 ⟨rfl, k2⟩
  have B2 := hide (B1.out.keep k2)
  have K2 := hide (below_step K1.out k2)
  clear k2 B1 K1 B0 KA
  go_wp2_with fail
  refine (HN2.out _).mono ?_
  rintro e w3 ⟨rfl, k3⟩
  have B3 := hide (B2.out.keep k3)
  have K3 := hide (below_step K2.out k3)
  clear k3 B2 K2
  go_wp2_with fail
  refine (HN3.out _).mono ?_
  rintro e w4 ⟨rfl, k4⟩
  have B4 := hide (B3.out.keep k4)
  have K4 := hide (below_step K3.out k4)
  clear k4 B3 K3
  go_wp2_with fail
  have k5 := below_alloc w4 (.cells #[.int .i64 v0, .int .u64 (k0 : Int), .int .u32 (c0 : Int)] 25)
  have F5 : Blk (w4.alloc (.cells #[.int .i64 v0, .int .u64 (k0 : Int), .int .u32 (c0 : Int)] 25)) 0 25 w4.heap.size [.int .i64 v0, .int .u64 (k0 : Int), .int .u32 (c0 : Int)] := Blk.new w4 25 #[.int .i64 v0, .int .u64 (k0 : Int), .int .u32 (c0 : Int)] (Nat.zero_le _)
  have B5 := hide (B4.out.keep k5)
  have K6 := hide (below_step K4.out k5)
  have hne := hide (show ¬ g = w4.heap.size by have := B4.out.lt; omega)
  clear k5
  obtain ⟨h, hh⟩ : ∃ h, h = w4.heap.size := ⟨_, rfl⟩
  rw [← hh] at F5 hne ⊢
  obtain ⟨W5, hW5⟩ : ∃ W, W = w4.alloc (.cells #[.int .i64 v0, .int .u64 (k0 : Int), .int .u32 (c0 : Int)] 25) := ⟨_, rfl⟩
  rw [← hW5] at F5 B5 K6 ⊢
  clear hW5 hh B4 K4
  rcases HT.out with hb | ⟨f, hf, rfl, rfl, rfl⟩
  · refine (text_bad v0 k0 c0 W5 hb).mono ?_
    have HB := hide hb
    clear hb
    rintro e w6 ⟨rfl, k6⟩
    have KK := hide (below_step K6.out k6)
    have B6 := hide (B5.out.keep k6)
    clear k6
    have a0 := B6.out.cell 0
    have a1 := B6.out.cell 1
    have a2 := B6.out.cell 2
    have g0 := B6.out.frozen 0
    have g1 := B6.out.frozen 1
    have g2 := B6.out.frozen 2
    dsimp only [List.getElem?_cons_succ, List.getElem?_cons_zero] at a0 a1 a2
    go_wp2_with fail
    have q := three B6.out (.int .i64 0) (.int .u64 0) (.int .u32 0)
    have kq := three_below KK.out (Nat.le_of_eq HG.out.symm) (.int .i64 0) (.int .u64 0) (.int .u32 0)
    generalize ((w6.setCell ⟨g, 0, none⟩ (.int .i64 0)).setCell ⟨g, 1, none⟩ (.int .u64 0)).setCell ⟨g, 2, none⟩ (.int .u32 0) = X at q kq ⊢
    have q0 := q.cell 0
    have q1 := q.cell 1
    have q2 := q.cell 2
    dsimp only [List.getElem?_cons_succ, List.getElem?_cons_zero] at q0 q1 q2
    refine bodyPost_ret (v := .tuple #[.agg #[.int .i64 0, .int .u64 0, .int .u32 0], .int .i64 3]) (by simp [results, Try.results10, go_sem, q0, q1, q2]) rfl ⟨⟨_, rfl, .inr ⟨?_, rfl⟩⟩, kq⟩
    rintro f ⟨hf1, hf2⟩
    obtain ⟨e1, e2, e3⟩ := HR.out
    obtain ⟨r1, r2, r3⟩ := rd_text hf1
    rw [hf2] at r1 r2 r3
    obtain ⟨z1, z2, z3, _, _⟩ := hf1
    rcases HB.out with hb | hb | hb
    · rw [e1, r1] at hb; omega
    · rw [e1, r1] at hb; omega
    · rw [e2, r2] at hb; omega
  · have HF := hide hf
    refine (text_ok f W5 hf).mono ?_
    clear hf
    obtain ⟨t, ht⟩ : ∃ t, t = mkS (textL f) := ⟨_, rfl⟩
    rw [← ht]
    rintro e w6 ⟨rfl, k6⟩
    by_cases hE : textL f = l
    · have hts : t = s := by rw [ht, HS.out, hE]
      have HE := hide hE
      have HTS := hide hts
      clear hE ht
      have F6 := hide (F5.keep k6)
      have KK := hide (below_step K6.out k6)
      have B6 := hide (B5.out.keep k6)
      clear k6
      have a0 := B6.out.cell 0
      have a1 := B6.out.cell 1
      have a2 := B6.out.cell 2
      have g0 := B6.out.frozen 0
      have g1 := B6.out.frozen 1
      have g2 := B6.out.frozen 2
      have f0 := F6.out.cell 0
      have f1 := F6.out.cell 1
      have f2 := F6.out.cell 2
      dsimp only [List.getElem?_cons_succ, List.getElem?_cons_zero] at a0 a1 a2 f0 f1 f2
      rw [hts]
      have hss : (s.toList == s.toList) = true := by simp
      clear hts
      go_wp2_with fail
      have q := three B6.out (.int .i64 (f.v : Int)) (.int .u64 (f.k : Int)) (.int .u32 (f.c : Int))
      have kq := three_below KK.out (Nat.le_of_eq HG.out.symm) (.int .i64 (f.v : Int)) (.int .u64 (f.k : Int)) (.int .u32 (f.c : Int))
      generalize ((w6.setCell ⟨g, 0, none⟩ (.int .i64 (f.v : Int))).setCell ⟨g, 1, none⟩ (.int .u64 (f.k : Int))).setCell ⟨g, 2, none⟩ (.int .u32 (f.c : Int)) = X at q kq ⊢
      have q0 := q.cell 0
      have q1 := q.cell 1
      have q2 := q.cell 2
      dsimp only [List.getElem?_cons_succ, List.getElem?_cons_zero] at q0 q1 q2
      refine bodyPost_ret (v := .tuple #[.agg #[.int .i64 (f.v : Int), .int .u64 (f.k : Int), .int .u32 (f.c : Int)], .int .i64 0]) (by simp [results, Try.results10, go_sem, q0, q1, q2]) rfl ⟨⟨_, rfl, .inl ⟨f, ⟨HF.out, HE.out⟩, rfl⟩⟩, kq⟩
    · have hne2 : (t.toList == s.toList) = false := by
        rw [beq_eq_false_iff_ne]
        intro h
        rw [ByteArray.toList_eq, ByteArray.toList_eq, ht, HS.out, mkS_data, mkS_data] at h
        exact hE h
      have HE := hide hE
      clear hE ht
      have KK := hide (below_step K6.out k6)
      have B6 := hide (B5.out.keep k6)
      clear k6
      have a0 := B6.out.cell 0
      have a1 := B6.out.cell 1
      have a2 := B6.out.cell 2
      have g0 := B6.out.frozen 0
      have g1 := B6.out.frozen 1
      have g2 := B6.out.frozen 2
      dsimp only [List.getElem?_cons_succ, List.getElem?_cons_zero] at a0 a1 a2
      go_wp2_with fail
      have q := three B6.out (.int .i64 0) (.int .u64 0) (.int .u32 0)
      have kq := three_below KK.out (Nat.le_of_eq HG.out.symm) (.int .i64 0) (.int .u64 0) (.int .u32 0)
      generalize ((w6.setCell ⟨g, 0, none⟩ (.int .i64 0)).setCell ⟨g, 1, none⟩ (.int .u64 0)).setCell ⟨g, 2, none⟩ (.int .u32 0) = X at q kq ⊢
      have q0 := q.cell 0
      have q1 := q.cell 1
      have q2 := q.cell 2
      dsimp only [List.getElem?_cons_succ, List.getElem?_cons_zero] at q0 q1 q2
      refine bodyPost_ret (v := .tuple #[.agg #[.int .i64 0, .int .u64 0, .int .u32 0], .int .i64 3]) (by simp [results, Try.results10, go_sem, q0, q1, q2]) rfl ⟨⟨_, rfl, .inr ⟨?_, rfl⟩⟩, kq⟩
      rintro f2 ⟨hf1, hf2⟩
      obtain ⟨e1, e2, e3⟩ := HR.out
      obtain ⟨r1, r2, r3⟩ := rd_text hf1
      rw [hf2] at r1 r2 r3
      have : f2 = f := by
        obtain ⟨v, k, c⟩ := f
        obtain ⟨v2, k2, c2⟩ := f2
        simp only [Fd.mk.injEq]
        simp only at e1 e2 e3 r1 r2 r3
        refine ⟨?_, ?_, ?_⟩ <;> omega
      rw [this] at hf2
      exact HE.out hf2
end Go.Proofs.Ytdchgjniepdhfaa
