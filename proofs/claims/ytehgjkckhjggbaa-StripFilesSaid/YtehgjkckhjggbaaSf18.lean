/- The contract of strip.Read, behind its form: the head's sum, the numbers, the rows. Condition: at most 900000 bytes. The contract of strip.Read: a file whose head is right: the rows. Condition: at most 900000 bytes. The contract of strip.Read, all ways joined. Condition: at most 900000 bytes. The document's own Read of a shard's file: too short, or of another form. -/
import Derived.Test.YtehgjkckhjggbaaSf17
import Derived.Test.YtehgjkckhjggbaaSf12
import Derived.Test.YtehgjkckhjggbaaSf16
import Derived.Test.YtehgjkckhjggbaaSf15
import Derived.Test.YtehgjkckhjggbaaSf3
import Derived.Test.YtehgjkckhjggbaaSf8
namespace Go.Proofs.Ytehgjkckhjggbaa
open Go.RowKit
attribute [local go_sem] Oper.semAt_some
theorem takes {b : List Nat} : (b.take 20).drop 16 = (b.drop 16).take 4 ∧ (b.take 20).take 16 = b.take 16 := ⟨by rw [List.drop_take], by rw [List.take_take]; rfl⟩
theorem val_at {b : List Nat} {k : Nat} (hk : k ≤ 12) : val32 ((b.take 16).drop k) = val32 (b.drop k) := by
  rw [List.drop_take]
  exact val32_takeM (by omega)
set_option maxRecDepth 100000 in
theorem read_sum (ab ao n c N : Nat) (b : List Nat) (w : World) (hA : IsB w (.slice (some ⟨ab, ao, none⟩) n c) b) (hn : b.length = n) (hb : ∀ x ∈ b, x < 256) (h9 : n ≤ 900000) (hN : n = 20 + N * 20) (hN1 : 1 ≤ N) (hv : val32 b = 1735590144) (hs : ¬ val32 (b.drop 16) = sumS (b.take 16)) :
    Calls Try.prog 36 #[.slice (some ⟨ab, ao, none⟩) n c] w fun e w' => ReadAns w b e w' := by
  have hr : readS b = (4, 0, 0, 0, []) := by
    unfold readS
    rw [if_neg (by omega), if_neg (by rintro (h | h | h) <;> omega), if_pos hs]
  have HR := hide hr
  have hnc := isB_len hA
  have b1 := Blk.new w (B := w.heap.size) 42 #[.slice none 0 0] (Nat.le_refl _)
  have k1 := below_alloc w (.cells #[.slice none 0 0] 42)
  have HV := number_any (some ⟨ab, ao, none⟩) n c b _ (hA.keep k1) hb (by omega)
  rw [hv] at HV
  have HV := hide HV
  have hb20 : ∀ x ∈ b.take 20, x < 256 := fun x hx => hb x (List.mem_of_mem_take hx)
  have SM := hide (fun (W : World) (h : IsB W (.slice (some ⟨ab, ao, none⟩) 20 c) (b.take 20)) => summed_any ab ao c (b.take 20) W h hb20)
  have e16 : decide (val32 ((b.take 20).drop 16) = sumS ((b.take 20).take 16)) = false := by
    rw [takes.1, takes.2, val32_takeM (by omega)]
    exact decide_eq_false hs
  rw [e16] at SM
  have HK1 := hide k1
  have HB1 := hide b1
  have hz20 : ¬ (n : Int) < 20 := by omega
  have hcz : (20 : Int) ≤ (n : Int) := by omega
  have hcz2 : (20 : Int) ≤ (c : Int) := by omega
  have hc20 : ¬ c = 20 := by omega
  have hc21 : ¬ 20 = c := by omega
  obtain ⟨m, hm⟩ : ∃ m, m = n - 20 := ⟨_, rfl⟩
  have hm1 : ((m : Int) == 0) = false := by simp; omega
  have hmz : (n : Int) - 20 = (m : Int) := by omega
  have hqz : (m : Int) % 20 = 0 := by omega
  have hmm : n - 20 = m := hm.symm
  have hm9 : m ≤ 900000 := by omega
  have HMN : Hid (m = N * 20) := hide (by omega)
  have HN1 := hide hN1
  have hnc1 := hnc.2
  have HI := hide hA
  have HN := hide hn
  have HB := hide hb
  clear hA hn hb hr hv hs hnc k1 b1 hm hN hN1 hb20 e16
  go_enter Try.func36, Try.ntmps36
  go_wp2_with fail
  refine HV.out.mono ?_
  rintro e w1 ⟨rfl, d, rfl⟩
  have KD := hide (below_drewN HK1.out d)
  have BD := hide (HB1.out.drewN d)
  generalize (w.alloc (.cells #[.slice none 0 0] 42)).drewN d = W1 at *
  have q0 := BD.out.cell 0
  have f0 := BD.out.frozen 0
  dsimp only [Array.toList, List.getElem?_cons_zero] at q0
  go_wp2_with fail
  refine (SM.out W1 ((HI.out.keep KD.out).take 20 (by omega))).mono ?_
  rintro e w2 ⟨A2, n2, c2, rfl, i2, l2, d2, rfl⟩
  have KE := hide (below_drewN KD.out d2)
  have BE := hide (BD.out.drewN d2)
  have I2 := hide i2
  have L2 := hide l2
  clear i2 l2 q0 f0
  generalize W1.drewN d2 = W2 at *
  have q0 := BE.out.cell 0
  have f0 := BE.out.frozen 0
  dsimp only [Array.toList, List.getElem?_cons_zero] at q0
  clear KD BD
  go_wp2_with fail
  have b3 := BE.out.stored 0 (.slice none 0 0)
  have k3 := KE.out.setCell (p := ⟨w.heap.size, 0, none⟩) (Nat.le_refl _) (.slice none 0 0)
  generalize W2.setCell ⟨w.heap.size, 0, none⟩ (.slice none 0 0) = W9 at *
  clear q0 f0
  have q0 := b3.cell 0
  dsimp only [Array.toList, List.set_cons_zero, List.getElem?_cons_zero] at q0
  refine bodyPost_ret (v := .tuple #[.int .i64 0, .int .i64 0, .int .i64 0, .slice none 0 0, .int .i64 4]) (by simp [results, Try.results36, go_sem, q0]) rfl (readAns_err HR.out k3)
set_option maxRecDepth 100000 in
set_option maxHeartbeats 1600000 in
theorem read_head (ab ao n c N : Nat) (b : List Nat) (w : World) (hA : IsB w (.slice (some ⟨ab, ao, none⟩) n c) b) (hn : b.length = n) (hb : ∀ x ∈ b, x < 256) (h9 : n ≤ 900000) (hN : n = 20 + N * 20) (hN1 : 1 ≤ N) (hv : val32 b = 1735590144) (hs : val32 (b.drop 16) = sumS (b.take 16)) (hk : ¬ okHead (val32 (b.drop 4)) (val32 (b.drop 8)) (val32 (b.drop 12))) :
    Calls Try.prog 36 #[.slice (some ⟨ab, ao, none⟩) n c] w fun e w' => ReadAns w b e w' := by
  have hr : readS b = (1, 0, 0, 0, []) := by
    unfold readS
    rw [if_neg (by omega), if_neg (by rintro (h | h | h) <;> omega), if_neg (by simpa using hs), if_pos hk]
  have b16 : ∀ x ∈ b.take 16, x < 256 := fun x hx => hb x (List.mem_of_mem_take hx)
  have NB := hide (fun (hb_ ho c' k : Nat) (W : World) (h : IsB W (.slice (some ⟨hb_, ho, none⟩) 16 c') (b.take 16)) (hk : k ≤ 12) (_ : 16 ≤ c') (_ : c' ≤ 9223372036854775807) => number_any (some ⟨hb_, ho + k, none⟩) (16 - k) (c' - k) ((b.take 16).drop k) W (by
    have h8 := isB_subc h k (16 - k) (c' - k) (by omega) (by omega) (by omega)
    rwa [List.take_of_length_le (by rw [List.length_drop, List.length_take]; omega)] at h8) (fun x hx => b16 x (List.mem_of_mem_drop hx)) (by omega))
  have v4 := val_at (b := b) (k := 4) (by omega)
  have v8 := val_at (b := b) (k := 8) (by omega)
  have v12 := val_at (b := b) (k := 12) (by omega)
  obtain ⟨x4, hx4⟩ : ∃ x, x = val32 (b.drop 4) := ⟨_, rfl⟩
  obtain ⟨x8, hx8⟩ : ∃ x, x = val32 (b.drop 8) := ⟨_, rfl⟩
  obtain ⟨x12, hx12⟩ : ∃ x, x = val32 (b.drop 12) := ⟨_, rfl⟩
  rw [← hx4] at v4 hk
  rw [← hx8] at v8 hk
  rw [← hx12] at v12 hk
  have RW := hide (show rowR (b.take 20) = b.take 16 by unfold rowR; rw [takes.1, takes.2, val32_takeM (by omega), if_pos hs])
  have V4 := hide v4
  have V8 := hide v8
  have V12 := hide v12
  have HH := hide (fun W => ishead_any (x4 : Int) (x8 : Int) (x12 : Int) W)
  rw [decide_eq_false hk] at HH
  have HR := hide hr
  have hnc := isB_len hA
  have b1 := Blk.new w (B := w.heap.size) 42 #[.slice none 0 0] (Nat.le_refl _)
  have k1 := below_alloc w (.cells #[.slice none 0 0] 42)
  have HV := number_any (some ⟨ab, ao, none⟩) n c b _ (hA.keep k1) hb (by omega)
  rw [hv] at HV
  have HV := hide HV
  have hb20 : ∀ x ∈ b.take 20, x < 256 := fun x hx => hb x (List.mem_of_mem_take hx)
  have SM := hide (fun (W : World) (h : IsB W (.slice (some ⟨ab, ao, none⟩) 20 c) (b.take 20)) => summed_any ab ao c (b.take 20) W h hb20)
  have e16 : decide (val32 ((b.take 20).drop 16) = sumS ((b.take 20).take 16)) = true := by
    rw [takes.1, takes.2, val32_takeM (by omega)]
    exact decide_eq_true hs
  rw [e16] at SM
  have HK1 := hide k1
  have HB1 := hide b1
  have hz20 : ¬ (n : Int) < 20 := by omega
  have hcz : (20 : Int) ≤ (n : Int) := by omega
  have hcz2 : (20 : Int) ≤ (c : Int) := by omega
  have hc20 : ¬ c = 20 := by omega
  have hc21 : ¬ 20 = c := by omega
  obtain ⟨m, hm⟩ : ∃ m, m = n - 20 := ⟨_, rfl⟩
  have hm1 : ((m : Int) == 0) = false := by simp; omega
  have hmz : (n : Int) - 20 = (m : Int) := by omega
  have hqz : (m : Int) % 20 = 0 := by omega
  have hmm : n - 20 = m := hm.symm
  have hm9 : m ≤ 900000 := by omega
  have HMN : Hid (m = N * 20) := hide (by omega)
  have HN1 := hide hN1
  have hnc1 := hnc.2
  have HI := hide hA
  have HN := hide hn
  have HB := hide hb
  clear hA hn hb hr hv hs hnc k1 b1 hm hN hN1 hb20 e16
  clear v4 v8 v12 hx4 hx8 hx12 hk b16
  go_enter Try.func36, Try.ntmps36
  go_wp2_with fail
  refine HV.out.mono ?_
  rintro e w1 ⟨rfl, d, rfl⟩
  have KD := hide (below_drewN HK1.out d)
  have BD := hide (HB1.out.drewN d)
  generalize (w.alloc (.cells #[.slice none 0 0] 42)).drewN d = W1 at *
  have q0 := BD.out.cell 0
  have f0 := BD.out.frozen 0
  dsimp only [Array.toList, List.getElem?_cons_zero] at q0
  go_wp2_with fail
  refine (SM.out W1 ((HI.out.keep KD.out).take 20 (by omega))).mono ?_
  rintro e w2 ⟨A2, n2, c2, rfl, i2, l2, d2, rfl⟩
  have KE := hide (below_drewN KD.out d2)
  have BE := hide (BD.out.drewN d2)
  have I2 := hide i2
  have L2 := hide l2
  clear i2 l2 q0 f0
  generalize W1.drewN d2 = W2 at *
  have q0 := BE.out.cell 0
  have f0 := BE.out.frozen 0
  dsimp only [Array.toList, List.getElem?_cons_zero] at q0
  clear KD BD
  have i2 := I2.out
  have l2 := L2.out
  rw [RW.out] at i2 l2
  have l16 : n2 = 16 := by rw [← l2, List.length_take, HN.out]; omega
  subst l16
  obtain ⟨hb_, ho, rfl⟩ := isB_at i2 (by omega)
  have hcc := (isB_len i2).2
  have I2 := hide i2
  have hy1 : (4 : Int) ≤ 16 := by omega
  have hy2 : (8 : Int) ≤ 16 := by omega
  have hy3 : (12 : Int) ≤ 16 := by omega
  have hy4 : ¬ c2 = 4 := by omega
  have hy5 : ¬ c2 = 8 := by omega
  have hy6 : ¬ c2 = 12 := by omega
  have hy7 : ¬ 4 = c2 := by omega
  have hy8 : ¬ 8 = c2 := by omega
  have hy9 : ¬ 12 = c2 := by omega
  have c4 := fun W (h : IsB W (.slice (some ⟨hb_, ho, none⟩) 16 c2) (b.take 16)) => NB.out hb_ ho c2 4 W h (by omega) hcc.1 hcc.2
  have c8 := fun W (h : IsB W (.slice (some ⟨hb_, ho, none⟩) 16 c2) (b.take 16)) => NB.out hb_ ho c2 8 W h (by omega) hcc.1 hcc.2
  have c12 := fun W (h : IsB W (.slice (some ⟨hb_, ho, none⟩) 16 c2) (b.take 16)) => NB.out hb_ ho c2 12 W h (by omega) hcc.1 hcc.2
  rw [V4.out] at c4
  rw [V8.out] at c8
  rw [V12.out] at c12
  obtain ⟨p4, hp4⟩ : ∃ p, ho + 4 = p := ⟨_, rfl⟩
  obtain ⟨p8, hp8⟩ : ∃ p, ho + 8 = p := ⟨_, rfl⟩
  obtain ⟨p12, hp12⟩ : ∃ p, ho + 12 = p := ⟨_, rfl⟩
  obtain ⟨k4, hk4⟩ : ∃ p, c2 - 4 = p := ⟨_, rfl⟩
  obtain ⟨k8, hk8⟩ : ∃ p, c2 - 8 = p := ⟨_, rfl⟩
  obtain ⟨k12, hk12⟩ : ∃ p, c2 - 12 = p := ⟨_, rfl⟩
  rw [hp4, hk4, show 16 - 4 = 12 from rfl] at c4
  rw [hp8, hk8, show 16 - 8 = 8 from rfl] at c8
  rw [hp12, hk12, show 16 - 12 = 4 from rfl] at c12
  have C4 := hide c4
  have C8 := hide c8
  have C12 := hide c12
  clear i2 l2 c4 c8 c12
  go_wp2_with fail
  refine wp_region_quiet_lit (by kernel_rfl) (by kernel_rfl) ?_
  repeat (quiet_step (fail))
  refine wpQuiet_step (fun K hK => ?_)
  go_simp
  apply Exists.intro
  refine ⟨fun _ => ?_, hK _ ?_⟩
  · go_at_call 76
    refine Calls.quiet_of (v := .int .i64 (x4 : Int)) ?_
    refine (C4.out _ (I2.out.drewN _)).mono ?_
    rintro e w' ⟨rfl, d, rfl⟩
    exact ⟨rfl, d, rfl⟩
  clear hK K
  repeat (quiet_step (fail))
  refine wpQuiet_step (fun K hK => ?_)
  go_simp
  apply Exists.intro
  refine ⟨fun _ => ?_, hK _ ?_⟩
  · go_at_call 76
    refine Calls.quiet_of (v := .int .i64 (x8 : Int)) ?_
    refine (C8.out _ (I2.out.drewN _)).mono ?_
    rintro e w' ⟨rfl, d, rfl⟩
    exact ⟨rfl, d, rfl⟩
  clear hK K
  repeat (quiet_step (fail))
  refine wpQuiet_step (fun K hK => ?_)
  go_simp
  apply Exists.intro
  refine ⟨fun _ => ?_, hK _ ?_⟩
  · go_at_call 76
    refine Calls.quiet_of (v := .int .i64 (x12 : Int)) ?_
    refine (C12.out _ (I2.out.drewN _)).mono ?_
    rintro e w' ⟨rfl, d, rfl⟩
    exact ⟨rfl, d, rfl⟩
  clear hK K
  repeat (quiet_step (fail))
  refine wpQuiet_nil ?_
  intro _ hw'
  obtain ⟨nq, hw''⟩ := hw'
  subst hw''
  have KF := hide (below_drewN KE.out nq)
  have BF := hide (BE.out.drewN nq)
  clear q0 f0 I2 C4 C8 C12 KE BE
  generalize W2.drewN nq = W3 at *
  have q0 := BF.out.cell 0
  have f0 := BF.out.frozen 0
  dsimp only [Array.toList, List.getElem?_cons_zero] at q0
  go_wp2_with fail
  refine (HH.out _).mono ?_
  rintro e w3 ⟨rfl, rfl⟩
  go_wp2_with fail
  have b3 := BF.out.stored 0 (.slice none 0 0)
  have k3 := KF.out.setCell (p := ⟨w.heap.size, 0, none⟩) (Nat.le_refl _) (.slice none 0 0)
  generalize W3.setCell ⟨w.heap.size, 0, none⟩ (.slice none 0 0) = W9 at *
  clear q0 f0
  have q0 := b3.cell 0
  dsimp only [Array.toList, List.set_cons_zero, List.getElem?_cons_zero] at q0
  refine bodyPost_ret (v := .tuple #[.int .i64 0, .int .i64 0, .int .i64 0, .slice none 0 0, .int .i64 1]) (by simp [results, Try.results36, go_sem, q0]) rfl (readAns_err HR.out k3)
end Go.Proofs.Ytehgjkckhjggbaa
namespace Go.Proofs.Ytehgjkckhjggbaa
open Go.RowKit
attribute [local go_sem] Oper.semAt_some
theorem readAns_ok {w w' : World} {b : List Nat} {a4 a8 a12 : Nat} {rows : List (List Nat)} {v : Value} (h : readS b = (0, a4, a8, a12, rows)) (ho : OwnMt w' w.heap.size v rows) (hk : Below w.heap.size w w') :
    ReadAns w b (.returned (.tuple #[.int .i64 (a4 : Int), .int .i64 (a8 : Int), .int .i64 (a12 : Int), v, .int .i64 0])) w' := by
  unfold ReadAns
  rw [h]
  exact ⟨_, rfl, ho, hk⟩
set_option maxRecDepth 100000 in
set_option maxHeartbeats 3200000 in
theorem read_ok (ab ao n c N : Nat) (b : List Nat) (w : World) (hA : IsB w (.slice (some ⟨ab, ao, none⟩) n c) b) (hn : b.length = n) (hb : ∀ x ∈ b, x < 256) (h9 : n ≤ 900000) (hN : n = 20 + N * 20) (hN1 : 1 ≤ N) (hv : val32 b = 1735590144) (hs : val32 (b.drop 16) = sumS (b.take 16)) (hk : okHead (val32 (b.drop 4)) (val32 (b.drop 8)) (val32 (b.drop 12))) :
    Calls Try.prog 36 #[.slice (some ⟨ab, ao, none⟩) n c] w fun e w' => ReadAns w b e w' := by
  have hr : readS b = (0, val32 (b.drop 4), val32 (b.drop 8), val32 (b.drop 12), rowsR b N) := by
    unfold readS
    rw [if_neg (by omega), if_neg (by rintro (h | h | h) <;> omega), if_neg (by simpa using hs), if_neg (by simpa using hk), show (b.length - 20) / 20 = N by omega]
  have b16 : ∀ x ∈ b.take 16, x < 256 := fun x hx => hb x (List.mem_of_mem_take hx)
  have NB := hide (fun (hb_ ho c' k : Nat) (W : World) (h : IsB W (.slice (some ⟨hb_, ho, none⟩) 16 c') (b.take 16)) (hk : k ≤ 12) (_ : 16 ≤ c') (_ : c' ≤ 9223372036854775807) => number_any (some ⟨hb_, ho + k, none⟩) (16 - k) (c' - k) ((b.take 16).drop k) W (by
    have h8 := isB_subc h k (16 - k) (c' - k) (by omega) (by omega) (by omega)
    rwa [List.take_of_length_le (by rw [List.length_drop, List.length_take]; omega)] at h8) (fun x hx => b16 x (List.mem_of_mem_drop hx)) (by omega))
  have v4 := val_at (b := b) (k := 4) (by omega)
  have v8 := val_at (b := b) (k := 8) (by omega)
  have v12 := val_at (b := b) (k := 12) (by omega)
  obtain ⟨x4, hx4⟩ : ∃ x, x = val32 (b.drop 4) := ⟨_, rfl⟩
  obtain ⟨x8, hx8⟩ : ∃ x, x = val32 (b.drop 8) := ⟨_, rfl⟩
  obtain ⟨x12, hx12⟩ : ∃ x, x = val32 (b.drop 12) := ⟨_, rfl⟩
  rw [← hx4] at v4 hr hk
  rw [← hx8] at v8 hr hk
  rw [← hx12] at v12 hr hk
  have RW := hide (show rowR (b.take 20) = b.take 16 by unfold rowR; rw [takes.1, takes.2, val32_takeM (by omega), if_pos hs])
  have V4 := hide v4
  have V8 := hide v8
  have V12 := hide v12
  have HH := hide (fun W => ishead_any (x4 : Int) (x8 : Int) (x12 : Int) W)
  rw [decide_eq_true hk] at HH
  have HR := hide hr
  have hnc := isB_len hA
  have b1 := Blk.new w (B := w.heap.size) 42 #[.slice none 0 0] (Nat.le_refl _)
  have k1 := below_alloc w (.cells #[.slice none 0 0] 42)
  have HV := number_any (some ⟨ab, ao, none⟩) n c b _ (hA.keep k1) hb (by omega)
  rw [hv] at HV
  have HV := hide HV
  have hb20 : ∀ x ∈ b.take 20, x < 256 := fun x hx => hb x (List.mem_of_mem_take hx)
  have SM := hide (fun (W : World) (h : IsB W (.slice (some ⟨ab, ao, none⟩) 20 c) (b.take 20)) => summed_any ab ao c (b.take 20) W h hb20)
  have e16 : decide (val32 ((b.take 20).drop 16) = sumS ((b.take 20).take 16)) = true := by
    rw [takes.1, takes.2, val32_takeM (by omega)]
    exact decide_eq_true hs
  rw [e16] at SM
  have HK1 := hide k1
  have HB1 := hide b1
  have hz20 : ¬ (n : Int) < 20 := by omega
  have hcz : (20 : Int) ≤ (n : Int) := by omega
  have hcz2 : (20 : Int) ≤ (c : Int) := by omega
  have hc20 : ¬ c = 20 := by omega
  have hc21 : ¬ 20 = c := by omega
  obtain ⟨m, hm⟩ : ∃ m, m = n - 20 := ⟨_, rfl⟩
  have hm1 : ((m : Int) == 0) = false := by simp; omega
  have hmz : (n : Int) - 20 = (m : Int) := by omega
  have hqz : (m : Int) % 20 = 0 := by omega
  have hmm : n - 20 = m := hm.symm
  have hm9 : m ≤ 900000 := by omega
  have HMN : Hid (m = N * 20) := hide (by omega)
  have HN1 := hide hN1
  have hnc1 := hnc.2
  have HI := hide hA
  have HN := hide hn
  have HB := hide hb
  have hab : ab < w.heap.size := by
    obtain ⟨b', o', e, hc'⟩ := hA.rd (by intro e; rw [e] at hn; simp at hn; omega)
    cases e
    exact cell_lt (hc' 0 (by omega))
  have HAB := hide hab
  have HMN2 := hide (show N * 20 + 20 = n by omega)
  have HRL := hide (show ∀ i, i < N → i ≤ 1000000 by intro i hi; omega)
  clear hab
  clear hA hn hb hr hv hs hnc k1 b1 hm hN hN1 hb20 e16
  clear v4 v8 v12 hx4 hx8 hx12 hk b16
  refine calls_marks Try.func36 rfl ?_
  simp only [Try.ntmps36, List.size_toArray, List.length_cons, List.length_nil, Nat.reduceAdd, Nat.reduceSub, Array.replicate_succ, Array.replicate_zero, List.push_toArray, List.append_toArray, List.nil_append, List.cons_append]
  go_wp2_with fail
  refine HV.out.mono ?_
  rintro e w1 ⟨rfl, d, rfl⟩
  have KD := hide (below_drewN HK1.out d)
  have BD := hide (HB1.out.drewN d)
  generalize (w.alloc (.cells #[.slice none 0 0] 42)).drewN d = W1 at *
  have q0 := BD.out.cell 0
  have f0 := BD.out.frozen 0
  dsimp only [Array.toList, List.getElem?_cons_zero] at q0
  go_wp2_with fail
  refine (SM.out W1 ((HI.out.keep KD.out).take 20 (by omega))).mono ?_
  rintro e w2 ⟨A2, n2, c2, rfl, i2, l2, d2, rfl⟩
  have KE := hide (below_drewN KD.out d2)
  have BE := hide (BD.out.drewN d2)
  have I2 := hide i2
  have L2 := hide l2
  clear i2 l2 q0 f0
  generalize W1.drewN d2 = W2 at *
  have q0 := BE.out.cell 0
  have f0 := BE.out.frozen 0
  dsimp only [Array.toList, List.getElem?_cons_zero] at q0
  clear KD BD
  have i2 := I2.out
  have l2 := L2.out
  rw [RW.out] at i2 l2
  have l16 : n2 = 16 := by rw [← l2, List.length_take, HN.out]; omega
  subst l16
  obtain ⟨hb_, ho, rfl⟩ := isB_at i2 (by omega)
  have hcc := (isB_len i2).2
  have I2 := hide i2
  have hy1 : (4 : Int) ≤ 16 := by omega
  have hy2 : (8 : Int) ≤ 16 := by omega
  have hy3 : (12 : Int) ≤ 16 := by omega
  have hy4 : ¬ c2 = 4 := by omega
  have hy5 : ¬ c2 = 8 := by omega
  have hy6 : ¬ c2 = 12 := by omega
  have hy7 : ¬ 4 = c2 := by omega
  have hy8 : ¬ 8 = c2 := by omega
  have hy9 : ¬ 12 = c2 := by omega
  have c4 := fun W (h : IsB W (.slice (some ⟨hb_, ho, none⟩) 16 c2) (b.take 16)) => NB.out hb_ ho c2 4 W h (by omega) hcc.1 hcc.2
  have c8 := fun W (h : IsB W (.slice (some ⟨hb_, ho, none⟩) 16 c2) (b.take 16)) => NB.out hb_ ho c2 8 W h (by omega) hcc.1 hcc.2
  have c12 := fun W (h : IsB W (.slice (some ⟨hb_, ho, none⟩) 16 c2) (b.take 16)) => NB.out hb_ ho c2 12 W h (by omega) hcc.1 hcc.2
  rw [V4.out] at c4
  rw [V8.out] at c8
  rw [V12.out] at c12
  obtain ⟨p4, hp4⟩ : ∃ p, ho + 4 = p := ⟨_, rfl⟩
  obtain ⟨p8, hp8⟩ : ∃ p, ho + 8 = p := ⟨_, rfl⟩
  obtain ⟨p12, hp12⟩ : ∃ p, ho + 12 = p := ⟨_, rfl⟩
  obtain ⟨k4, hk4⟩ : ∃ p, c2 - 4 = p := ⟨_, rfl⟩
  obtain ⟨k8, hk8⟩ : ∃ p, c2 - 8 = p := ⟨_, rfl⟩
  obtain ⟨k12, hk12⟩ : ∃ p, c2 - 12 = p := ⟨_, rfl⟩
  rw [hp4, hk4, show 16 - 4 = 12 from rfl] at c4
  rw [hp8, hk8, show 16 - 8 = 8 from rfl] at c8
  rw [hp12, hk12, show 16 - 12 = 4 from rfl] at c12
  have C4 := hide c4
  have C8 := hide c8
  have C12 := hide c12
  clear i2 l2 c4 c8 c12
  go_wp2_with fail
  refine wp_region_quiet_lit (by kernel_rfl) (by kernel_rfl) ?_
  repeat (quiet_step (fail))
  refine wpQuiet_step (fun K hK => ?_)
  go_simp
  apply Exists.intro
  refine ⟨fun _ => ?_, hK _ ?_⟩
  · go_at_call 76
    refine Calls.quiet_of (v := .int .i64 (x4 : Int)) ?_
    refine (C4.out _ (I2.out.drewN _)).mono ?_
    rintro e w' ⟨rfl, d, rfl⟩
    exact ⟨rfl, d, rfl⟩
  clear hK K
  repeat (quiet_step (fail))
  refine wpQuiet_step (fun K hK => ?_)
  go_simp
  apply Exists.intro
  refine ⟨fun _ => ?_, hK _ ?_⟩
  · go_at_call 76
    refine Calls.quiet_of (v := .int .i64 (x8 : Int)) ?_
    refine (C8.out _ (I2.out.drewN _)).mono ?_
    rintro e w' ⟨rfl, d, rfl⟩
    exact ⟨rfl, d, rfl⟩
  clear hK K
  repeat (quiet_step (fail))
  refine wpQuiet_step (fun K hK => ?_)
  go_simp
  apply Exists.intro
  refine ⟨fun _ => ?_, hK _ ?_⟩
  · go_at_call 76
    refine Calls.quiet_of (v := .int .i64 (x12 : Int)) ?_
    refine (C12.out _ (I2.out.drewN _)).mono ?_
    rintro e w' ⟨rfl, d, rfl⟩
    exact ⟨rfl, d, rfl⟩
  clear hK K
  repeat (quiet_step (fail))
  refine wpQuiet_nil ?_
  intro _ hw'
  obtain ⟨nq, hw''⟩ := hw'
  subst hw''
  have KF := hide (below_drewN KE.out nq)
  have BF := hide (BE.out.drewN nq)
  clear q0 f0 I2 C4 C8 C12 KE BE
  generalize W2.drewN nq = W3 at *
  have q0 := BF.out.cell 0
  have f0 := BF.out.frozen 0
  dsimp only [Array.toList, List.getElem?_cons_zero] at q0
  go_wp2_with fail
  refine (HH.out _).mono ?_
  rintro e w3 ⟨rfl, rfl⟩
  go_wp2_with fail
  refine (chunk_any (some ⟨ab, ao + 20, none⟩) m (c - 20) 20 W3 (by omega)).mono ?_
  rintro e w5 ⟨rfl, rfl⟩
  clear q0 f0 HH V4 V8 V12 HV SM HK1 HB1 RW L2
  have s5 : ((W3.alloc (.cells #[.slice (some ⟨ab, ao + 20, none⟩) m (c - 20)] 23)).alloc (.cells #[.int .i64 ((20 : Nat) : Int)] 3)).heap.size = W3.heap.size + 2 := by simp
  have ka := below_alloc W3 (.cells #[.slice (some ⟨ab, ao + 20, none⟩) m (c - 20)] 23)
  have kb := below_alloc (W3.alloc (.cells #[.slice (some ⟨ab, ao + 20, none⟩) m (c - 20)] 23)) (.cells #[.int .i64 ((20 : Nat) : Int)] 3)
  have ba := (Blk.new W3 (B := 0) 23 #[.slice (some ⟨ab, ao + 20, none⟩) m (c - 20)] (Nat.zero_le _)).keep kb
  have bb := Blk.new (W3.alloc (.cells #[.slice (some ⟨ab, ao + 20, none⟩) m (c - 20)] 23)) (B := 0) 3 #[.int .i64 ((20 : Nat) : Int)] (Nat.zero_le _)
  have sa : (W3.alloc (.cells #[.slice (some ⟨ab, ao + 20, none⟩) m (c - 20)] 23)).heap.size = W3.heap.size + 1 := by simp
  have kk := ka.trans (kb.mono (by omega))
  have b6 := (BF.out.keep ka).keep kb
  have k6 := KF.out.trans (kk.mono KF.out.size)
  have hgz := cell_lt (BF.out.cell 0)
  rw [sa] at bb
  obtain ⟨z, hz⟩ : ∃ z, z = W3.heap.size := ⟨_, rfl⟩
  obtain ⟨W6, hW6⟩ : ∃ W, W = (W3.alloc (.cells #[.slice (some ⟨ab, ao + 20, none⟩) m (c - 20)] 23)).alloc (.cells #[.int .i64 ((20 : Nat) : Int)] 3) := ⟨_, rfl⟩
  rw [← hW6] at s5 ba bb b6 k6 ⊢
  rw [← hz] at ba bb s5 hgz ⊢
  have hgz : w.heap.size < z := hgz
  have BA := hide ba
  have BB := hide bb
  have B6 := hide b6
  have K6 := hide k6
  have hzs : W6.heap.size = z + 2 := s5
  clear s5 ka kb ba bb sa kk b6 k6 hW6 hz KF BF
  go_wp2_with fail
  refine wp_range (gf := 108) (pb := #[]) (lb := #[.pointer (some ⟨z, 0, none⟩), .pointer (some ⟨z + 1, 0, none⟩)]) rfl (enters_of Try.func108 (by kernel_rfl) rfl)
    (R := chunkR ab (ao + 20) 20) (St := fun A B => B = A.drew) (S := fun k => k = w.heap.size ∨ z + 4 ≤ k) (N := N) ?seq ?sd ?sl ?st ?ps ?hr
    (fun i A => ∃ A' c', Blk A w.heap.size 42 w.heap.size [.slice A' i c'] ∧ OwnMt A (z + 4) (.slice A' i c') (rowsR b i) ∧ Turn (fun k => (k = w.heap.size ∨ z + 4 ≤ k) ∨ k = z + 3) W6 A)
    (fun _ _ _ => False) ?i ?ix ?il ?ixl ?i0 ?round ?done ?stop
  case seq =>
    intro r
    have b61 : Below W6.heap.size W6 ((W6.alloc (.deferred (some []))).alloc (.loop r)) := (below_alloc _ _).trans ((below_alloc _ _).mono (by simp))
    have c1 := (BA.out.keep b61).cell 0
    have c2 := (BB.out.keep b61).cell 0
    refine chunk_seq ab (ao + 20) m (c - 20) 20 N z (z + 1) _ _ (by omega) (by omega) HMN.out (by omega) (by omega) (by omega) c1 c2 ?_ ?_
    · rintro ((e | e) | e) <;> omega
    · rintro ((e | e) | e) <;> omega
  case sd => rintro (e | e) <;> omega
  case sl => rintro (e | e) <;> omega
  case st => rintro A B k o rfl _ h; exact h
  case ps => rintro i vs A rfl; rfl
  case hr => exact fun _ _ _ _ _ h _ => h
  case i =>
    rintro i A B ⟨A', c', hb, ho, ht⟩ rfl
    exact ⟨A', c', hb, ho, ⟨ht.os, ht.tape, ht.output, ht.size, ht.block⟩⟩
  case ix => exact fun _ _ _ _ h _ => h
  case il =>
    rintro i A r r' ⟨A', c', hb, ho, ht⟩ hL
    have tp : Turn (fun k => k = W6.heap.size + 1) A (A.putObj (W6.heap.size + 1) (.loop r')) := Turn.put _ _ _ rfl
    exact ⟨A', c', hb.turn tp (by omega), ho.turnB tp (fun g hg e => by have e : g = W6.heap.size + 1 := e; omega), ht.trans (tp.mono (fun k e => .inr (by have e : k = W6.heap.size + 1 := e; omega)))⟩
  case ixl => exact fun _ _ _ _ _ h _ => h
  case i0 =>
    intro r
    have b61 : Below W6.heap.size W6 ((W6.alloc (.deferred (some []))).alloc (.loop r)) := (below_alloc _ _).trans ((below_alloc _ _).mono (by simp))
    exact ⟨none, 0, B6.out.keep b61, OwnMt.nil _ _, Turn.of_below _ b61⟩
  case stop => exact fun _ _ _ _ h _ => h.elim
  case done =>
    rintro W ⟨A', c', hb, ho, ht⟩ hK
    have q0 : W.cell? ⟨w.heap.size, 0, none⟩ = some (.slice A' N c') := hb.cell 0
    have f0 := hb.frozen 0
    have HO := hide ho
    have HBK := hide hb
    have KB : Hid (Below w.heap.size w W) := hide (K6.out.trans (ht.below (by omega) (fun k e => by rcases e with (e | e) | e <;> omega)))
    clear hb ho ht
    go_wp2_with fail
    go_region
    have ts : Turn (fun k => k = w.heap.size) W ((W.setCell ⟨w.heap.size, 0, none⟩ (.slice A' N c')).drewN 1) := ((Turn.of_grown (grown_set W w.heap.size 0 _)).mono (fun j e => by simpa using e)).drewN 1
    have b9 := (HBK.out.stored 0 (.slice A' N c')).drewN 1
    have o9 := HO.out.turnB ts (fun g hg e => by have e : g = w.heap.size := e; omega)
    have k9 : Below w.heap.size w ((W.setCell ⟨w.heap.size, 0, none⟩ (.slice A' N c')).drewN 1) := below_drewN (KB.out.setCell (p := ⟨w.heap.size, 0, none⟩) (Nat.le_refl _) _) 1
    have hK9 := ts.at_ hK (by omega)
    have B9 := hide b9
    have O9 := hide o9
    have K9 := hide k9
    clear ts b9 o9 k9 q0 f0 HO HBK KB hK
    rw [show (W.setCell ⟨w.heap.size, 0, none⟩ (.slice A' N c')).drew = (W.setCell ⟨w.heap.size, 0, none⟩ (.slice A' N c')).drewN 1 from rfl]
    generalize (W.setCell ⟨w.heap.size, 0, none⟩ (.slice A' N c')).drewN 1 = W9 at *
    go_wp2_with fail
    refine ⟨by simp, .inl ⟨_, _, rfl, run_takeDeferred hK9, ?_⟩⟩
    have tp : Turn (fun k => k = W6.heap.size) W9 (W9.putObj W6.heap.size (.deferred none)) := Turn.put _ _ _ rfl
    have b10 := B9.out.turn tp (by omega)
    have q10 := b10.cell 0
    dsimp only [List.set_cons_zero, List.getElem?_cons_zero] at q10
    have o10 := O9.out.turnB tp (fun g hg e => by have e : g = W6.heap.size := e; omega)
    have k10 := below_put K9.out (l := W6.heap.size) (by omega) (.deferred none)
    refine ⟨.tuple #[.int .i64 x4, .int .i64 x8, .int .i64 x12, .slice A' N c', .int .i64 0], by simp [results, Try.results36, go_sem, q10], readAns_ok HR.out (o10.more (by omega)) k10⟩
  case round =>
    rintro l i vs W0 W hi ⟨A', c', hb, ho, ht⟩ rfl hlow
    have c0 : W.cell? ⟨w.heap.size, 0, none⟩ = some (.slice A' i c') := hb.cell 0
    have kw : Below w.heap.size w W := K6.out.trans (ht.below (by omega) (fun k e => by rcases e with (e | e) | e <;> omega))
    have hin := HMN2.out
    have hi20 : i * 20 + 20 ≤ N * 20 := by have := Nat.mul_le_mul_right 20 (show i + 1 ≤ N by omega); omega
    have ib : IsB W (.slice (some ⟨ab, ao + 20 + i * 20, none⟩) 20 20) (chunkS 20 (b.drop 20) i) := by
      have h8 := isB_subc (HI.out.keep kw) (20 + i * 20) 20 20 (by omega) (Nat.le_refl _) (by omega)
      rw [← Nat.add_assoc, ← List.drop_drop] at h8
      exact h8
    have SC := hide (summed_any ab (ao + 20 + i * 20) 20 (chunkS 20 (b.drop 20) i) W ib (chunkS_byte (fun x hx => HB.out x (List.mem_of_mem_drop hx))))
    have HBK := hide hb
    have HT := hide ht
    have HO := hide ho
    have HIN := hide hi
    have HBW := hide (show z + 4 ≤ W.heap.size by have := hlow (z + 3) (by omega); omega)
    have hi1 := HRL.out i hi
    clear kw hin hi20 ib hb ht ho hlow hi
    gi_wp2
    refine ⟨trivial, ?_⟩
    gi_wp2
    refine ⟨trivial, (CallsIn.inRound l (callsIn_wide.2 SC.out)).mono ?_⟩
    rintro e w7 ⟨A2, n2, c2, rfl, i2, l2, d, rfl⟩
    have c1 : (W.drewN d).cell? ⟨w.heap.size, 0, none⟩ = some (.slice A' i c') := c0
    have HBK7 := hide (HBK.out.drewN d)
    have HO7 := hide (HO.out.drewN d)
    have HT7 := hide (HT.out.drewN d)
    have TW7 := hide ((Turn.refl (fun k => k = w.heap.size ∨ z + 4 ≤ k) W).drewN d)
    have HBW7 := hide (show z + 4 ≤ (W.drewN d).heap.size from HBW.out)
    have n216 : n2 ≤ 16 := by
      rw [← l2]
      unfold rowR
      split
      · rw [List.length_take]; omega
      · exact Nat.zero_le _
    have I2 := hide i2
    have L2 := hide l2
    clear i2 l2 c0 HBK HO HBW SC
    generalize W.drewN d = W7 at *
    gi_wp2
    refine ways_sole (isW_round l) (fun W' => W'.cell? ⟨w.heap.size, 0, none⟩ = some (.slice A' i c')) 5 6 #[false, false, false, false, false, false] (by kernel_rfl) (by kernel_rfl) (by kernel_rfl) (by kernel_rfl) ?_
    have hHeld : W7.drew.cell? ⟨w.heap.size, 0, none⟩ = some (.slice A' i c') := c1
    refine' Ways.take (i := 0) (oi := ⟨_, _, _, _, _, _⟩) (v := _) rfl (by kernel_rfl) (by kernel_rfl) (by kernel_rfl) (by kernel_rfl) (fun _ _ _ h => h) hHeld (Or.inl ⟨rfl, ?_⟩) ?_
    rotate_left
    · (intro W hW; (try dsimp only at hW); go_simp; (try with_reducible rfl))
    try simp only [Act.put, List.setIfInBounds_toArray, List.set_cons_zero, List.set_cons_succ]
    refine' Ways.take (i := 1) (oi := ⟨_, _, _, _, _, _⟩) (v := _) rfl (by kernel_rfl) (by kernel_rfl) (by kernel_rfl) (by kernel_rfl) (fun _ _ _ h => h) hHeld (Or.inl ⟨rfl, ?_⟩) ?_
    rotate_left
    · (intro W hW; (try dsimp only at hW); go_simp; (try with_reducible rfl))
    try simp only [Act.put, List.setIfInBounds_toArray, List.set_cons_zero, List.set_cons_succ]
    refine Ways.one (i := 2) (by kernel_rfl) rfl (fun K hK => ?_)
    go_simp
    go_at_call 78
    refine (clone_any A2 n2 c2 _ _ (I2.out.drewN 1) L2.out (by omega)).mono ?_
    rintro e w8 ⟨s8, rfl, o8, k8⟩
    obtain ⟨A8, c8, rfl, -, -, -⟩ := o8.isB.form (n := n2) L2.out
    have k8 : Below W7.heap.size W7 w8 := ⟨k8.os, k8.tape, k8.output, k8.size, k8.block⟩
    have c8' := (k8.cell (cell_lt c1)).trans c1
    have K8 := hide k8
    have O8 := hide (o8.more (B' := z + 4) HBW7.out)
    refine hK.out _ _ c8' ?_
    clear hK hHeld o8 k8 I2 L2
    try simp only [List.setIfInBounds_toArray, List.set_cons_zero, List.set_cons_succ]
    refine Ways.one (i := 3) (by kernel_rfl) rfl (fun K hK => ?_)
    go_simp
    have b9 : Below w8.heap.size w8 (w8.alloc (.cells #[.slice A8 n2 c8] 23)) := below_alloc _ _
    have n9 : (w8.alloc (.cells #[.slice A8 n2 c8] 23)).cell? ⟨w8.heap.size, 0, none⟩ = some (.slice A8 n2 c8) := (Blk.new w8 (B := 0) 23 #[.slice A8 n2 c8] (Nat.zero_le _)).cell 0
    have c9 := (b9.cell (cell_lt c8')).trans c8'
    obtain ⟨w9, hw9⟩ : ∃ w9, w9 = w8.alloc (.cells #[.slice A8 n2 c8] 23) := ⟨_, rfl⟩
    rw [← hw9] at b9 n9 c9
    try rw [← hw9]
    have K9 := hide (K8.out.trans (b9.mono K8.out.size))
    have O9 := hide (O8.out.keep b9)
    have HO9 := hide ((HO7.out.keep K8.out).keep b9)
    refine hK.out _ _ c9 ?_
    clear hK hw9 b9 c8' O8 HO7
    try simp only [List.setIfInBounds_toArray, List.set_cons_zero, List.set_cons_succ]
    refine Ways.one (i := 4) (by kernel_rfl) rfl (fun K hK => ?_)
    refine step_append_orow rfl (.tmp 62) (.tmp 65) rfl (z + 4) (.slice A' i c') _ rfl HO9.out w8.heap.size (.slice A8 n2 c8) _ rfl n9 O9.out (by rw [rowsR_len]; omega) (by have := K9.out.size; have := HBW7.out; omega) ?_
    intro v' w10 h10 k10
    obtain ⟨A10, c10, rfl, -, -⟩ := h10.form (n := i + 1) (by rw [List.length_append, rowsR_len]; rfl)
    have c10' := (k10.cell (p := ⟨w.heap.size, 0, none⟩) (by show w.heap.size < z + 4; omega)).trans c9
    have B10 := hide (((HBK7.out.keep K9.out)).low k10 (by omega))
    have T10 : Turn (fun k => k = w.heap.size ∨ z + 4 ≤ k) W7 w10 := (Turn.of_below _ K9.out).trans ⟨k10.os, k10.tape, k10.output, k10.size, fun k _ hn => k10.block k (by omega)⟩
    have f10 := B10.out.frozen 0
    have ts : Turn (fun k => k = w.heap.size) w10 (w10.setCell ⟨w.heap.size, 0, none⟩ (.slice A10 (i + 1) c10)) := (Turn.of_grown (grown_set w10 w.heap.size 0 _)).mono (fun j e => by simpa using e)
    have TN := hide ((TW7.out.trans T10).trans (ts.mono (fun k e => .inl e)))
    have BN := hide (B10.out.stored 0 (.slice A10 (i + 1) c10))
    have HN10 := hide (h10.turnB ts (fun g hg e => by have e : g = w.heap.size := e; omega))
    refine hK.out _ _ c10' ?_
    clear hK h10 k10 c9 n9 T10 ts O9 HO9
    try simp only [List.setIfInBounds_toArray, List.set_cons_zero, List.set_cons_succ]
    refine Ways.last (by kernel_rfl) rfl (by kernel_rfl) (fun K hK => ?_)
    go_simp
    refine hK.out _ _ ?_
    clear hK
    refine sole_n ?_
    gi_wp2
    exact ⟨TN.out, A10, c10, BN.out, HN10.out, HT.out.trans (TN.out.mono (fun k e => .inl e))⟩
end Go.Proofs.Ytehgjkckhjggbaa
namespace Go.Proofs.Ytehgjkckhjggbaa
open Go.RowKit
theorem read_any (A : Option Addr) (n c : Nat) (b : List Nat) (w : World) (hA : IsB w (.slice A n c) b) (hn : b.length = n) (hb : ∀ x ∈ b, x < 256) (h9 : n ≤ 900000) :
    Calls Try.prog 36 #[.slice A n c] w fun e w' => ReadAns w b e w' := by
  by_cases h20 : n < 20
  · exact read_short A n c b w hn h20
  · obtain ⟨ab, ao, rfl⟩ := isB_at hA (by omega)
    by_cases hf : val32 b ≠ 1735590144 ∨ n = 20 ∨ (n - 20) % 20 ≠ 0
    · exact read_form ab ao n c b w hA hn hb (by omega) h9 hf
    · obtain ⟨N, hN⟩ : ∃ N, N = (n - 20) / 20 := ⟨_, rfl⟩
      have hv : val32 b = 1735590144 := Decidable.byContradiction fun h => hf (.inl h)
      have hn20 : ¬ n = 20 := fun h => hf (.inr (.inl h))
      have hm : (n - 20) % 20 = 0 := Decidable.byContradiction fun h => hf (.inr (.inr h))
      have h1 : n = 20 + N * 20 := by omega
      have h2 : 1 ≤ N := by omega
      by_cases hs : val32 (b.drop 16) = sumS (b.take 16)
      · by_cases hk : okHead (val32 (b.drop 4)) (val32 (b.drop 8)) (val32 (b.drop 12))
        · exact read_ok ab ao n c N b w hA hn hb h9 h1 h2 hv hs hk
        · exact read_head ab ao n c N b w hA hn hb h9 h1 h2 hv hs hk
      · exact read_sum ab ao n c N b w hA hn hb h9 h1 h2 hv hs
end Go.Proofs.Ytehgjkckhjggbaa
namespace Go.Proofs.Ytehgjkckhjggbaa
open Go.RowKit
attribute [local go_sem] Oper.semAt_some
def RReadAns (w : World) (b : List Nat) (e : Ending) (w' : World) : Prop :=
  ∃ v, e = .returned (.tuple #[.agg #[.int .i64 ((readS b).2.1 : Nat), .int .i64 ((readS b).2.2.1 : Nat), .int .i64 ((readS b).2.2.2.1 : Nat), v], .int .i64 ((readS b).1 : Nat)]) ∧ OwnMt w' w.heap.size v (readS b).2.2.2.2 ∧ Below w.heap.size w w'
theorem rreadAns_err {w w' : World} {b : List Nat} {k : Nat} (h : readS b = (k, 0, 0, 0, [])) (hk : Below w.heap.size w w') : RReadAns w b (.returned (.tuple #[.agg #[.int .i64 0, .int .i64 0, .int .i64 0, .slice none 0 0], .int .i64 (k : Int)])) w' := by
  unfold RReadAns
  rw [h]
  exact ⟨_, rfl, OwnMt.nil _ _, hk⟩
theorem rreadAns_ok {w w' : World} {b : List Nat} {a4 a8 a12 : Nat} {rows : List (List Nat)} {v : Value} (h : readS b = (0, a4, a8, a12, rows)) (ho : OwnMt w' w.heap.size v rows) (hk : Below w.heap.size w w') :
    RReadAns w b (.returned (.tuple #[.agg #[.int .i64 (a4 : Int), .int .i64 (a8 : Int), .int .i64 (a12 : Int), v], .int .i64 0])) w' := by
  unfold RReadAns
  rw [h]
  exact ⟨_, rfl, ho, hk⟩
/-- Four cells of an own block, stored. -/
theorem put4S {w : World} {B g : Nat} {e : TypeId} {a0 a1 a2 a3 : Value} (h : Blk w B e g [a0, a1, a2, a3]) (v0 v1 v2 v3 : Value) (W : World) (hW : W = (((w.setCell ⟨g, 0, none⟩ v0).setCell ⟨g, 1, none⟩ v1).setCell ⟨g, 2, none⟩ v2).setCell ⟨g, 3, none⟩ v3) :
    Blk W B e g [v0, v1, v2, v3] ∧ Turn (fun k => k = g) w W := by
  subst hW
  have t : ∀ (u : World) (i : Nat) (v : Value), Turn (fun k => k = g) u (u.setCell ⟨g, i, none⟩ v) := fun u i v => (Turn.of_grown (grown_set u g i v)).mono (fun j e => by simpa using e)
  exact ⟨(((h.stored 0 v0).stored 1 v1).stored 2 v2).stored 3 v3, (((t _ 0 v0).trans (t _ 1 v1)).trans (t _ 2 v2)).trans (t _ 3 v3)⟩
theorem rread_short (A : Option Addr) (n c : Nat) (b : List Nat) (w : World) (hn : b.length = n) (h : n < 20) :
    Calls Try.prog 75 #[.slice A n c] w fun e w' => RReadAns w b e w' := by
  have hr : readS b = (2, 0, 0, 0, []) := if_pos (by omega)
  have hz : (n : Int) < 20 := by omega
  have HR := hide hr
  have b1 := Blk.new w (B := w.heap.size) 133 #[.int .i64 0, .int .i64 0, .int .i64 0, .slice none 0 0] (Nat.le_refl _)
  have k1 := below_alloc w (.cells #[.int .i64 0, .int .i64 0, .int .i64 0, .slice none 0 0] 133)
  have q0 := b1.cell 0
  have f0 := b1.frozen 0
  have q1 := b1.cell 1
  have f1 := b1.frozen 1
  have q2 := b1.cell 2
  have f2 := b1.frozen 2
  have q3 := b1.cell 3
  have f3 := b1.frozen 3
  dsimp only [Array.toList, List.getElem?_cons_zero, List.getElem?_cons_succ] at q0 q1 q2 q3
  have B1 := hide b1
  have K1 := hide k1
  clear hr hn b1 k1
  go_enter Try.func75, Try.ntmps75
  go_wp2_with fail
  refine bodyPost_ret (v := .tuple #[.agg #[.int .i64 0, .int .i64 0, .int .i64 0, .slice none 0 0], .int .i64 2]) (by simp [results, Try.results75, go_sem]) rfl (rreadAns_err HR.out K1.out)
theorem getD_byteR {b : List Nat} (h : ∀ x ∈ b, x < 256) (i : Nat) : b.getD i 0 < 256 := by
  by_cases hi : i < b.length
  · have e : b.getD i 0 = b[i] := by simp [hi]
    rw [e]
    exact h _ (List.getElem_mem _)
  · simp [hi]
set_option maxRecDepth 100000 in
set_option maxHeartbeats 3200000 in
theorem rread_form (ab ao n c : Nat) (b : List Nat) (w : World) (hA : IsB w (.slice (some ⟨ab, ao, none⟩) n c) b) (hn : b.length = n) (hb : ∀ x ∈ b, x < 256) (h20 : 20 ≤ n) (h9 : n ≤ 900000) (h : val32 b ≠ 1735590144 ∨ n = 20 ∨ (n - 20) % 20 ≠ 0) :
    Calls Try.prog 75 #[.slice (some ⟨ab, ao, none⟩) n c] w fun e w' => RReadAns w b e w' := by
  have hr : readS b = (3, 0, 0, 0, []) := by
    unfold readS
    rw [if_neg (by omega), hn, if_pos h]
  have HR := hide hr
  have b1 := Blk.new w (B := w.heap.size) 133 #[.int .i64 0, .int .i64 0, .int .i64 0, .slice none 0 0] (Nat.le_refl _)
  have k1 := below_alloc w (.cells #[.int .i64 0, .int .i64 0, .int .i64 0, .slice none 0 0] 133)
  have hcell : ∀ i, i < n → (w.alloc (.cells #[.int .i64 0, .int .i64 0, .int .i64 0, .slice none 0 0] 133)).cell? ⟨ab, ao + i, none⟩ = some (.int .u8 ((b.getD i 0 : Nat) : Int)) := by
    obtain ⟨b', o', e, hc'⟩ := hA.rd (by intro e; rw [e] at hn; simp at hn; omega)
    cases e
    intro i hi
    have h9 := hc' i (by omega)
    exact (k1.cell (cell_lt h9)).trans h9
  have c0 := hcell 0 (by omega)
  have c1 := hcell 1 (by omega)
  have c2 := hcell 2 (by omega)
  have c3 := hcell 3 (by omega)
  rw [Nat.add_zero] at c0
  have l0 := getD_byteR hb 0
  have l1 := getD_byteR hb 1
  have l2 := getD_byteR hb 2
  have l3 := getD_byteR hb 3
  have hval : val32 b = b.getD 0 0 * 16777216 + b.getD 1 0 * 65536 + b.getD 2 0 * 256 + b.getD 3 0 := rfl
  obtain ⟨V, hV⟩ : ∃ V, V = val32 b := ⟨_, rfl⟩
  rw [← hV] at hval h
  clear hV
  generalize b.getD 0 0 = x0 at *
  generalize b.getD 1 0 = x1 at *
  generalize b.getD 2 0 = x2 at *
  generalize b.getD 3 0 = x3 at *
  have hi0 : (0 : Int) < (n : Int) := by omega
  have hi1 : (1 : Int) < (n : Int) := by omega
  have hi2 : (2 : Int) < (n : Int) := by omega
  have hi3 : (3 : Int) < (n : Int) := by omega
  have hin : 0 < n := by omega
  have hz20 : ¬ (n : Int) < 20 := by omega
  have hcs : x0 ≠ 103 ∨ (x0 = 103 ∧ x1 ≠ 115) ∨ (x0 = 103 ∧ x1 = 115 ∧ x2 ≠ 1) ∨ (x0 = 103 ∧ x1 = 115 ∧ x2 = 1 ∧ x3 ≠ 0) ∨ (x0 = 103 ∧ x1 = 115 ∧ x2 = 1 ∧ x3 = 0 ∧ n = 20) ∨ (x0 = 103 ∧ x1 = 115 ∧ x2 = 1 ∧ x3 = 0 ∧ n ≠ 20 ∧ (n - 20) % 20 ≠ 0) := by omega
  have q0 := b1.cell 0
  have f0 := b1.frozen 0
  have q1 := b1.cell 1
  have f1 := b1.frozen 1
  have q2 := b1.cell 2
  have f2 := b1.frozen 2
  have q3 := b1.cell 3
  have f3 := b1.frozen 3
  dsimp only [Array.toList, List.getElem?_cons_zero, List.getElem?_cons_succ] at q0 q1 q2 q3
  have B1 := hide b1
  have K1 := hide k1
  have hnk : Hid (b.length = n) := hide hn
  clear hr hn b1 k1 hcell hA hb hval h
  rcases hcs with h0 | ⟨h0, h1⟩ | ⟨h0, h1, h2⟩ | ⟨h0, h1, h2, h3⟩ | ⟨h0, h1, h2, h3, h4⟩ | ⟨h0, h1, h2, h3, h4, h5⟩
  · have e0 : ((x0 : Int) != 103) = true := by simp; omega
    clear h0
    go_enter Try.func75, Try.ntmps75
    go_wp2_with fail
    refine bodyPost_ret (v := .tuple #[.agg #[.int .i64 0, .int .i64 0, .int .i64 0, .slice none 0 0], .int .i64 3]) (by simp [results, Try.results75, go_sem]) rfl (rreadAns_err HR.out K1.out)
  · have e0 : ((x0 : Int) != 103) = false := by simp; omega
    have e1 : ((x1 : Int) != 115) = true := by simp; omega
    clear h0 h1
    go_enter Try.func75, Try.ntmps75
    go_wp2_with fail
    refine bodyPost_ret (v := .tuple #[.agg #[.int .i64 0, .int .i64 0, .int .i64 0, .slice none 0 0], .int .i64 3]) (by simp [results, Try.results75, go_sem]) rfl (rreadAns_err HR.out K1.out)
  · have e0 : ((x0 : Int) != 103) = false := by simp; omega
    have e1 : ((x1 : Int) != 115) = false := by simp; omega
    have e2 : ((x2 : Int) != 1) = true := by simp; omega
    clear h0 h1 h2
    go_enter Try.func75, Try.ntmps75
    go_wp2_with fail
    refine bodyPost_ret (v := .tuple #[.agg #[.int .i64 0, .int .i64 0, .int .i64 0, .slice none 0 0], .int .i64 3]) (by simp [results, Try.results75, go_sem]) rfl (rreadAns_err HR.out K1.out)
  · have e0 : ((x0 : Int) != 103) = false := by simp; omega
    have e1 : ((x1 : Int) != 115) = false := by simp; omega
    have e2 : ((x2 : Int) != 1) = false := by simp; omega
    have e3 : ((x3 : Int) != 0) = true := by simp; omega
    clear h0 h1 h2 h3
    go_enter Try.func75, Try.ntmps75
    go_wp2_with fail
    refine bodyPost_ret (v := .tuple #[.agg #[.int .i64 0, .int .i64 0, .int .i64 0, .slice none 0 0], .int .i64 3]) (by simp [results, Try.results75, go_sem]) rfl (rreadAns_err HR.out K1.out)
  · have e0 : ((x0 : Int) != 103) = false := by simp; omega
    have e1 : ((x1 : Int) != 115) = false := by simp; omega
    have e2 : ((x2 : Int) != 1) = false := by simp; omega
    have e3 : ((x3 : Int) != 0) = false := by simp; omega
    have e4 : ((n : Int) == 20) = true := by simp; omega
    clear h0 h1 h2 h3 h4
    go_enter Try.func75, Try.ntmps75
    go_wp2_with fail
    refine bodyPost_ret (v := .tuple #[.agg #[.int .i64 0, .int .i64 0, .int .i64 0, .slice none 0 0], .int .i64 3]) (by simp [results, Try.results75, go_sem]) rfl (rreadAns_err HR.out K1.out)
  · have e0 : ((x0 : Int) != 103) = false := by simp; omega
    have e1 : ((x1 : Int) != 115) = false := by simp; omega
    have e2 : ((x2 : Int) != 1) = false := by simp; omega
    have e3 : ((x3 : Int) != 0) = false := by simp; omega
    have e4 : ((n : Int) == 20) = false := by simp; omega
    obtain ⟨m, hm⟩ : ∃ m, m = n - 20 := ⟨_, rfl⟩
    have hmz : (n : Int) - 20 = (m : Int) := by omega
    obtain ⟨q, hq⟩ : ∃ q, q = m % 20 := ⟨_, rfl⟩
    have hqz : (m : Int) % 20 = (q : Int) := by omega
    have hq0 : ((q : Int) != 0) = true := by
      have : q ≠ 0 := by rw [hq, hm]; exact h5
      simp
      omega
    have hq9 : q < 20 := by omega
    have hm9 : m ≤ 900000 := by omega
    clear hm hq h5
    clear h0 h1 h2 h3 h4
    go_enter Try.func75, Try.ntmps75
    go_wp2_with fail
    refine bodyPost_ret (v := .tuple #[.agg #[.int .i64 0, .int .i64 0, .int .i64 0, .slice none 0 0], .int .i64 3]) (by simp [results, Try.results75, go_sem]) rfl (rreadAns_err HR.out K1.out)
end Go.Proofs.Ytehgjkckhjggbaa
