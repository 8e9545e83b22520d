/- The contract of needle.Decode: any bytes begin with a needle, or are refused; of a damaged one its key is told. Condition: fewer than 2 to the 39 bytes. The contract of needle.Decode, all ways joined: any bytes begin with a needle, or are refused. Condition: fewer than 2 to the 39 bytes. -/
import Derived.Test.YtehgjkckhjggbaaVr15
import Derived.Test.YtehgjkckhjggbaaVr7
import Derived.Laws.Cover3
namespace Go.Proofs.Ytehgjkckhjggbaa
open Go.RowKit
theorem ndread_any (H : List Nat) (w : World) (hl : H.length = 24) (hb : ∀ x ∈ H, x < 256) :
    Calls Try.prog 120 #[.agg (u8s H).toArray] w fun e w' => ∃ (k c : Nat) (d : Bool) (l : Nat) (q : Bool), e = .returned (.tuple #[.agg #[.int .u64 (k : Int), .int .u32 (c : Int), .bool d, .slice none 0 0], .int .i64 (l : Int), .bool q]) ∧ q = decide (HeadOk H) ∧ (q = true → k = hKey H ∧ c = hCook H ∧ d = hDead H ∧ l = hLen H) ∧ Below w.heap.size w w' := by
  have ht : H.take 24 = H := List.take_of_length_le (by omega)
  by_cases h : hLen H ≤ 65536 ∧ ¬ (hDead H = true ∧ 0 < hLen H)
  · refine (read_ok H w hl hb h).mono ?_
    rintro e w' ⟨rfl, k⟩
    refine ⟨_, _, _, _, _, rfl, ?_, fun _ => ⟨rfl, rfl, rfl, rfl⟩, k⟩
    rw [decide_eq_decide]
    unfold HeadOk
    rw [ht]
    exact ⟨fun e => ⟨h.1, h.2, e⟩, fun e => e.2.2⟩
  · refine (read_bad H w hl hb h).mono ?_
    rintro e w' ⟨rfl, k⟩
    refine ⟨0, 0, false, 0, false, rfl, ?_, (fun h => by cases h), k⟩
    symm
    rw [decide_eq_false_iff_not]
    exact fun e => h ⟨e.1, e.2.1⟩
theorem head_take {b : List Nat} (h : 24 ≤ b.length) : hKey (b.take 24) = hKey b ∧ hCook (b.take 24) = hCook b ∧ hDead (b.take 24) = hDead b ∧ hLen (b.take 24) = hLen b ∧ (HeadOk (b.take 24) ↔ HeadOk b) := by
  have e1 : hKey (b.take 24) = hKey b := by
    unfold hKey
    rw [List.drop_take, List.take_take]
    rfl
  have v : ∀ k, k + 4 ≤ 24 → val32 ((b.take 24).drop k) = val32 (b.drop k) := fun k hk => by
    rw [List.drop_take, ← val32_take (xs := (b.drop k).take (24 - k)) (by rw [List.length_take, List.length_drop]; omega), List.take_take, Nat.min_eq_left (by omega), val32_take (by rw [List.length_drop]; omega)]
  have e2 : hCook (b.take 24) = hCook b := v 12 (by decide)
  have e4 : hLen (b.take 24) = hLen b := v 16 (by decide)
  have e3 : hDead (b.take 24) = hDead b := by
    unfold hDead
    have : (b.take 24).getD 2 0 = b.getD 2 0 := by simp
    rw [this]
  refine ⟨e1, e2, e3, e4, ?_⟩
  unfold HeadOk
  rw [e1, e2, e3, e4, List.take_take]
  rfl
theorem IsB.cellsAt {w : World} {g off n c : Nat} {xs : List Nat} (h : IsB w (.slice (some ⟨g, off, none⟩) n c) xs) : ∀ j v, (u8s xs)[j]? = some v → w.cell? ((⟨g, off, none⟩ : Addr).add j) = some v := by
  intro j v hv
  have h0 : 0 < (u8s xs).length := by
    rcases e : u8s xs with _ | ⟨a, l⟩
    · rw [e] at hv; simp at hv
    · simp
  obtain ⟨ad, e, hc⟩ := h.src h0
  cases e
  exact hc j v hv
set_option maxRecDepth 100000 in
set_option maxHeartbeats 3200000 in
theorem nddec_short (A : Option Addr) (n c : Nat) (w : World) (h : n < 24) :
    Calls Try.prog 89 #[.slice A n c] w fun e w' => e = .returned (.tuple #[.agg #[.int .u64 0, .int .u32 0, .bool false, .slice none 0 0], .int .i64 0, .int .i64 2]) ∧ Below w.heap.size w w' := by
  go_enter Try.func89, Try.ntmps89
  go_wp2_with fail
  refine bodyPost_ret (v := .tuple #[.agg #[.int .u64 0, .int .u32 0, .bool false, .slice none 0 0], .int .i64 0, .int .i64 2]) (by simp [results, Try.results89, go_sem]) rfl ⟨rfl, below_alloc _ _⟩
/-- The answer's block behind its four stores, and a block that came up. -/
theorem ans_end {w : World} {B g : Nat} {e : TypeId} {a0 a1 a2 a3 : Value} (h : Blk w B e g [a0, a1, a2, a3]) (v0 v1 v2 v3 : Value) (o : Obj) (X : World) (hX : X = ((((w.setCell ⟨g, 0, none⟩ v0).setCell ⟨g, 1, none⟩ v1).setCell ⟨g, 2, none⟩ v2).setCell ⟨g, 3, none⟩ v3).alloc o) :
    (X.cell? ⟨g, 0, none⟩ = some v0 ∧ X.cell? ⟨g, 1, none⟩ = some v1 ∧ X.cell? ⟨g, 2, none⟩ = some v2 ∧ X.cell? ⟨g, 3, none⟩ = some v3) ∧ Below B w X := by
  subst hX
  obtain ⟨hb, _, _, hk⟩ := put4_ h v0 v1 v2 v3 _ rfl
  generalize (((w.setCell ⟨g, 0, none⟩ v0).setCell ⟨g, 1, none⟩ v1).setCell ⟨g, 2, none⟩ v2).setCell ⟨g, 3, none⟩ v3 = Y at hb hk
  have ka := below_alloc Y o
  have hl := hb.lt
  have hB := h.1
  exact ⟨⟨(ka.cell (p := ⟨g, 0, none⟩) hl).trans (hb.cell 0), (ka.cell (p := ⟨g, 1, none⟩) hl).trans (hb.cell 1), (ka.cell (p := ⟨g, 2, none⟩) hl).trans (hb.cell 2), (ka.cell (p := ⟨g, 3, none⟩) hl).trans (hb.cell 3)⟩, hk.trans (ka.mono (by omega))⟩
/-- What is known at the head: the answer's block. -/
theorem ans_new (w : World) : Blk (w.alloc (.cells #[.int .u64 0, .int .u32 0, .bool false, .slice none 0 0] 35)) w.heap.size 35 w.heap.size [.int .u64 0, .int .u32 0, .bool false, .slice none 0 0] := Blk.new w 35 #[.int .u64 0, .int .u32 0, .bool false, .slice none 0 0] (Nat.le_refl _)
set_option maxRecDepth 100000 in
set_option maxHeartbeats 3200000 in
theorem nddec_form (A : Option Addr) (n c : Nat) (b : List Nat) (w : World) (hA : IsB w (.slice A n c) b) (hb : ∀ x ∈ b, x < 256) (h : 24 ≤ n) (hno : ¬ HeadOk b) :
    Calls Try.prog 89 #[.slice A n c] w fun e w' => e = .returned (.tuple #[.agg #[.int .u64 0, .int .u32 0, .bool false, .slice none 0 0], .int .i64 0, .int .i64 3]) ∧ Below w.heap.size w w' := by
  obtain ⟨hn, h1, h2⟩ := isB_len hA
  obtain ⟨g, off, rfl⟩ := isB_at hA (by omega)
  have hlt : g < w.heap.size := by
    obtain ⟨b', o', e, hc⟩ := hA.rd (by intro e; rw [e] at hn; simp at hn; omega)
    cases e
    exact cell_lt (hc 0 (by omega))
  obtain ⟨H, hH⟩ : ∃ H, H = b.take 24 := ⟨_, rfl⟩
  have hHl : H.length = 24 := by rw [hH, List.length_take]; omega
  have HHB : Hid (∀ x ∈ H, x < 256) := hide (fun x hx => hb x (List.mem_of_mem_take (by rw [← hH]; exact hx)))
  have hdec : decide (HeadOk H) = false := by rw [decide_eq_false_iff_not, hH, (head_take (by omega)).2.2.2.2]; exact hno
  have kw := below_alloc w (.cells #[.int .u64 0, .int .u32 0, .bool false, .slice none 0 0] 35)
  have an := ans_new w
  have HI := hide ((hA.take 24 (by omega)).keep kw)
  have HE := hide (And.intro hH (And.intro hHl hdec))
  have KW := hide kw
  have AN := hide an
  clear hA hb hno hn hH hHl hdec kw an
  have hat : ∀ w : World, (Instr.arrayAt 141 (.slice (some ⟨g, off, none⟩) 24 c)).run Try.prog w = .ok (.pointer (some ⟨g, off, none⟩)) w := fun w => run_arrayAt w 141 _ 24 _ 24 c Try.underlying141 (Nat.le_refl _)
  go_enter Try.func89, Try.ntmps89
  go_wp2_with (with_reducible refine halt_load 141 _ rfl ?_)
  refine ⟨?_⟩
  refine wpList_load_cells rfl 141 (.tmp 18) rfl ⟨g, off, none⟩ rfl (u8s H) _ (by have := HI.out; rw [← HE.out.1] at this; exact this.cellsAt) Try.underlying141 rfl (by rw [Try.info_head, u8s_len, HE.out.2.1]) ?_
  obtain ⟨W, hW⟩ : ∃ W, W = w.alloc (.cells #[.int .u64 0, .int .u32 0, .bool false, .slice none 0 0] 35) := ⟨_, rfl⟩
  rw [← hW] at AN KW ⊢
  obtain ⟨b0, hb0⟩ : ∃ b0, b0 = w.heap.size := ⟨_, rfl⟩
  rw [← hb0] at AN ⊢
  have LT : Hid (b0 < W.heap.size) := hide (by rw [hW, hb0]; simp)
  have HB0 := hide hb0
  clear hW hb0
  go_wp2_with fail
  refine (ndread_any H W HE.out.2.1 HHB.out).mono ?_
  rw [HE.out.2.2]
  rintro e w1 ⟨rk, rc, rd, rl, q, rfl, rfl, _, k1⟩
  have AN1 := hide (AN.out.keep k1)
  have K1 : Hid (Below b0 w w1) := hide (by have h9 := KW.out; rw [← HB0.out] at h9; exact h9.trans (k1.mono (Nat.le_of_lt LT.out)))
  clear k1
  have a0 := AN1.out.cell 0
  have a1 := AN1.out.cell 1
  have a2 := AN1.out.cell 2
  have a3 := AN1.out.cell 3
  have g0 := AN1.out.frozen 0
  have g1 := AN1.out.frozen 1
  have g2 := AN1.out.frozen 2
  have g3 := AN1.out.frozen 3
  dsimp only [List.getElem?_cons_succ, List.getElem?_cons_zero] at a0 a1 a2 a3
  have hlt1 : b0 < w1.heap.size := AN1.out.lt
  go_wp2_with fail
  generalize hX : ((((w1.setCell ⟨b0, 0, none⟩ (.int .u64 0)).setCell ⟨b0, 1, none⟩ (.int .u32 0)).setCell ⟨b0, 2, none⟩ (.bool false)).setCell ⟨b0, 3, none⟩ (.slice none 0 0)).alloc (.cells #[.int .u64 (rk : Int), .int .u32 (rc : Int), .bool rd, .slice none 0 0] 35) = X
  obtain ⟨⟨q0, q1, q2, q3⟩, kx⟩ := ans_end AN1.out (.int .u64 0) (.int .u32 0) (.bool false) (.slice none 0 0) (.cells #[.int .u64 (rk : Int), .int .u32 (rc : Int), .bool rd, .slice none 0 0] 35) X hX.symm
  refine bodyPost_ret (v := .tuple #[.agg #[.int .u64 0, .int .u32 0, .bool false, .slice none 0 0], .int .i64 0, .int .i64 3]) (by simp [results, Try.results89, go_sem, q0, q1, q2, q3]) rfl ⟨rfl, by have := K1.out.trans kx; rwa [HB0.out] at this⟩
set_option maxRecDepth 100000 in
set_option maxHeartbeats 3200000 in
theorem nddec_short2 (A : Option Addr) (n c : Nat) (b : List Nat) (w : World) (hA : IsB w (.slice A n c) b) (hb : ∀ x ∈ b, x < 256) (h : 24 ≤ n) (hok : HeadOk b) (hsz : n < ndSize (hLen b)) :
    Calls Try.prog 89 #[.slice A n c] w fun e w' => e = .returned (.tuple #[.agg #[.int .u64 0, .int .u32 0, .bool false, .slice none 0 0], .int .i64 0, .int .i64 2]) ∧ Below w.heap.size w w' := by
  have HSZ := hide hsz
  clear hsz
  obtain ⟨hn, h1, h2⟩ := isB_len hA
  obtain ⟨g, off, rfl⟩ := isB_at hA (by omega)
  have hlt : g < w.heap.size := by
    obtain ⟨b', o', e, hc⟩ := hA.rd (by intro e; rw [e] at hn; simp at hn; omega)
    cases e
    exact cell_lt (hc 0 (by omega))
  obtain ⟨H, hH⟩ : ∃ H, H = b.take 24 := ⟨_, rfl⟩
  have hHl : H.length = 24 := by rw [hH, List.length_take]; omega
  have HHB : Hid (∀ x ∈ H, x < 256) := hide (fun x hx => hb x (List.mem_of_mem_take (by rw [← hH]; exact hx)))
  have hdec : decide (HeadOk H) = true := by rw [decide_eq_true_iff, hH, (head_take (by omega)).2.2.2.2]; exact hok
  have kw := below_alloc w (.cells #[.int .u64 0, .int .u32 0, .bool false, .slice none 0 0] 35)
  have an := ans_new w
  have HI := hide ((hA.take 24 (by omega)).keep kw)
  have HE := hide (And.intro hH (And.intro hHl hdec))
  have KW := hide kw
  have AN := hide an
  have HT : Hid (hKey H = hKey b ∧ hCook H = hCook b ∧ hDead H = hDead b ∧ hLen H = hLen b) := hide (by rw [hH]; have := head_take (b := b) (by omega); exact ⟨this.1, this.2.1, this.2.2.1, this.2.2.2.1⟩)
  have hlen := hok.1
  obtain ⟨ln, hln⟩ : ∃ l, l = hLen b := ⟨_, rfl⟩
  rw [← hln] at hlen HSZ
  have HLN := hide hln
  have HA := hide hA
  have HBB := hide hb
  have HN := hide hn
  clear hA hb hok hn hH hHl hdec kw an hln
  have hat : ∀ w : World, (Instr.arrayAt 141 (.slice (some ⟨g, off, none⟩) 24 c)).run Try.prog w = .ok (.pointer (some ⟨g, off, none⟩)) w := fun w => run_arrayAt w 141 _ 24 _ 24 c Try.underlying141 (Nat.le_refl _)
  go_enter Try.func89, Try.ntmps89
  go_wp2_with (with_reducible refine halt_load 141 _ rfl ?_)
  refine ⟨?_⟩
  refine wpList_load_cells rfl 141 (.tmp 18) rfl ⟨g, off, none⟩ rfl (u8s H) _ (by have := HI.out; rw [← HE.out.1] at this; exact this.cellsAt) Try.underlying141 rfl (by rw [Try.info_head, u8s_len, HE.out.2.1]) ?_
  obtain ⟨W, hW⟩ : ∃ W, W = w.alloc (.cells #[.int .u64 0, .int .u32 0, .bool false, .slice none 0 0] 35) := ⟨_, rfl⟩
  rw [← hW] at AN KW ⊢
  obtain ⟨b0, hb0⟩ : ∃ b0, b0 = w.heap.size := ⟨_, rfl⟩
  rw [← hb0] at AN ⊢
  have LT : Hid (b0 < W.heap.size) := hide (by rw [hW, hb0]; simp)
  have HB0 := hide hb0
  clear hW hb0
  go_wp2_with fail
  refine (ndread_any H W HE.out.2.1 HHB.out).mono ?_
  rw [HE.out.2.2]
  rintro e w1 ⟨rk, rc, rd, rl, q, rfl, rfl, hf, k1⟩
  have hrl : rl = ln := by rw [HLN.out, (hf rfl).2.2.2, HT.out.2.2.2]
  have HF : Hid (rk = hKey b ∧ rc = hCook b ∧ rd = hDead b) := hide (by obtain ⟨f1, f2, f3, _⟩ := hf rfl; exact ⟨by rw [f1, HT.out.1], by rw [f2, HT.out.2.1], by rw [f3, HT.out.2.2.1]⟩)
  subst hrl
  clear hf
  have AN1 := hide (AN.out.keep k1)
  have K1 : Hid (Below b0 w w1) := hide (by have h9 := KW.out; rw [← HB0.out] at h9; exact h9.trans (k1.mono (Nat.le_of_lt LT.out)))
  clear k1
  have a0 := AN1.out.cell 0
  have a1 := AN1.out.cell 1
  have a2 := AN1.out.cell 2
  have a3 := AN1.out.cell 3
  have g0 := AN1.out.frozen 0
  have g1 := AN1.out.frozen 1
  have g2 := AN1.out.frozen 2
  have g3 := AN1.out.frozen 3
  dsimp only [List.getElem?_cons_succ, List.getElem?_cons_zero] at a0 a1 a2 a3
  have hlt1 : b0 < w1.heap.size := AN1.out.lt
  go_wp2_with fail
  refine (ndsize_any _ _ (by omega) (by omega)).mono ?_
  rintro e w9 ⟨rfl, rfl⟩
  rw [Int.toNat_natCast]
  have hs := HSZ.out
  obtain ⟨m, hm⟩ : ∃ m, m = ndSize rl := ⟨_, rfl⟩
  rw [← hm] at hs ⊢
  clear hm
  go_wp2_with fail
  generalize hX : ((((w1.setCell ⟨b0, 0, none⟩ (.int .u64 0)).setCell ⟨b0, 1, none⟩ (.int .u32 0)).setCell ⟨b0, 2, none⟩ (.bool false)).setCell ⟨b0, 3, none⟩ (.slice none 0 0)).alloc (.cells #[.int .u64 (rk : Int), .int .u32 (rc : Int), .bool rd, .slice none 0 0] 35) = X
  obtain ⟨⟨q0, q1, q2, q3⟩, kx⟩ := ans_end AN1.out (.int .u64 0) (.int .u32 0) (.bool false) (.slice none 0 0) (.cells #[.int .u64 (rk : Int), .int .u32 (rc : Int), .bool rd, .slice none 0 0] 35) X hX.symm
  refine bodyPost_ret (v := .tuple #[.agg #[.int .u64 0, .int .u32 0, .bool false, .slice none 0 0], .int .i64 0, .int .i64 2]) (by simp [results, Try.results89, go_sem, q0, q1, q2, q3]) rfl ⟨rfl, by have := K1.out.trans kx; rwa [HB0.out] at this⟩
set_option maxRecDepth 100000 in
set_option maxHeartbeats 3200000 in
theorem nddec_rest (A : Option Addr) (n c : Nat) (b : List Nat) (w : World) (hA : IsB w (.slice A n c) b) (hb : ∀ x ∈ b, x < 256) (h : 24 ≤ n) (hok : HeadOk b) (hsz : ndSize (hLen b) ≤ n) (hlim : n ≤ 549755813888) (t : Bool) (ht : t = decide (TailOk b)) :
    Calls Try.prog 89 #[.slice A n c] w fun e w' => ∃ s, e = .returned (.tuple #[.agg #[.int .u64 (hKey b : Nat), .int .u32 (hCook b : Nat), .bool (hDead b), s], .int .i64 (ndSize (hLen b) : Nat), .int .i64 (if t then 0 else 4)]) ∧ Own w' w.heap.size s (if t then (b.drop 24).take (hLen b) else []) ∧ Below w.heap.size w w' := by
  have HSZ := hide hsz
  have HTT := hide ht
  clear hsz ht
  obtain ⟨hn, h1, h2⟩ := isB_len hA
  obtain ⟨g, off, rfl⟩ := isB_at hA (by omega)
  have hlt : g < w.heap.size := by
    obtain ⟨b', o', e, hc⟩ := hA.rd (by intro e; rw [e] at hn; simp at hn; omega)
    cases e
    exact cell_lt (hc 0 (by omega))
  obtain ⟨H, hH⟩ : ∃ H, H = b.take 24 := ⟨_, rfl⟩
  have hHl : H.length = 24 := by rw [hH, List.length_take]; omega
  have HHB : Hid (∀ x ∈ H, x < 256) := hide (fun x hx => hb x (List.mem_of_mem_take (by rw [← hH]; exact hx)))
  have hdec : decide (HeadOk H) = true := by rw [decide_eq_true_iff, hH, (head_take (by omega)).2.2.2.2]; exact hok
  have kw := below_alloc w (.cells #[.int .u64 0, .int .u32 0, .bool false, .slice none 0 0] 35)
  have an := ans_new w
  have HI := hide ((hA.take 24 (by omega)).keep kw)
  have HE := hide (And.intro hH (And.intro hHl hdec))
  have KW := hide kw
  have AN := hide an
  have HT : Hid (hKey H = hKey b ∧ hCook H = hCook b ∧ hDead H = hDead b ∧ hLen H = hLen b) := hide (by rw [hH]; have := head_take (b := b) (by omega); exact ⟨this.1, this.2.1, this.2.2.1, this.2.2.2.1⟩)
  have hlen := hok.1
  obtain ⟨ln, hln⟩ : ∃ l, l = hLen b := ⟨_, rfl⟩
  rw [← hln] at hlen HSZ
  have HLN := hide hln
  have HA := hide hA
  have HBB := hide hb
  have HN := hide hn
  clear hA hb hok hn hH hHl hdec kw an hln
  have hat : ∀ w : World, (Instr.arrayAt 141 (.slice (some ⟨g, off, none⟩) 24 c)).run Try.prog w = .ok (.pointer (some ⟨g, off, none⟩)) w := fun w => run_arrayAt w 141 _ 24 _ 24 c Try.underlying141 (Nat.le_refl _)
  go_enter Try.func89, Try.ntmps89
  go_wp2_with (with_reducible refine halt_load 141 _ rfl ?_)
  refine ⟨?_⟩
  refine wpList_load_cells rfl 141 (.tmp 18) rfl ⟨g, off, none⟩ rfl (u8s H) _ (by have := HI.out; rw [← HE.out.1] at this; exact this.cellsAt) Try.underlying141 rfl (by rw [Try.info_head, u8s_len, HE.out.2.1]) ?_
  obtain ⟨W, hW⟩ : ∃ W, W = w.alloc (.cells #[.int .u64 0, .int .u32 0, .bool false, .slice none 0 0] 35) := ⟨_, rfl⟩
  rw [← hW] at AN KW ⊢
  obtain ⟨b0, hb0⟩ : ∃ b0, b0 = w.heap.size := ⟨_, rfl⟩
  rw [← hb0] at AN ⊢
  have LT : Hid (b0 < W.heap.size) := hide (by rw [hW, hb0]; simp)
  have HB0 := hide hb0
  clear hW hb0
  go_wp2_with fail
  refine (ndread_any H W HE.out.2.1 HHB.out).mono ?_
  rw [HE.out.2.2]
  rintro e w1 ⟨rk, rc, rd, rl, q, rfl, rfl, hf, k1⟩
  have hrl : rl = ln := by rw [HLN.out, (hf rfl).2.2.2, HT.out.2.2.2]
  have HF : Hid (rk = hKey b ∧ rc = hCook b ∧ rd = hDead b) := hide (by obtain ⟨f1, f2, f3, _⟩ := hf rfl; exact ⟨by rw [f1, HT.out.1], by rw [f2, HT.out.2.1], by rw [f3, HT.out.2.2.1]⟩)
  subst hrl
  clear hf
  have AN1 := hide (AN.out.keep k1)
  have K1 : Hid (Below b0 w w1) := hide (by have h9 := KW.out; rw [← HB0.out] at h9; exact h9.trans (k1.mono (Nat.le_of_lt LT.out)))
  clear k1
  have kn := below_alloc w1 (.cells #[.int .u64 (rk : Int), .int .u32 (rc : Int), .bool rd, .slice none 0 0] 35)
  have NB := Blk.new w1 35 #[.int .u64 (rk : Int), .int .u32 (rc : Int), .bool rd, .slice none 0 0] (Nat.le_refl w1.heap.size)
  have AN2 := hide (AN1.out.keep kn)
  have K2 : Hid (Below b0 w (w1.alloc (.cells #[.int .u64 (rk : Int), .int .u32 (rc : Int), .bool rd, .slice none 0 0] 35))) := hide (K1.out.trans (kn.mono (Nat.le_of_lt AN1.out.lt)))
  go_wp2_with fail
  generalize w1.alloc (.cells #[.int .u64 (rk : Int), .int .u32 (rc : Int), .bool rd, .slice none 0 0] 35) = V at NB AN2 K2 ⊢
  have hb5 : b0 < w1.heap.size := AN1.out.lt
  generalize w1.heap.size = b5 at NB hb5 ⊢
  have NB2 := hide NB
  clear NB kn
  refine (ndsize_any _ _ (by omega) (by omega)).mono ?_
  rintro e w9 ⟨rfl, rfl⟩
  rw [Int.toNat_natCast]
  have hs := HSZ.out
  have hg := ndSize_ge rl hlen
  obtain ⟨m, hm⟩ : ∃ m, m = ndSize rl := ⟨_, rfl⟩
  rw [← hm] at hs hg ⊢
  have HM := hide hm
  clear hm
  have hc24 : ¬ (c = 24) := by omega
  obtain ⟨p, hp⟩ : ∃ p : Nat, p = 24 + rl := ⟨_, rfl⟩
  have hpz : (24 : Int) + (rl : Int) = (p : Int) := by omega
  have hpc : ¬ (c = p) := by omega
  have hp2 : p ≤ m ∧ 24 ≤ p ∧ p - 24 = rl ∧ m - p ≤ 12 ∧ p ≤ c ∧ m ≤ c := by omega
  obtain ⟨hp3, hp4, hp5, hp6, hp7, hp8⟩ := hp2
  have HP := hide hp
  clear hp
  go_wp2_with fail
  go_quiet (fail)
  go_wp2_with fail
  obtain ⟨data, hdata⟩ : ∃ d, d = (b.drop 24).take rl := ⟨_, rfl⟩
  obtain ⟨tl, htl⟩ : ∃ d, d = (b.drop p).take (m - p) := ⟨_, rfl⟩
  have kV : Below w.heap.size w (V.drewN nq) := by have h9 := K2.out; rw [HB0.out] at h9; exact below_drewN h9 nq
  have ID : IsB (V.drewN nq) (.slice (some ⟨g, off + 24, none⟩) rl (c - 24)) data := by
    have h9 := (isB_drop (HA.out.keep kV) 24 (n - 24) (c - 24) rfl rfl (by omega)).take rl (by omega)
    rwa [← hdata] at h9
  have IT : IsB (V.drewN nq) (.slice (some ⟨g, off + p, none⟩) (m - p) (c - p)) tl := by
    have h9 := (isB_drop (HA.out.keep kV) p (n - p) (c - p) rfl rfl (by omega)).take (m - p) (by omega)
    rwa [← htl] at h9
  have hbd : ∀ x ∈ data, x < 256 := fun x hx => HBB.out x (List.mem_of_mem_drop (List.mem_of_mem_take (by rw [← hdata]; exact hx)))
  have hbt : ∀ x ∈ tl, x < 256 := fun x hx => HBB.out x (List.mem_of_mem_drop (List.mem_of_mem_take (by rw [← htl]; exact hx)))
  have hdl : data.length = rl := by rw [hdata, List.length_take, List.length_drop, HN.out]; omega
  have htd : t = decide (tl = ndTail data) := by
    rw [HTT.out, decide_eq_decide]
    unfold TailOk
    rw [← HLN.out, ← HM.out, ← hdata, htl, HP.out, show m - 24 - rl = m - (24 + rl) by omega]
  have hnt : (ndTail data).length = m - p := by rw [ndTail_len _ (by rw [hdl]; exact hlen), hdl, ← HM.out, HP.out]; omega
  have DD := hide (And.intro hbd (And.intro hbt (And.intro hdl (And.intro htd hnt))))
  have HDT := hide hdata
  have ID := hide ID
  have IT := hide IT
  have KV := hide kV
  have VS : Hid ((V.drewN nq).heap.size = V.heap.size) := hide rfl
  have AN3 := hide (AN2.out.drewN nq)
  have NB3 := hide (NB2.out.drewN nq)
  clear hdata htl hbd hbt hdl htd hnt kV AN2 NB2
  generalize V.drewN nq = V2 at *
  refine (tail_any _ rl _ data _ ID.out DD.out.2.2.1 DD.out.1 hlen).mono ?_
  rintro e w3 ⟨s3, rfl, o3, k3⟩
  obtain ⟨A3, c3, rfl, i3, _, _⟩ := o3.isB.form (n := m - p) DD.out.2.2.2.2
  have I3 := hide i3
  have IT3 := hide (IT.out.keep k3)
  have ID3 := hide (ID.out.keep k3)
  have AN4 := hide (AN3.out.keep k3)
  have NB4 := hide (NB3.out.keep k3)
  have K3 := hide (below_step KV.out k3)
  clear o3 i3 k3 ID IT AN3 NB3
  go_wp2_with fail
  refine (bytesEqual_any _ _ _ _ _ _ tl (ndTail data) _ IT3.out I3.out DD.out.2.1 (ndTail_byte data)).mono ?_
  rw [← DD.out.2.2.2.1]
  rintro e w4 ⟨rfl, rfl⟩
  have hne : b0 ≠ b5 := by omega
  have hne2 : b5 ≠ b0 := by omega
  clear I3 IT3
  have a0 := AN4.out.cell 0
  have a1 := AN4.out.cell 1
  have a2 := AN4.out.cell 2
  have a3 := AN4.out.cell 3
  have g0 := AN4.out.frozen 0
  have g1 := AN4.out.frozen 1
  have g2 := AN4.out.frozen 2
  have g3 := AN4.out.frozen 3
  dsimp only [List.getElem?_cons_succ, List.getElem?_cons_zero] at a0 a1 a2 a3
  have x0 := NB4.out.cell 0
  have x1 := NB4.out.cell 1
  have x2 := NB4.out.cell 2
  have x3 := NB4.out.cell 3
  have y0 := NB4.out.frozen 0
  have y1 := NB4.out.frozen 1
  have y2 := NB4.out.frozen 2
  have y3 := NB4.out.frozen 3
  dsimp only [List.getElem?_cons_succ, List.getElem?_cons_zero] at x0 x1 x2 x3
  rcases t
  · have hput := put4_ AN4.out (.int .u64 (rk : Int)) (.int .u32 (rc : Int)) (.bool rd) (.slice none 0 0) _ rfl
    have HPU := hide hput
    clear hput
    go_wp2_with fail
    obtain ⟨hb9, _, _, kb9⟩ := HPU.out
    generalize (((w3.setCell ⟨b0, 0, none⟩ (.int .u64 (rk : Int))).setCell ⟨b0, 1, none⟩ (.int .u32 (rc : Int))).setCell ⟨b0, 2, none⟩ (.bool rd)).setCell ⟨b0, 3, none⟩ (.slice none 0 0) = X at hb9 kb9 ⊢
    have q0 := hb9.cell 0
    have q1 := hb9.cell 1
    have q2 := hb9.cell 2
    have q3 := hb9.cell 3
    dsimp only [List.getElem?_cons_succ, List.getElem?_cons_zero] at q0 q1 q2 q3
    obtain ⟨f1, f2, f3⟩ := HF.out
    rw [← f1, ← f2, ← f3, ← HLN.out, ← HM.out]
    refine bodyPost_ret (v := .tuple #[.agg #[.int .u64 (rk : Int), .int .u32 (rc : Int), .bool rd, .slice none 0 0], .int .i64 (m : Int), .int .i64 4]) (by simp [results, Try.results89, go_sem, q0, q1, q2, q3]) rfl ⟨_, rfl, World.ownsRow_nil _ _ _ _, ?_⟩
    exact K3.out.trans (by rw [← HB0.out]; exact kb9)
  · go_wp2_with (at_builtin; refine halt ?_)
    refine ⟨?_⟩
    have LW3 : Hid (w.heap.size ≤ w3.heap.size) := hide K3.out.size
    refine wpList_append_bytes rfl (.const (.slice none 0 0)) (.tmp 50) rfl w3.heap.size _ [] rfl (World.ownsRow_nil _ _ _ _) _ data rfl ID3.out (by rw [DD.out.2.2.1, List.length_nil]; omega) (Nat.le_refl _) ?_
    intro s5 w5 o5 k5
    rw [List.nil_append] at o5
    obtain ⟨A5, c5, rfl, i5, _, _⟩ := o5.isB.form (n := rl) DD.out.2.2.1
    have AN5 := hide (AN4.out.keep k5)
    have NB5 := hide (NB4.out.keep k5)
    have K5 := hide (below_step K3.out k5)
    have O5 := hide o5
    have hst := NB5.out.stored 3 (.slice A5 rl c5)
    have han := AN5.out.kept (grown_set w5 b5 3 (.slice A5 rl c5)) (by intro e; exact hne2 (Option.some.inj e))
    have hput := put4_ han (.int .u64 (rk : Int)) (.int .u32 (rc : Int)) (.bool rd) (.slice A5 rl c5) _ rfl
    have HPU := hide hput
    have LT5 : Hid (b0 < w3.heap.size ∧ b5 < w3.heap.size) := hide ⟨AN4.out.lt, NB4.out.lt⟩
    clear a0 a1 a2 a3 g0 g1 g2 g3 x0 x1 x2 x3 y0 y1 y2 y3 o5 i5 k5 hst han hput
    have a0 := AN5.out.cell 0
    have a1 := AN5.out.cell 1
    have a2 := AN5.out.cell 2
    have a3 := AN5.out.cell 3
    have g0 := AN5.out.frozen 0
    have g1 := AN5.out.frozen 1
    have g2 := AN5.out.frozen 2
    have g3 := AN5.out.frozen 3
    dsimp only [List.getElem?_cons_succ, List.getElem?_cons_zero] at a0 a1 a2 a3
    have x0 := NB5.out.cell 0
    have x1 := NB5.out.cell 1
    have x2 := NB5.out.cell 2
    have x3 := NB5.out.cell 3
    have y0 := NB5.out.frozen 0
    have y1 := NB5.out.frozen 1
    have y2 := NB5.out.frozen 2
    have y3 := NB5.out.frozen 3
    dsimp only [List.getElem?_cons_succ, List.getElem?_cons_zero] at x0 x1 x2 x3
    go_wp2_with fail
    obtain ⟨hb9, hh9, _, kb9⟩ := HPU.out
    generalize (((((w5.setCell ⟨b5, 3, none⟩ (.slice A5 rl c5)).setCell ⟨b0, 0, none⟩ (.int .u64 (rk : Int))).setCell ⟨b0, 1, none⟩ (.int .u32 (rc : Int))).setCell ⟨b0, 2, none⟩ (.bool rd)).setCell ⟨b0, 3, none⟩ (.slice A5 rl c5)) = X at hb9 hh9 kb9 ⊢
    have kB5 : Below b0 w5 (w5.setCell ⟨b5, 3, none⟩ (.slice A5 rl c5)) := by
      have h0 : Below b0 w5 w5 := Below.refl _ _
      have hle : b0 ≤ (⟨b5, 3, none⟩ : Addr).block := Nat.le_of_lt hb5
      exact h0.setCell hle _
    have kAll := kB5.trans kb9
    have ho : Own X w.heap.size (.slice A5 rl c5) data := by
      have tt : Turn (fun k => k = b0 ∨ k = b5) w5 X := ⟨kAll.os, kAll.tape, kAll.output, kAll.size, fun k _ hn => by
        rw [hh9 k (fun e => hn (.inl e))]
        exact heap_setCell_other w5 ⟨b5, 3, none⟩ k _ (fun e => hn (.inr (by simp at e; exact e)))⟩
      have h9 := O5.out.turn tt (fun q hq hS => by
        have := O5.out.lt q hq
        have h8 := LT5.out
        rcases hS with rfl | rfl <;> omega)
      exact h9.more LW3.out
    have q0 := hb9.cell 0
    have q1 := hb9.cell 1
    have q2 := hb9.cell 2
    have q3 := hb9.cell 3
    dsimp only [List.getElem?_cons_succ, List.getElem?_cons_zero] at q0 q1 q2 q3
    obtain ⟨f1, f2, f3⟩ := HF.out
    rw [← f1, ← f2, ← f3, ← HLN.out, ← HM.out]
    refine bodyPost_ret (v := .tuple #[.agg #[.int .u64 (rk : Int), .int .u32 (rc : Int), .bool rd, .slice A5 rl c5], .int .i64 (m : Int), .int .i64 0]) (by simp [results, Try.results89, go_sem, q0, q1, q2, q3]) rfl ⟨_, rfl, ?_, ?_⟩
    · rw [← HDT.out]
      exact ho
    · exact K5.out.trans (by rw [← HB0.out]; exact kAll)
end Go.Proofs.Ytehgjkckhjggbaa
namespace Go.Proofs.Ytehgjkckhjggbaa
open Go.RowKit
/-- What Decode answers. -/
def DecAns (w : World) (r : (Nat × Nat × Bool × List Nat) × Nat × Nat) (e : Ending) (w' : World) : Prop :=
  ∃ s, e = .returned (.tuple #[.agg #[.int .u64 (r.1.1 : Int), .int .u32 (r.1.2.1 : Int), .bool r.1.2.2.1, s], .int .i64 (r.2.1 : Int), .int .i64 (r.2.2 : Int)]) ∧ Own w' w.heap.size s r.1.2.2.2 ∧ Below w.heap.size w w'
theorem decAns_mk {w w' : World} (k c : Nat) (d : Bool) (xs : List Nat) (n er : Nat) (s : Value) (o : Own w' w.heap.size s xs) (h : Below w.heap.size w w') : DecAns w ((k, c, d, xs), n, er) (.returned (.tuple #[.agg #[.int .u64 (k : Int), .int .u32 (c : Int), .bool d, s], .int .i64 (n : Int), .int .i64 (er : Int)])) w' := ⟨s, rfl, o, h⟩
theorem nddec_any (A : Option Addr) (n c : Nat) (b : List Nat) (w : World) (hA : IsB w (.slice A n c) b) (hb : ∀ x ∈ b, x < 256) (hlim : n ≤ 549755813888) :
    Calls Try.prog 89 #[.slice A n c] w fun e w' => DecAns w (ndDec b) e w' := by
  obtain ⟨hn, h1, h2⟩ := isB_len hA
  by_cases h24 : n < 24
  · rw [ndDec_short (by omega)]
    refine (nddec_short A n c w h24).mono ?_
    rintro e w' ⟨rfl, k⟩
    exact decAns_mk 0 0 false [] 0 2 _ (World.ownsRow_nil _ _ _ _) k
  · by_cases hok : HeadOk b
    · by_cases hs : n < ndSize (hLen b)
      · rw [ndDec_short2 (by omega) hok (by omega)]
        refine (nddec_short2 A n c b w hA hb (by omega) hok hs).mono ?_
        rintro e w' ⟨rfl, k⟩
        exact decAns_mk 0 0 false [] 0 2 _ (World.ownsRow_nil _ _ _ _) k
      · by_cases ht : TailOk b
        · rw [ndDec_ok (by omega) hok (by omega) ht]
          refine (nddec_rest A n c b w hA hb (by omega) hok (by omega) hlim true (decide_eq_true ht).symm).mono ?_
          rintro e w' ⟨s, rfl, o, k⟩
          rw [if_pos rfl] at o ⊢
          exact decAns_mk _ _ _ _ _ 0 s o k
        · rw [ndDec_sum (by omega) hok (by omega) ht]
          refine (nddec_rest A n c b w hA hb (by omega) hok (by omega) hlim false (decide_eq_false ht).symm).mono ?_
          rintro e w' ⟨s, rfl, o, k⟩
          rw [if_neg (by decide)] at o ⊢
          exact decAns_mk _ _ _ _ _ 4 s o k
    · rw [ndDec_form (by omega) hok]
      refine (nddec_form A n c b w hA hb (by omega) hok).mono ?_
      rintro e w' ⟨rfl, k⟩
      exact decAns_mk 0 0 false [] 0 3 _ (World.ownsRow_nil _ _ _ _) k
end Go.Proofs.Ytehgjkckhjggbaa
