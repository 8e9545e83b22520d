/- The walk of RaftOld: a message of an older term changes nothing, and is answered with the newer one, if it asks. No condition. -/
import Derived.Test.YtejhoefmcldpnaaGreatRk43
namespace Go.Proofs.YtejhoefmcldpnaaGreat
open Go.RowKit Go.Maps
theorem draft_fits {room : Nat} {p : List Nat} (hp : p.length ≤ 1000) (hr : 10000 ≤ room) : (draftL room termK p []).2 = 0 := by
  have hl : (tildeL termK).length = 5 := rfl
  have hu : usedL ([] : DiskL) = 0 := rfl
  have hf : (frameL p).length = 8 + p.length := frame_len p
  have e : (remL (tildeL termK) ([] : DiskL)).1 = [] := rfl
  unfold draftL
  rw [e]
  unfold appL
  rw [if_neg (by rw [hl]; omega), if_neg (by rw [hu, hf]; simp; omega)]
theorem o_nums {x y : Nat} (h1 : x < 18446744073709551616) (h2 : y < 18446744073709551616) : (numsL [x, y]).length ≤ 20 := by
  have := numsL_len [x, y] (by intro z hz; simp at hz; omega)
  exact this
def wM0 : LogL := ⟨[], 1, []⟩
theorem o_term0 : TermE wM0 0 0 := .inr ⟨rfl, 7, rfl⟩
/-- The node behind the leader's message. -/
def oN (draw : Int) (t1 : Nat) : Nd := ⟨0, 3, t1, -1, 0, 1, 0, 0, waitOf draw, 0, noPeers⟩
theorem nums_two (w : World) (cs : Array Value) (zs : List Int) (h : cs.toList = zs.map fun z : Int => Value.int .i64 z) : NumsAt (w.alloc (.cells cs 3)) w.heap.size zs := build_nums w cs zs h
set_option maxRecDepth 100000 in
set_option maxHeartbeats 6400000 in
theorem raftOld_ok1 (tm od : Nat) (draw : Int) (W : World) (h1 : 2 ≤ tm) (h2 : tm ≤ 1073741824) (h3 : od < tm) :
    Calls Tryz.prog 6 #[.int .i64 1, .int .i64 (tm : Int), .int .i64 (od : Int), .int .i64 draw] W fun e w' => e = .returned (.bool true) ∧ Below W.heap.size W w' := by
  have hz1 : ¬ (tm : Int) < 2 := by omega
  have hz2 : ¬ (1073741824 : Int) < (tm : Int) := by omega
  have hz3 : ¬ (od : Int) < 0 := by omega
  have hz4 : ¬ (tm : Int) ≤ (od : Int) := by omega
  go_enter Tryz.func6, Tryz.ntmps6
  go_wp2_with fail
  refine (new_any 1048576 W (by decide)).mono ?_
  rintro e w1 ⟨d, F1, rfl, d1, l1, k1⟩
  have D1 := hide d1
  have K1 := hide k1
  have L1 := hide l1
  clear d1 l1 k1
  go_wp2_with fail
  have hop := ropen_any F1 d 1048576 [] 0 3 0 0 draw w1 D1.out (.inr (.inl rfl)) (by decide) k_term (by decide) (Nat.zero_le _) rfl (by rw [k_open.1]; exact k_all)
  rw [k_open.1, k_open.2] at hop
  refine Calls.mono (show Calls Tryz.prog 10 #[.int .i64 0, .int .i64 3, .pointer (some ⟨d, 0, none⟩), .int .i64 draw] w1 _ from hop) ?_
  rintro e w2 ⟨r, l, rfl, S2, h2', n2⟩
  have H2 := hide (show NdS w2 S2 r d l 1048576 (ndNew 0 3 0 0 draw) wM0 [] from h2')
  have K2 := hide (K1.out.trans (n2.below K1.out.size L1.out))
  have HS2 := hide (n2.up K1.out.size L1.out)
  clear h2' n2 hop
  go_wp2_with fail
  have kb := below_alloc w2 (.cells #[.int .i64 (tm : Int), .int .i64 0, .int .i64 0, .int .i64 0] 3)
  have hlow := H2.out.low
  have HR := hide (hear_new (H2.out.below kb) 1 0 draw w2.heap.size 4 tm (tm : Int) 0 0 0 (Nat.le_refl _) (build_nums w2 #[.int .i64 (tm : Int), .int .i64 0, .int .i64 0, .int .i64 0] [(tm : Int), 0, 0, 0] rfl) (fun hs => by have := hlow _ hs; omega) (by intro z hz; simp at hz; omega) rfl (by show (1 : Int) ≠ 0; decide) (by decide) (by show (1 : Int) < 3; decide) (.inr (.inr (.inl ⟨rfl, rfl⟩))) (by show (0 : Int) < _; omega) rfl rfl rfl rfl (by omega) (draft_fits (Nat.le_trans (o_nums (by omega) (by omega)) (by decide)) (by decide)) rfl (Nat.le_refl _) (by decide) o_term0)
  have KB := hide kb
  clear kb hlow
  refine HR.out.mono ?_
  rintro e w3 ⟨v3, rfl, S3, h3', n3⟩
  have H3 := hide (show NdS w3 S3 r d l 1048576 (oN draw tm) wM0 (termP (numsL [tm, 0]) []) from h3')
  have K3 := hide ((K2.out.trans (KB.out.mono K2.out.size)).trans (n3.below (Nat.le_trans K2.out.size KB.out.size) HS2.out))
  clear h3' n3 HR
  go_wp2_with fail
  obtain ⟨A, hA⟩ : ∃ Z, Z = w3.alloc (.cells #[.int .i64 (od : Int), .int .i64 9, .int .i64 9] 3) := ⟨_, rfl⟩
  obtain ⟨B, hB⟩ : ∃ Z, Z = A.alloc (.cells #[.int .i64 (od : Int), .int .i64 1] 3) := ⟨_, rfl⟩
  obtain ⟨C, hC⟩ : ∃ Z, Z = B.alloc (.cells #[.int .i64 (od : Int), .int .i64 0, .int .i64 0, .int .i64 0] 3) := ⟨_, rfl⟩
  obtain ⟨E, hE⟩ : ∃ Z, Z = C.alloc (.cells #[.int .i64 (od : Int), .int .i64 1, .int .i64 0] 3) := ⟨_, rfl⟩
  have sA : w3.heap.size + 1 = A.heap.size := by rw [hA]; simp
  have sB : w3.heap.size + 1 + 1 = B.heap.size := by rw [hB, sA]; simp
  have sC : w3.heap.size + 1 + 1 + 1 = C.heap.size := by rw [hC, sB]; simp
  have kA : Below w3.heap.size w3 A := by rw [hA]; exact below_alloc _ _
  have kB : Below A.heap.size A B := by rw [hB]; exact below_alloc _ _
  have kC : Below B.heap.size B C := by rw [hC]; exact below_alloc _ _
  have kE : Below C.heap.size C E := by rw [hE]; exact below_alloc _ _
  have nA : NumsAt A w3.heap.size [(od : Int), 9, 9] := by rw [hA]; exact build_nums w3 _ _ rfl
  have nB : NumsAt B A.heap.size [(od : Int), 1] := by rw [hB]; exact build_nums A _ _ rfl
  have nC : NumsAt C B.heap.size [(od : Int), 0, 0, 0] := by rw [hC]; exact build_nums B _ _ rfl
  have nE : NumsAt E C.heap.size [(od : Int), 1, 0] := by rw [hE]; exact build_nums C _ _ rfl
  rw [← hA, ← hB, ← hC, ← hE, sC, sB, sA]
  have kF := below_alloc E (.cells #[.slice (some ⟨w3.heap.size, 0, none⟩) 3 3, .slice (some ⟨A.heap.size, 0, none⟩) 2 2, .slice (some ⟨B.heap.size, 0, none⟩) 4 4, .slice (some ⟨C.heap.size, 0, none⟩) 3 3] 31)
  have q1 : Below w3.heap.size w3 B := kA.trans (kB.mono kA.size)
  have q2 : Below w3.heap.size w3 C := q1.trans (kC.mono q1.size)
  have q3 : Below w3.heap.size w3 E := q2.trans (kE.mono q2.size)
  have q4 := q3.trans (kF.mono q3.size)
  have HF := H3.out.below q4
  have NF := ((((nA.keep kB).keep kC).keep kE).keep kF)
  have HE := hide (hear_old1 HF 2 0 draw w3.heap.size 3 (od : Int) 9 9 (Nat.le_refl _) NF (by intro z hz; simp at hz; omega) rfl (by show (2 : Int) ≠ 0; decide) (by decide) (by show (2 : Int) < 3; decide) (.inl ⟨rfl, rfl⟩) (by show (od : Int) < (tm : Int); omega))
  have K4 := hide (K3.out.trans (q4.mono K3.out.size))
  have HF := hide HF
  clear hA hB hC hE sA sB sC kA kB kC kE nA nB nC nE kF q1 q2 q3 q4 NF
  refine HE.out.mono ?_
  rintro e w5 ⟨v, ga, rfl, ⟨b, rfl, o0, o1, o2, o3, o4⟩, na, k5⟩
  have H5 := hide (HF.out.below k5)
  have K5 := hide (K4.out.trans (k5.mono K4.out.size))
  have O2 := hide o2
  have O3 := hide o3
  have NA := hide na
  clear o0 o1 o2 o3 o4 na k5 HE HF
  go_wp2_with fail
  refine (state_any H5.out).mono ?_
  rintro e w6 ⟨rfl, k6⟩
  have p2 := (k6.cell (cell_lt O2.out)).trans O2.out
  have p3 := (k6.cell (cell_lt O3.out)).trans O3.out
  have pn := NA.out.keep k6
  have p4 : w6.cell? ⟨ga, 0, none⟩ = some (.int .i64 (tm : Int)) := pn 0 (by simp)
  have p5 : w6.cell? ⟨ga, 1, none⟩ = some (.int .i64 0) := pn 1 (by simp)
  have K6 := hide (K5.out.trans (k6.mono K5.out.size))
  rw [show (oN draw tm).role = 0 from rfl, show (oN draw tm).term = tm from rfl, show (oN draw tm).lead = 1 from rfl]
  clear pn k6 H5 O2 O3 NA
  go_wp2_with fail
  refine (known_any _).mono ?_
  rintro e w7 ⟨rfl, k7⟩
  have K7 := hide (K6.out.trans (k7.mono K6.out.size))
  clear k7
  go_wp2_with fail
  go_ret
  exact ⟨rfl, K7.out⟩
set_option maxRecDepth 100000 in
set_option maxHeartbeats 6400000 in
theorem raftOld_ok2 (tm od : Nat) (draw : Int) (W : World) (h1 : 2 ≤ tm) (h2 : tm ≤ 1073741824) (h3 : od < tm) :
    Calls Tryz.prog 6 #[.int .i64 2, .int .i64 (tm : Int), .int .i64 (od : Int), .int .i64 draw] W fun e w' => e = .returned (.bool true) ∧ Below W.heap.size W w' := by
  have hz1 : ¬ (tm : Int) < 2 := by omega
  have hz2 : ¬ (1073741824 : Int) < (tm : Int) := by omega
  have hz3 : ¬ (od : Int) < 0 := by omega
  have hz4 : ¬ (tm : Int) ≤ (od : Int) := by omega
  go_enter Tryz.func6, Tryz.ntmps6
  go_wp2_with fail
  refine (new_any 1048576 W (by decide)).mono ?_
  rintro e w1 ⟨d, F1, rfl, d1, l1, k1⟩
  have D1 := hide d1
  have K1 := hide k1
  have L1 := hide l1
  clear d1 l1 k1
  go_wp2_with fail
  have hop := ropen_any F1 d 1048576 [] 0 3 0 0 draw w1 D1.out (.inr (.inl rfl)) (by decide) k_term (by decide) (Nat.zero_le _) rfl (by rw [k_open.1]; exact k_all)
  rw [k_open.1, k_open.2] at hop
  refine Calls.mono (show Calls Tryz.prog 10 #[.int .i64 0, .int .i64 3, .pointer (some ⟨d, 0, none⟩), .int .i64 draw] w1 _ from hop) ?_
  rintro e w2 ⟨r, l, rfl, S2, h2', n2⟩
  have H2 := hide (show NdS w2 S2 r d l 1048576 (ndNew 0 3 0 0 draw) wM0 [] from h2')
  have K2 := hide (K1.out.trans (n2.below K1.out.size L1.out))
  have HS2 := hide (n2.up K1.out.size L1.out)
  clear h2' n2 hop
  go_wp2_with fail
  have kb := below_alloc w2 (.cells #[.int .i64 (tm : Int), .int .i64 0, .int .i64 0, .int .i64 0] 3)
  have hlow := H2.out.low
  have HR := hide (hear_new (H2.out.below kb) 1 0 draw w2.heap.size 4 tm (tm : Int) 0 0 0 (Nat.le_refl _) (build_nums w2 #[.int .i64 (tm : Int), .int .i64 0, .int .i64 0, .int .i64 0] [(tm : Int), 0, 0, 0] rfl) (fun hs => by have := hlow _ hs; omega) (by intro z hz; simp at hz; omega) rfl (by show (1 : Int) ≠ 0; decide) (by decide) (by show (1 : Int) < 3; decide) (.inr (.inr (.inl ⟨rfl, rfl⟩))) (by show (0 : Int) < _; omega) rfl rfl rfl rfl (by omega) (draft_fits (Nat.le_trans (o_nums (by omega) (by omega)) (by decide)) (by decide)) rfl (Nat.le_refl _) (by decide) o_term0)
  have KB := hide kb
  clear kb hlow
  refine HR.out.mono ?_
  rintro e w3 ⟨v3, rfl, S3, h3', n3⟩
  have H3 := hide (show NdS w3 S3 r d l 1048576 (oN draw tm) wM0 (termP (numsL [tm, 0]) []) from h3')
  have K3 := hide ((K2.out.trans (KB.out.mono K2.out.size)).trans (n3.below (Nat.le_trans K2.out.size KB.out.size) HS2.out))
  clear h3' n3 HR
  go_wp2_with fail
  obtain ⟨A, hA⟩ : ∃ Z, Z = w3.alloc (.cells #[.int .i64 (od : Int), .int .i64 9, .int .i64 9] 3) := ⟨_, rfl⟩
  obtain ⟨B, hB⟩ : ∃ Z, Z = A.alloc (.cells #[.int .i64 (od : Int), .int .i64 1] 3) := ⟨_, rfl⟩
  obtain ⟨C, hC⟩ : ∃ Z, Z = B.alloc (.cells #[.int .i64 (od : Int), .int .i64 0, .int .i64 0, .int .i64 0] 3) := ⟨_, rfl⟩
  obtain ⟨E, hE⟩ : ∃ Z, Z = C.alloc (.cells #[.int .i64 (od : Int), .int .i64 1, .int .i64 0] 3) := ⟨_, rfl⟩
  have sA : w3.heap.size + 1 = A.heap.size := by rw [hA]; simp
  have sB : w3.heap.size + 1 + 1 = B.heap.size := by rw [hB, sA]; simp
  have sC : w3.heap.size + 1 + 1 + 1 = C.heap.size := by rw [hC, sB]; simp
  have kA : Below w3.heap.size w3 A := by rw [hA]; exact below_alloc _ _
  have kB : Below A.heap.size A B := by rw [hB]; exact below_alloc _ _
  have kC : Below B.heap.size B C := by rw [hC]; exact below_alloc _ _
  have kE : Below C.heap.size C E := by rw [hE]; exact below_alloc _ _
  have nA : NumsAt A w3.heap.size [(od : Int), 9, 9] := by rw [hA]; exact build_nums w3 _ _ rfl
  have nB : NumsAt B A.heap.size [(od : Int), 1] := by rw [hB]; exact build_nums A _ _ rfl
  have nC : NumsAt C B.heap.size [(od : Int), 0, 0, 0] := by rw [hC]; exact build_nums B _ _ rfl
  have nE : NumsAt E C.heap.size [(od : Int), 1, 0] := by rw [hE]; exact build_nums C _ _ rfl
  rw [← hA, ← hB, ← hC, ← hE, sC, sB, sA]
  have kF := below_alloc E (.cells #[.slice (some ⟨w3.heap.size, 0, none⟩) 3 3, .slice (some ⟨A.heap.size, 0, none⟩) 2 2, .slice (some ⟨B.heap.size, 0, none⟩) 4 4, .slice (some ⟨C.heap.size, 0, none⟩) 3 3] 31)
  have q1 : Below w3.heap.size w3 B := kA.trans (kB.mono kA.size)
  have q2 : Below w3.heap.size w3 C := q1.trans (kC.mono q1.size)
  have q3 : Below w3.heap.size w3 E := q2.trans (kE.mono q2.size)
  have q4 := q3.trans (kF.mono q3.size)
  have HF := H3.out.below q4
  have NF := (((nB.keep kC).keep kE).keep kF)
  have HE := hide (hear_old2 HF 2 0 draw A.heap.size 2 (od : Int) 1 (Nat.le_refl _) NF (by intro z hz; simp at hz; omega) rfl (by show (2 : Int) ≠ 0; decide) (by decide) (by show (2 : Int) < 3; decide) (.inr (.inl ⟨rfl, rfl, by show (1 : Int) ≤ 1; decide⟩)) (by show (od : Int) < (tm : Int); omega) rfl)
  have K4 := hide (K3.out.trans (q4.mono K3.out.size))
  have HF := hide HF
  clear hA hB hC hE sA sB sC kA kB kC kE nA nB nC nE kF q1 q2 q3 q4 NF
  refine HE.out.mono ?_
  rintro e w5 ⟨rfl, k5⟩
  have H5 := hide (HF.out.below k5)
  have K5 := hide (K4.out.trans (k5.mono K4.out.size))
  clear k5 HE HF
  go_wp2_with fail
  refine (state_any H5.out).mono ?_
  rintro e w6 ⟨rfl, k6⟩
  have K6 := hide (K5.out.trans (k6.mono K5.out.size))
  rw [show (oN draw tm).role = 0 from rfl, show (oN draw tm).term = tm from rfl, show (oN draw tm).lead = 1 from rfl]
  clear k6 H5
  go_wp2_with fail
  refine (known_any _).mono ?_
  rintro e w7 ⟨rfl, k7⟩
  have K7 := hide (K6.out.trans (k7.mono K6.out.size))
  clear k7
  go_wp2_with fail
  go_ret
  exact ⟨rfl, K7.out⟩
set_option maxRecDepth 100000 in
set_option maxHeartbeats 6400000 in
theorem raftOld_ok3 (tm od : Nat) (draw : Int) (W : World) (h1 : 2 ≤ tm) (h2 : tm ≤ 1073741824) (h3 : od < tm) :
    Calls Tryz.prog 6 #[.int .i64 3, .int .i64 (tm : Int), .int .i64 (od : Int), .int .i64 draw] W fun e w' => e = .returned (.bool true) ∧ Below W.heap.size W w' := by
  have hz1 : ¬ (tm : Int) < 2 := by omega
  have hz2 : ¬ (1073741824 : Int) < (tm : Int) := by omega
  have hz3 : ¬ (od : Int) < 0 := by omega
  have hz4 : ¬ (tm : Int) ≤ (od : Int) := by omega
  go_enter Tryz.func6, Tryz.ntmps6
  go_wp2_with fail
  refine (new_any 1048576 W (by decide)).mono ?_
  rintro e w1 ⟨d, F1, rfl, d1, l1, k1⟩
  have D1 := hide d1
  have K1 := hide k1
  have L1 := hide l1
  clear d1 l1 k1
  go_wp2_with fail
  have hop := ropen_any F1 d 1048576 [] 0 3 0 0 draw w1 D1.out (.inr (.inl rfl)) (by decide) k_term (by decide) (Nat.zero_le _) rfl (by rw [k_open.1]; exact k_all)
  rw [k_open.1, k_open.2] at hop
  refine Calls.mono (show Calls Tryz.prog 10 #[.int .i64 0, .int .i64 3, .pointer (some ⟨d, 0, none⟩), .int .i64 draw] w1 _ from hop) ?_
  rintro e w2 ⟨r, l, rfl, S2, h2', n2⟩
  have H2 := hide (show NdS w2 S2 r d l 1048576 (ndNew 0 3 0 0 draw) wM0 [] from h2')
  have K2 := hide (K1.out.trans (n2.below K1.out.size L1.out))
  have HS2 := hide (n2.up K1.out.size L1.out)
  clear h2' n2 hop
  go_wp2_with fail
  have kb := below_alloc w2 (.cells #[.int .i64 (tm : Int), .int .i64 0, .int .i64 0, .int .i64 0] 3)
  have hlow := H2.out.low
  have HR := hide (hear_new (H2.out.below kb) 1 0 draw w2.heap.size 4 tm (tm : Int) 0 0 0 (Nat.le_refl _) (build_nums w2 #[.int .i64 (tm : Int), .int .i64 0, .int .i64 0, .int .i64 0] [(tm : Int), 0, 0, 0] rfl) (fun hs => by have := hlow _ hs; omega) (by intro z hz; simp at hz; omega) rfl (by show (1 : Int) ≠ 0; decide) (by decide) (by show (1 : Int) < 3; decide) (.inr (.inr (.inl ⟨rfl, rfl⟩))) (by show (0 : Int) < _; omega) rfl rfl rfl rfl (by omega) (draft_fits (Nat.le_trans (o_nums (by omega) (by omega)) (by decide)) (by decide)) rfl (Nat.le_refl _) (by decide) o_term0)
  have KB := hide kb
  clear kb hlow
  refine HR.out.mono ?_
  rintro e w3 ⟨v3, rfl, S3, h3', n3⟩
  have H3 := hide (show NdS w3 S3 r d l 1048576 (oN draw tm) wM0 (termP (numsL [tm, 0]) []) from h3')
  have K3 := hide ((K2.out.trans (KB.out.mono K2.out.size)).trans (n3.below (Nat.le_trans K2.out.size KB.out.size) HS2.out))
  clear h3' n3 HR
  go_wp2_with fail
  obtain ⟨A, hA⟩ : ∃ Z, Z = w3.alloc (.cells #[.int .i64 (od : Int), .int .i64 9, .int .i64 9] 3) := ⟨_, rfl⟩
  obtain ⟨B, hB⟩ : ∃ Z, Z = A.alloc (.cells #[.int .i64 (od : Int), .int .i64 1] 3) := ⟨_, rfl⟩
  obtain ⟨C, hC⟩ : ∃ Z, Z = B.alloc (.cells #[.int .i64 (od : Int), .int .i64 0, .int .i64 0, .int .i64 0] 3) := ⟨_, rfl⟩
  obtain ⟨E, hE⟩ : ∃ Z, Z = C.alloc (.cells #[.int .i64 (od : Int), .int .i64 1, .int .i64 0] 3) := ⟨_, rfl⟩
  have sA : w3.heap.size + 1 = A.heap.size := by rw [hA]; simp
  have sB : w3.heap.size + 1 + 1 = B.heap.size := by rw [hB, sA]; simp
  have sC : w3.heap.size + 1 + 1 + 1 = C.heap.size := by rw [hC, sB]; simp
  have kA : Below w3.heap.size w3 A := by rw [hA]; exact below_alloc _ _
  have kB : Below A.heap.size A B := by rw [hB]; exact below_alloc _ _
  have kC : Below B.heap.size B C := by rw [hC]; exact below_alloc _ _
  have kE : Below C.heap.size C E := by rw [hE]; exact below_alloc _ _
  have nA : NumsAt A w3.heap.size [(od : Int), 9, 9] := by rw [hA]; exact build_nums w3 _ _ rfl
  have nB : NumsAt B A.heap.size [(od : Int), 1] := by rw [hB]; exact build_nums A _ _ rfl
  have nC : NumsAt C B.heap.size [(od : Int), 0, 0, 0] := by rw [hC]; exact build_nums B _ _ rfl
  have nE : NumsAt E C.heap.size [(od : Int), 1, 0] := by rw [hE]; exact build_nums C _ _ rfl
  rw [← hA, ← hB, ← hC, ← hE, sC, sB, sA]
  have kF := below_alloc E (.cells #[.slice (some ⟨w3.heap.size, 0, none⟩) 3 3, .slice (some ⟨A.heap.size, 0, none⟩) 2 2, .slice (some ⟨B.heap.size, 0, none⟩) 4 4, .slice (some ⟨C.heap.size, 0, none⟩) 3 3] 31)
  have q1 : Below w3.heap.size w3 B := kA.trans (kB.mono kA.size)
  have q2 : Below w3.heap.size w3 C := q1.trans (kC.mono q1.size)
  have q3 : Below w3.heap.size w3 E := q2.trans (kE.mono q2.size)
  have q4 := q3.trans (kF.mono q3.size)
  have HF := H3.out.below q4
  have NF := ((nC.keep kE).keep kF)
  have HE := hide (hear_old3 HF 2 0 draw B.heap.size 4 (od : Int) 0 0 0 (Nat.le_refl _) NF (by intro z hz; simp at hz; omega) rfl (by show (2 : Int) ≠ 0; decide) (by decide) (by show (2 : Int) < 3; decide) (.inr (.inr (.inl ⟨rfl, rfl⟩))) (by show (od : Int) < (tm : Int); omega))
  have K4 := hide (K3.out.trans (q4.mono K3.out.size))
  have HF := hide HF
  clear hA hB hC hE sA sB sC kA kB kC kE nA nB nC nE kF q1 q2 q3 q4 NF
  refine HE.out.mono ?_
  rintro e w5 ⟨v, ga, rfl, ⟨b, rfl, o0, o1, o2, o3, o4⟩, na, k5⟩
  have H5 := hide (HF.out.below k5)
  have K5 := hide (K4.out.trans (k5.mono K4.out.size))
  have O2 := hide o2
  have O3 := hide o3
  have NA := hide na
  clear o0 o1 o2 o3 o4 na k5 HE HF
  go_wp2_with fail
  refine (state_any H5.out).mono ?_
  rintro e w6 ⟨rfl, k6⟩
  have p2 := (k6.cell (cell_lt O2.out)).trans O2.out
  have p3 := (k6.cell (cell_lt O3.out)).trans O3.out
  have pn := NA.out.keep k6
  have p4 : w6.cell? ⟨ga, 0, none⟩ = some (.int .i64 (tm : Int)) := pn 0 (by simp)
  have p5 : w6.cell? ⟨ga, 1, none⟩ = some (.int .i64 0) := pn 1 (by simp)
  have K6 := hide (K5.out.trans (k6.mono K5.out.size))
  rw [show (oN draw tm).role = 0 from rfl, show (oN draw tm).term = tm from rfl, show (oN draw tm).lead = 1 from rfl]
  clear pn k6 H5 O2 O3 NA
  go_wp2_with fail
  refine (known_any _).mono ?_
  rintro e w7 ⟨rfl, k7⟩
  have K7 := hide (K6.out.trans (k7.mono K6.out.size))
  clear k7
  go_wp2_with fail
  go_ret
  exact ⟨rfl, K7.out⟩
set_option maxRecDepth 100000 in
set_option maxHeartbeats 6400000 in
theorem raftOld_ok4 (tm od : Nat) (draw : Int) (W : World) (h1 : 2 ≤ tm) (h2 : tm ≤ 1073741824) (h3 : od < tm) :
    Calls Tryz.prog 6 #[.int .i64 4, .int .i64 (tm : Int), .int .i64 (od : Int), .int .i64 draw] W fun e w' => e = .returned (.bool true) ∧ Below W.heap.size W w' := by
  have hz1 : ¬ (tm : Int) < 2 := by omega
  have hz2 : ¬ (1073741824 : Int) < (tm : Int) := by omega
  have hz3 : ¬ (od : Int) < 0 := by omega
  have hz4 : ¬ (tm : Int) ≤ (od : Int) := by omega
  go_enter Tryz.func6, Tryz.ntmps6
  go_wp2_with fail
  refine (new_any 1048576 W (by decide)).mono ?_
  rintro e w1 ⟨d, F1, rfl, d1, l1, k1⟩
  have D1 := hide d1
  have K1 := hide k1
  have L1 := hide l1
  clear d1 l1 k1
  go_wp2_with fail
  have hop := ropen_any F1 d 1048576 [] 0 3 0 0 draw w1 D1.out (.inr (.inl rfl)) (by decide) k_term (by decide) (Nat.zero_le _) rfl (by rw [k_open.1]; exact k_all)
  rw [k_open.1, k_open.2] at hop
  refine Calls.mono (show Calls Tryz.prog 10 #[.int .i64 0, .int .i64 3, .pointer (some ⟨d, 0, none⟩), .int .i64 draw] w1 _ from hop) ?_
  rintro e w2 ⟨r, l, rfl, S2, h2', n2⟩
  have H2 := hide (show NdS w2 S2 r d l 1048576 (ndNew 0 3 0 0 draw) wM0 [] from h2')
  have K2 := hide (K1.out.trans (n2.below K1.out.size L1.out))
  have HS2 := hide (n2.up K1.out.size L1.out)
  clear h2' n2 hop
  go_wp2_with fail
  have kb := below_alloc w2 (.cells #[.int .i64 (tm : Int), .int .i64 0, .int .i64 0, .int .i64 0] 3)
  have hlow := H2.out.low
  have HR := hide (hear_new (H2.out.below kb) 1 0 draw w2.heap.size 4 tm (tm : Int) 0 0 0 (Nat.le_refl _) (build_nums w2 #[.int .i64 (tm : Int), .int .i64 0, .int .i64 0, .int .i64 0] [(tm : Int), 0, 0, 0] rfl) (fun hs => by have := hlow _ hs; omega) (by intro z hz; simp at hz; omega) rfl (by show (1 : Int) ≠ 0; decide) (by decide) (by show (1 : Int) < 3; decide) (.inr (.inr (.inl ⟨rfl, rfl⟩))) (by show (0 : Int) < _; omega) rfl rfl rfl rfl (by omega) (draft_fits (Nat.le_trans (o_nums (by omega) (by omega)) (by decide)) (by decide)) rfl (Nat.le_refl _) (by decide) o_term0)
  have KB := hide kb
  clear kb hlow
  refine HR.out.mono ?_
  rintro e w3 ⟨v3, rfl, S3, h3', n3⟩
  have H3 := hide (show NdS w3 S3 r d l 1048576 (oN draw tm) wM0 (termP (numsL [tm, 0]) []) from h3')
  have K3 := hide ((K2.out.trans (KB.out.mono K2.out.size)).trans (n3.below (Nat.le_trans K2.out.size KB.out.size) HS2.out))
  clear h3' n3 HR
  go_wp2_with fail
  obtain ⟨A, hA⟩ : ∃ Z, Z = w3.alloc (.cells #[.int .i64 (od : Int), .int .i64 9, .int .i64 9] 3) := ⟨_, rfl⟩
  obtain ⟨B, hB⟩ : ∃ Z, Z = A.alloc (.cells #[.int .i64 (od : Int), .int .i64 1] 3) := ⟨_, rfl⟩
  obtain ⟨C, hC⟩ : ∃ Z, Z = B.alloc (.cells #[.int .i64 (od : Int), .int .i64 0, .int .i64 0, .int .i64 0] 3) := ⟨_, rfl⟩
  obtain ⟨E, hE⟩ : ∃ Z, Z = C.alloc (.cells #[.int .i64 (od : Int), .int .i64 1, .int .i64 0] 3) := ⟨_, rfl⟩
  have sA : w3.heap.size + 1 = A.heap.size := by rw [hA]; simp
  have sB : w3.heap.size + 1 + 1 = B.heap.size := by rw [hB, sA]; simp
  have sC : w3.heap.size + 1 + 1 + 1 = C.heap.size := by rw [hC, sB]; simp
  have kA : Below w3.heap.size w3 A := by rw [hA]; exact below_alloc _ _
  have kB : Below A.heap.size A B := by rw [hB]; exact below_alloc _ _
  have kC : Below B.heap.size B C := by rw [hC]; exact below_alloc _ _
  have kE : Below C.heap.size C E := by rw [hE]; exact below_alloc _ _
  have nA : NumsAt A w3.heap.size [(od : Int), 9, 9] := by rw [hA]; exact build_nums w3 _ _ rfl
  have nB : NumsAt B A.heap.size [(od : Int), 1] := by rw [hB]; exact build_nums A _ _ rfl
  have nC : NumsAt C B.heap.size [(od : Int), 0, 0, 0] := by rw [hC]; exact build_nums B _ _ rfl
  have nE : NumsAt E C.heap.size [(od : Int), 1, 0] := by rw [hE]; exact build_nums C _ _ rfl
  rw [← hA, ← hB, ← hC, ← hE, sC, sB, sA]
  have kF := below_alloc E (.cells #[.slice (some ⟨w3.heap.size, 0, none⟩) 3 3, .slice (some ⟨A.heap.size, 0, none⟩) 2 2, .slice (some ⟨B.heap.size, 0, none⟩) 4 4, .slice (some ⟨C.heap.size, 0, none⟩) 3 3] 31)
  have q1 : Below w3.heap.size w3 B := kA.trans (kB.mono kA.size)
  have q2 : Below w3.heap.size w3 C := q1.trans (kC.mono q1.size)
  have q3 : Below w3.heap.size w3 E := q2.trans (kE.mono q2.size)
  have q4 := q3.trans (kF.mono q3.size)
  have HF := H3.out.below q4
  have NF := (nE.keep kF)
  have HE := hide (hear_old4 HF 2 0 draw C.heap.size 3 (od : Int) 1 0 (Nat.le_refl _) NF (by intro z hz; simp at hz; omega) rfl (by show (2 : Int) ≠ 0; decide) (by decide) (by show (2 : Int) < 3; decide) (.inr (.inr (.inr ⟨rfl, rfl, by show (1 : Int) ≤ 1; decide⟩))) (by show (od : Int) < (tm : Int); omega) rfl)
  have K4 := hide (K3.out.trans (q4.mono K3.out.size))
  have HF := hide HF
  clear hA hB hC hE sA sB sC kA kB kC kE nA nB nC nE kF q1 q2 q3 q4 NF
  refine HE.out.mono ?_
  rintro e w5 ⟨rfl, k5⟩
  have H5 := hide (HF.out.below k5)
  have K5 := hide (K4.out.trans (k5.mono K4.out.size))
  clear k5 HE HF
  go_wp2_with fail
  refine (state_any H5.out).mono ?_
  rintro e w6 ⟨rfl, k6⟩
  have K6 := hide (K5.out.trans (k6.mono K5.out.size))
  rw [show (oN draw tm).role = 0 from rfl, show (oN draw tm).term = tm from rfl, show (oN draw tm).lead = 1 from rfl]
  clear k6 H5
  go_wp2_with fail
  refine (known_any _).mono ?_
  rintro e w7 ⟨rfl, k7⟩
  have K7 := hide (K6.out.trans (k7.mono K6.out.size))
  clear k7
  go_wp2_with fail
  go_ret
  exact ⟨rfl, K7.out⟩
set_option maxRecDepth 100000 in
theorem raftOld_bad (kd tm od draw : Int) (W : World) (h : tm < 2 ∨ (2 ≤ tm ∧ 1073741824 < tm) ∨ (2 ≤ tm ∧ tm ≤ 1073741824 ∧ od < 0) ∨ (2 ≤ tm ∧ tm ≤ 1073741824 ∧ 0 ≤ od ∧ tm ≤ od) ∨ (2 ≤ tm ∧ tm ≤ 1073741824 ∧ 0 ≤ od ∧ od < tm ∧ kd < 1) ∨ (2 ≤ tm ∧ tm ≤ 1073741824 ∧ 0 ≤ od ∧ od < tm ∧ 1 ≤ kd ∧ 4 < kd)) :
    Calls Tryz.prog 6 #[.int .i64 kd, .int .i64 tm, .int .i64 od, .int .i64 draw] W fun e w' => e = .returned (.bool true) ∧ Below W.heap.size W w' := by
  rcases h with h1 | ⟨h1, h2⟩ | ⟨h1, h2, h3⟩ | ⟨h1, h2, h3, h4⟩ | ⟨h1, h2, h3, h4, h5⟩ | ⟨h1, h2, h3, h4, h5, h6⟩
  all_goals (
    try (have g1 : ¬ tm < 2 := by omega)
    try (have g2 : ¬ 1073741824 < tm := by omega)
    try (have g3 : ¬ od < 0 := by omega)
    try (have g4 : ¬ tm ≤ od := by omega)
    try (have g5 : ¬ kd < 1 := by omega)
    go_enter Tryz.func6, Tryz.ntmps6
    go_wp2_with fail
    refine (known_any _).mono ?_
    rintro e w1 ⟨rfl, k1⟩
    have K1 := hide k1
    clear k1
    go_wp2_with fail
    go_ret
    exact ⟨rfl, K1.out⟩)
theorem raftOld_walk (kd tm od draw : Int) (W : World) :
    Calls Tryz.prog 6 #[.int .i64 kd, .int .i64 tm, .int .i64 od, .int .i64 draw] W fun e w' => e = .returned (.bool true) ∧ Below W.heap.size W w' := by
  by_cases h1 : tm < 2
  · exact raftOld_bad kd tm od draw W (.inl h1)
  by_cases h2 : 1073741824 < tm
  · exact raftOld_bad kd tm od draw W (.inr (.inl ⟨by omega, h2⟩))
  by_cases h3 : od < 0
  · exact raftOld_bad kd tm od draw W (.inr (.inr (.inl ⟨by omega, by omega, h3⟩)))
  by_cases h4 : tm ≤ od
  · exact raftOld_bad kd tm od draw W (.inr (.inr (.inr (.inl ⟨by omega, by omega, by omega, h4⟩))))
  by_cases h5 : kd < 1
  · exact raftOld_bad kd tm od draw W (.inr (.inr (.inr (.inr (.inl ⟨by omega, by omega, by omega, by omega, h5⟩)))))
  by_cases h6 : 4 < kd
  · exact raftOld_bad kd tm od draw W (.inr (.inr (.inr (.inr (.inr ⟨by omega, by omega, by omega, by omega, by omega, h6⟩)))))
  obtain ⟨a, rfl⟩ : ∃ a : Nat, tm = (a : Int) := ⟨tm.toNat, by omega⟩
  obtain ⟨b, rfl⟩ : ∃ b : Nat, od = (b : Int) := ⟨od.toNat, by omega⟩
  have hk : kd = 1 ∨ kd = 2 ∨ kd = 3 ∨ kd = 4 := by omega
  rcases hk with rfl | rfl | rfl | rfl
  · exact raftOld_ok1 a b draw W (by omega) (by omega) (by omega)
  · exact raftOld_ok2 a b draw W (by omega) (by omega) (by omega)
  · exact raftOld_ok3 a b draw W (by omega) (by omega) (by omega)
  · exact raftOld_ok4 a b draw W (by omega) (by omega) (by omega)
end Go.Proofs.YtejhoefmcldpnaaGreat
