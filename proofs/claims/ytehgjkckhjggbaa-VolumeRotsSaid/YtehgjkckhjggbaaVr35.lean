/- The contract of volume.Open. No condition but the widths. A volume's file that was written by Puts alone: the records one behind another, read anew. No program. A volume's disk that holds its file alone, all of it lasting: what Put, a Crash, Open and Get come to, by lists. No program. -/
import Derived.Test.YtehgjkckhjggbaaVr22
import Derived.Test.YtehgjkckhjggbaaVr32
import Derived.Test.YtehgjkckhjggbaaVr21
import Derived.Test.YtehgjkckhjggbaaVr33
import Derived.Test.YtehgjkckhjggbaaVr34
import Derived.Test.YtehgjkckhjggbaaVr1
namespace Go.Proofs.Ytehgjkckhjggbaa
open Go.RowKit Go.Maps
/-- What Open does: what is there and the files, or nothing, and the error. -/
def openV (s : Str) (id : Nat) (L : DiskL) : Option (PlL × DiskL) × Nat := match getK s L with
  | none => (none, 7)
  | some a => if a.1.length < 8 ∨ a.1.take 8 ≠ headV id then (none, 3) else (some ((readV (a.1.length + 1) a.1 8 []).2, if (readV (a.1.length + 1) a.1 8 []).1 < a.1.length then (cutL s ((readV (a.1.length + 1) a.1 8 []).1 : Int) L).1 else L), 0)
def OpenAns (w : World) (F : Nat → Prop) (d room : Nat) (s : ByteArray) (R : Option (PlL × DiskL) × Nat) (e : Ending) (w' : World) : Prop := match R.1 with
  | none => e = .returned (.tuple #[.pointer none, .int .i64 (R.2 : Int)]) ∧ Below w.heap.size w w'
  | some X => ∃ v b F', e = .returned (.tuple #[.pointer (some ⟨v, 0, none⟩), .int .i64 0]) ∧ VolD w' F' v d b room s X.1 X.2 ∧ Next F w F' w' ∧ w.heap.size ≤ v ∧ w.heap.size ≤ b
theorem readL_fitsV {w : World} {F : Nat → Prop} {d room : Nat} {L : DiskL} (h : DiskAt w F d room L) (k : Str) : (∀ x ∈ (readL k L).1, x < 256) ∧ (readL k L).1.length ≤ 1073741824 := by
  unfold readL
  rcases e : getK k L with _ | a
  · exact ⟨(fun x hx => by cases hx), by decide⟩
  · have h9 := h.sane.len e
    exact ⟨(h.facts.2.2.2.2.1 _ (getK_mem e)).2, h9⟩
set_option maxRecDepth 100000 in
theorem open_nil (z : Int) (w : World) : Calls Try.prog 14 #[.pointer none, .int .i64 z] w fun e w' => e = .returned (.tuple #[.pointer none, .int .i64 1]) ∧ Below w.heap.size w w' := by
  by_cases hz : z < 0 ∨ 99999999 < z
  · go_enter Try.func14, Try.ntmps14
    go_wp2_with fail
    refine (vname_bad z w hz).mono ?_
    rintro e w1 ⟨rfl, rfl⟩
    go_wp2_with fail
    refine bodyPost_ret (v := .tuple #[.pointer none, .int .i64 1]) (by simp [results, Try.results14, go_sem]) rfl ⟨rfl, Below.refl _ _⟩
  · obtain ⟨n, rfl⟩ : ∃ n : Nat, z = (n : Int) := ⟨z.toNat, by omega⟩
    have hn : n ≤ 99999999 := by omega
    clear hz
    go_enter Try.func14, Try.ntmps14
    go_wp2_with fail
    refine (vname_any n w hn).mono ?_
    rintro e w1 ⟨rfl, k⟩
    go_wp2_with fail
    refine bodyPost_ret (v := .tuple #[.pointer none, .int .i64 1]) (by simp [results, Try.results14, go_sem]) rfl ⟨rfl, k⟩
theorem run_neq_arrV {w : World} {T : TypeId} {n : Nat} (hu : Try.prog.underlying T = some (.array n 5)) {xs ys : List Nat} (h1 : xs.length = n) (h2 : ys.length = n) :
    (binOp .neq T (.agg (u8s xs).toArray) (.agg (u8s ys).toArray)).run Try.prog w = .ok (.bool (decide (xs ≠ ys))) w := by
  by_cases h : xs = ys
  · subst h
    simp [binOp, run_equal_arr hu h1 h1]
  · simp [binOp, run_equal_arr hu h1 h2, h]
set_option maxRecDepth 100000 in
set_option maxHeartbeats 6400000 in
theorem vopen_any (F : Nat → Prop) (d room : Nat) (L : DiskL) (id : Nat) (w : World) (hD : DiskAt w F d room L) (hid : id ≤ 99999999) :
    Calls Try.prog 14 #[.pointer (some ⟨d, 0, none⟩), .int .i64 (id : Int)] w fun e w' => OpenAns w F d room (nameV id) (openV (nameV id).data.toList id L) e w' := by
  have HD := hide hD
  have hsz := nameV_size id
  have HV := hide (vname_any id w hid)
  obtain ⟨s, hs⟩ : ∃ s, s = nameV id := ⟨_, rfl⟩
  rw [← hs] at hsz HV ⊢
  obtain ⟨R, hR⟩ : ∃ R, R = openV s.data.toList id L := ⟨_, rfl⟩
  rw [← hR]
  have HR := hide hR
  have hsl : s.toList.isEmpty = false := by
    rw [ByteArray.toList_eq]
    have h9 : s.data.toList.length = 13 := hsz
    rcases hq : s.data.toList with _ | ⟨a, r⟩
    · rw [hq] at h9; cases h9
    · rfl
  have HS : Hid (s.size ≤ 1099511627776) := hide (by omega)
  have HID := hide hid
  clear hD hid hR hs hsz
  go_enter Try.func14, Try.ntmps14
  go_wp2_with fail
  refine HV.out.mono ?_
  rintro e w1 ⟨rfl, k1⟩
  have D1 := hide (HD.out.below k1)
  have K1 := hide k1
  clear k1 HD HV
  go_wp2_with fail
  have hrd := read_any F d room L s w1 D1.out HS.out
  have hfits := readL_fitsV D1.out s.data.toList
  rcases hg : getK s.data.toList L with _ | ⟨bs, la⟩
  · have e1 : readL s.data.toList L = ([], 7) := by unfold readL; rw [hg]
    rw [e1] at hrd
    have HE : Hid (R = (none, 7)) := hide (by rw [HR.out]; unfold openV; rw [hg])
    have HRD := hide hrd
    clear hrd hfits hg e1
    refine HRD.out.mono ?_
    rintro e w2 ⟨v1, rfl, o1, k2⟩
    obtain ⟨A1, c1, rfl, i1, l1, m1⟩ := o1.isB.form (n := 0) rfl
    have K2 := hide (K1.out.trans (k2.mono K1.out.size))
    clear o1 k2 i1 HRD
    go_wp2_with fail
    rw [HE.out]
    refine bodyPost_ret (v := .tuple #[.pointer none, .int .i64 7]) (by simp [results, Try.results14, go_sem]) rfl ⟨rfl, K2.out⟩
  · have e1 : readL s.data.toList L = (bs, 0) := by unfold readL; rw [hg]
    rw [e1] at hrd hfits
    have hR2 : R = if bs.length < 8 ∨ bs.take 8 ≠ headV id then (none, 3) else (some ((readV (bs.length + 1) bs 8 []).2, if (readV (bs.length + 1) bs 8 []).1 < bs.length then (cutL s.data.toList ((readV (bs.length + 1) bs 8 []).1 : Int) L).1 else L), 0) := by rw [HR.out]; unfold openV; rw [hg]
    have HR2 := hide hR2
    have HRD := hide hrd
    have HFI := hide hfits
    clear hrd hfits hg e1 hR2
    refine HRD.out.mono ?_
    rintro e w2 ⟨v1, rfl, o1, k2⟩
    obtain ⟨n, hn⟩ : ∃ n, n = bs.length := ⟨_, rfl⟩
    obtain ⟨A1, c1, rfl, i1, l1, m1⟩ := o1.isB.form hn.symm
    have D2 := hide (D1.out.below k2)
    have K2 := hide (K1.out.trans (k2.mono K1.out.size))
    have O1 := hide o1
    have HN := hide hn
    clear o1 k2 i1 hn HRD D1 K1
    go_wp2_with fail
    by_cases hn8 : n < 8
    · have hd8 : decide ((n : Int) < 8) = true := by simp; omega
      have hz8 : (n : Int) < 8 := by omega
      have HE : Hid (R = (none, 3)) := hide (by rw [HR2.out]; exact if_pos (.inl (by rw [← HN.out]; exact hn8)))
      refine heldT_top (fun W' : World => W'.cell? ⟨0, 0, none⟩ = w2.cell? ⟨0, 0, none⟩) 12 #[false, false, false, false, false, false, false, false, false, false, false, false] (by kernel_rfl) (by kernel_rfl) (by kernel_rfl) ?_
      have hHeld : (fun W' : World => W'.cell? ⟨0, 0, none⟩ = w2.cell? ⟨0, 0, none⟩) (w2.drewN 1) := rfl
      change wpAnyH _ _ _ _ _ _ _ _ (w2.drewN 1)
      refine' wpAnyH_take (i := 0) (oi := ⟨_, _, _, _, _, _⟩) (v := _) rfl (by kernel_rfl) (by kernel_rfl) (by kernel_rfl) (fun _ _ _ h => h) (Or.inl ⟨rfl, ?_⟩) hHeld ?_
      rotate_left
      · (intro W' hW; (try dsimp only at hW); obtain z0 := hW; go_simp; (try with_reducible rfl))
      try simp only [Act.put, List.setIfInBounds_toArray, List.set_cons_zero, List.set_cons_succ]
      refine' wpAnyH_take (i := 1) (oi := ⟨_, _, _, _, _, _⟩) (v := _) rfl (by kernel_rfl) (by kernel_rfl) (by kernel_rfl) (fun _ _ _ h => h) (Or.inl ⟨rfl, ?_⟩) hHeld ?_
      rotate_left
      · (intro W' hW; (try dsimp only at hW); obtain z0 := hW; go_simp; (try with_reducible rfl))
      try simp only [Act.put, List.setIfInBounds_toArray, List.set_cons_zero, List.set_cons_succ]
      refine' wpAnyH_take (i := 2) (oi := ⟨_, _, _, _, _, _⟩) (v := _) rfl (by kernel_rfl) (by kernel_rfl) (by kernel_rfl) (fun _ _ _ h => h) (Or.inl ⟨rfl, ?_⟩) hHeld ?_
      rotate_left
      · (intro W' hW; (try dsimp only at hW); obtain z0 := hW; go_simp; (try with_reducible rfl))
      try simp only [Act.put, List.setIfInBounds_toArray, List.set_cons_zero, List.set_cons_succ]
      refine' wpAnyH_take (i := 3) (oi := ⟨_, _, _, _, _, _⟩) (v := _) rfl (by kernel_rfl) (by kernel_rfl) (by kernel_rfl) (fun _ _ _ h => h) (Or.inl ⟨rfl, ?_⟩) hHeld ?_
      rotate_left
      · (intro W' hW; (try dsimp only at hW); obtain z0 := hW; go_simp; (try with_reducible rfl))
      try simp only [Act.put, List.setIfInBounds_toArray, List.set_cons_zero, List.set_cons_succ]
      refine' wpAnyH_take (i := 4) (oi := ⟨_, _, _, _, _, _⟩) (v := undef) rfl (by kernel_rfl) (by kernel_rfl) (by kernel_rfl) (fun _ _ _ h => h) (Or.inr ⟨rfl, rfl⟩) hHeld ?_
      try simp only [Act.put, List.setIfInBounds_toArray, List.set_cons_zero, List.set_cons_succ]
      refine' wpAnyH_take (i := 5) (oi := ⟨_, _, _, _, _, _⟩) (v := undef) rfl (by kernel_rfl) (by kernel_rfl) (by kernel_rfl) (fun _ _ _ h => h) (Or.inr ⟨rfl, rfl⟩) hHeld ?_
      try simp only [Act.put, List.setIfInBounds_toArray, List.set_cons_zero, List.set_cons_succ]
      refine' wpAnyH_take (i := 6) (oi := ⟨_, _, _, _, _, _⟩) (v := undef) rfl (by kernel_rfl) (by kernel_rfl) (by kernel_rfl) (fun _ _ _ h => h) (Or.inr ⟨rfl, rfl⟩) hHeld ?_
      try simp only [Act.put, List.setIfInBounds_toArray, List.set_cons_zero, List.set_cons_succ]
      refine' wpAnyH_take (i := 7) (oi := ⟨_, _, _, _, _, _⟩) (v := undef) rfl (by kernel_rfl) (by kernel_rfl) (by kernel_rfl) (fun _ _ _ h => h) (Or.inr ⟨rfl, rfl⟩) hHeld ?_
      try simp only [Act.put, List.setIfInBounds_toArray, List.set_cons_zero, List.set_cons_succ]
      refine' wpAnyH_take (i := 8) (oi := ⟨_, _, _, _, _, _⟩) (v := undef) rfl (by kernel_rfl) (by kernel_rfl) (by kernel_rfl) (fun _ _ _ h => h) (Or.inr ⟨rfl, rfl⟩) hHeld ?_
      try simp only [Act.put, List.setIfInBounds_toArray, List.set_cons_zero, List.set_cons_succ]
      refine' wpAnyH_take (i := 9) (oi := ⟨_, _, _, _, _, _⟩) (v := undef) rfl (by kernel_rfl) (by kernel_rfl) (by kernel_rfl) (fun _ _ _ h => h) (Or.inr ⟨rfl, rfl⟩) hHeld ?_
      try simp only [Act.put, List.setIfInBounds_toArray, List.set_cons_zero, List.set_cons_succ]
      refine' wpAnyH_take (i := 10) (oi := ⟨_, _, _, _, _, _⟩) (v := undef) rfl (by kernel_rfl) (by kernel_rfl) (by kernel_rfl) (fun _ _ _ h => h) (Or.inr ⟨rfl, rfl⟩) hHeld ?_
      try simp only [Act.put, List.setIfInBounds_toArray, List.set_cons_zero, List.set_cons_succ]
      refine' wpAnyH_take (i := 11) (oi := ⟨_, _, _, _, _, _⟩) (v := _) rfl (by kernel_rfl) (by kernel_rfl) (by kernel_rfl) (fun _ _ _ h => h) (Or.inl ⟨rfl, ?_⟩) hHeld ?_
      rotate_left
      · (intro W' hW; (try dsimp only at hW); obtain z0 := hW; go_simp; (try with_reducible rfl))
      try simp only [Act.put, List.setIfInBounds_toArray, List.set_cons_zero, List.set_cons_succ]
      refine wpAnyH_done (by kernel_rfl) ?_ _
      clear hHeld
      go_wp2_with fail
      rw [HE.out]
      refine bodyPost_ret (v := .tuple #[.pointer none, .int .i64 3]) (by simp [results, Try.results14, go_sem]) rfl ⟨rfl, below_drewN K2.out 1⟩
    · obtain ⟨g, off, rfl⟩ := isB_at O1.out.isB (by omega)
      have hsrc := (O1.out.isB.take 8 (by omega)).src (by rw [u8s_len, List.length_take, ← HN.out]; omega)
      obtain ⟨ad, had, hcells⟩ := hsrc
      have had := Option.some.inj had
      subst had
      have h8l : (bs.take 8).length = 8 := by rw [List.length_take, ← HN.out]; omega
      obtain ⟨hd, hhd⟩ : ∃ h, h = bs.take 8 := ⟨_, rfl⟩
      rw [← hhd] at hcells h8l
      obtain ⟨nb, hnb⟩ : ∃ nb, nb = decide (hd ≠ headV id) := ⟨_, rfl⟩
      have HNB := hide (And.intro hnb hhd)
      have hd8 : decide ((n : Int) < 8) = false := by simp; omega
      have hz8 : ¬ (n : Int) < 8 := by omega
      have hz9 : (8 : Int) ≤ (n : Int) := by omega
      have hz10 : (8 : Int) ≤ (c1 : Int) := by omega
      have hat : ∀ w : World, (Instr.arrayAt 76 (.slice (some ⟨g, off, none⟩) 8 c1)).run Try.prog w = .ok (.pointer (some ⟨g, off, none⟩)) w := fun w => run_arrayAt w 76 _ 8 _ 8 c1 Try.underlying76 (Nat.le_refl _)
      have H8 := hide h8l
      clear hhd hnb h8l
      refine heldT_top (fun W' : World => ∀ j v, (u8s hd)[j]? = some v → W'.cell? ((⟨g, off, none⟩ : Addr).add j) = some v) 12 #[false, false, false, false, false, false, false, false, false, false, false, false] (by kernel_rfl) (by kernel_rfl) (by kernel_rfl) ?_
      have hHeld : (fun W' : World => ∀ j v, (u8s hd)[j]? = some v → W'.cell? ((⟨g, off, none⟩ : Addr).add j) = some v) (w2.drewN 1) := hcells
      have D2 := hide (D2.out.below (below_drewN (Below.refl _ _) 1))
      have O1 := hide (O1.out.drewN 1)
      have K2 := hide (below_drewN K2.out 1)
      clear hcells
      change wpAnyH _ _ _ _ _ _ _ _ (w2.drewN 1)
      generalize w2.drewN 1 = U at *
      refine' wpAnyH_take (i := 0) (oi := ⟨_, _, _, _, _, _⟩) (v := _) rfl (by kernel_rfl) (by kernel_rfl) (by kernel_rfl) (fun _ _ _ h => h) (Or.inl ⟨rfl, ?_⟩) hHeld ?_
      rotate_left
      · (intro W' hW; (try dsimp only at hW); obtain z0 := hW; go_simp; (try with_reducible rfl))
      try simp only [Act.put, List.setIfInBounds_toArray, List.set_cons_zero, List.set_cons_succ]
      refine' wpAnyH_take (i := 1) (oi := ⟨_, _, _, _, _, _⟩) (v := _) rfl (by kernel_rfl) (by kernel_rfl) (by kernel_rfl) (fun _ _ _ h => h) (Or.inl ⟨rfl, ?_⟩) hHeld ?_
      rotate_left
      · (intro W' hW; (try dsimp only at hW); obtain z0 := hW; go_simp; (try with_reducible rfl))
      try simp only [Act.put, List.setIfInBounds_toArray, List.set_cons_zero, List.set_cons_succ]
      refine' wpAnyH_take (i := 2) (oi := ⟨_, _, _, _, _, _⟩) (v := _) rfl (by kernel_rfl) (by kernel_rfl) (by kernel_rfl) (fun _ _ _ h => h) (Or.inl ⟨rfl, ?_⟩) hHeld ?_
      rotate_left
      · (intro W' hW; (try dsimp only at hW); obtain z0 := hW; go_simp; (try with_reducible rfl))
      try simp only [Act.put, List.setIfInBounds_toArray, List.set_cons_zero, List.set_cons_succ]
      refine' wpAnyH_take (i := 3) (oi := ⟨_, _, _, _, _, _⟩) (v := _) rfl (by kernel_rfl) (by kernel_rfl) (by kernel_rfl) (fun _ _ _ h => h) (Or.inl ⟨rfl, ?_⟩) hHeld ?_
      rotate_left
      · (intro W' hW; (try dsimp only at hW); obtain z0 := hW; go_simp; (try with_reducible rfl))
      try simp only [Act.put, List.setIfInBounds_toArray, List.set_cons_zero, List.set_cons_succ]
      refine' wpAnyH_take (i := 4) (oi := ⟨_, _, _, _, _, _⟩) (v := _) rfl (by kernel_rfl) (by kernel_rfl) (by kernel_rfl) (fun _ _ _ h => h) (Or.inl ⟨rfl, ?_⟩) hHeld ?_
      rotate_left
      · (intro W' hW; (try dsimp only at hW); obtain z0 := hW; go_simp; (try with_reducible rfl))
      try simp only [Act.put, List.setIfInBounds_toArray, List.set_cons_zero, List.set_cons_succ]
      refine' wpAnyH_take (i := 5) (oi := ⟨_, _, _, _, _, _⟩) (v := _) rfl (by kernel_rfl) (by kernel_rfl) (by kernel_rfl) (fun _ _ _ h => h) (Or.inl ⟨rfl, ?_⟩) hHeld ?_
      rotate_left
      · (intro W' hW; (try dsimp only at hW); obtain z0 := hW; go_simp; (try with_reducible rfl))
      try simp only [Act.put, List.setIfInBounds_toArray, List.set_cons_zero, List.set_cons_succ]
      refine' wpAnyH_take (i := 6) (oi := ⟨_, _, _, _, _, _⟩) (v := _) rfl (by kernel_rfl) (by kernel_rfl) (by kernel_rfl) (fun _ _ _ h => h) (Or.inl ⟨rfl, ?_⟩) hHeld ?_
      rotate_left
      · (intro W' hW; (try dsimp only at hW); obtain z0 := hW; go_simp; (try with_reducible rfl))
      try simp only [Act.put, List.setIfInBounds_toArray, List.set_cons_zero, List.set_cons_succ]
      refine' wpAnyH_take (i := 7) (oi := ⟨_, _, _, _, _, _⟩) (v := .agg (u8s hd).toArray) rfl (by kernel_rfl) (by kernel_rfl) (by kernel_rfl) (fun _ _ _ h => h) (Or.inl ⟨rfl, ?_⟩) hHeld ?_
      · intro W' hW
        unfold execOp
        simp [Instr.loadAt, Instr.sureAddr, Act.eval, run_loadVar_cells W' ⟨g, off, none⟩ 76 (u8s hd) _ hW Try.underlying76 rfl (by rw [Try.info_vhead, u8s_len, H8.out])]
      try simp only [Act.put, List.setIfInBounds_toArray, List.set_cons_zero, List.set_cons_succ]
      refine' wpAnyH_take (i := 8) (oi := ⟨_, _, _, _, _, _⟩) (v := _) rfl (by kernel_rfl) (by kernel_rfl) (by kernel_rfl) (fun _ _ _ h => h) (Or.inl ⟨rfl, ?_⟩) hHeld ?_
      rotate_left
      · (intro W' hW; (try dsimp only at hW); obtain z0 := hW; go_simp; (try with_reducible rfl))
      try simp only [Act.put, List.setIfInBounds_toArray, List.set_cons_zero, List.set_cons_succ]
      have HC := hide hHeld
      clear hHeld
      refine heldT_one (i := 9) (by kernel_rfl) rfl (fun K' hK => ?_)
      go_simp
      go_at_call 38
      refine (vhead_any id U HID.out).mono ?_
      rintro e u2 ⟨rfl, k⟩
      have hHeld : (fun W' : World => ∀ j v, (u8s hd)[j]? = some v → W'.cell? ((⟨g, off, none⟩ : Addr).add j) = some v) u2 := fun j v hj => by
        have h1 := HC.out j v hj
        rw [← h1]
        exact k.cell (cell_lt h1)
      have D2 := hide (D2.out.below k)
      have O1 := hide (O1.out.keep k)
      have K2 := hide (K2.out.trans (k.mono K2.out.size))
      clear k HC
      refine hK.out _ _ hHeld ?_
      clear hK
      try simp only [List.setIfInBounds_toArray, List.set_cons_zero, List.set_cons_succ]
      refine' wpAnyH_take (i := 10) (oi := ⟨_, _, _, _, _, _⟩) (v := .bool nb) rfl (by kernel_rfl) (by kernel_rfl) (by kernel_rfl) (fun _ _ _ h => h) (Or.inl ⟨rfl, ?_⟩) hHeld ?_
      · intro W' hW
        have he : (binOp .neq 76 (.agg (u8s hd).toArray) (.agg (u8s (headV id)).toArray)).run Try.prog W' = .ok (.bool nb) W' := by rw [run_neq_arrV Try.underlying76 H8.out (headV_len id), ← HNB.out.1]
        unfold execOp
        simp [Act.eval, eqGuard, he, Sem.run_bind]
      try simp only [Act.put, List.setIfInBounds_toArray, List.set_cons_zero, List.set_cons_succ]
      refine' wpAnyH_take (i := 11) (oi := ⟨_, _, _, _, _, _⟩) (v := _) rfl (by kernel_rfl) (by kernel_rfl) (by kernel_rfl) (fun _ _ _ h => h) (Or.inl ⟨rfl, ?_⟩) hHeld ?_
      rotate_left
      · (intro W' hW; (try dsimp only at hW); obtain z0 := hW; go_simp; (try with_reducible rfl))
      try simp only [Act.put, List.setIfInBounds_toArray, List.set_cons_zero, List.set_cons_succ]
      refine wpAnyH_done (by kernel_rfl) ?_ _
      clear hHeld
      have hn30 : n ≤ 1073741824 := by rw [HN.out]; exact HFI.out.2
      clear hd8 hz8 hz9 hz10 hat
      cases nb with
      | true =>
        have HE : Hid (R = (none, 3)) := hide (by rw [HR2.out]; exact if_pos (.inr (by have h9 := of_decide_eq_true HNB.out.1.symm; rw [HNB.out.2] at h9; exact h9)))
        go_wp2_with fail
        rw [HE.out]
        refine bodyPost_ret (v := .tuple #[.pointer none, .int .i64 3]) (by simp [results, Try.results14, go_sem]) rfl ⟨rfl, K2.out⟩
      | false =>
        have hno : ¬ (bs.length < 8 ∨ bs.take 8 ≠ headV id) := fun h => h.elim (fun h => by rw [← HN.out] at h; exact hn8 h) (fun h => by have h9 := of_decide_eq_false HNB.out.1.symm; rw [HNB.out.2] at h9; exact h9 h)
        obtain ⟨RV, hRV⟩ : ∃ r, r = readV (n + 1) bs 8 [] := ⟨_, rfl⟩
        have HE : Hid (R = (some (RV.2, if RV.1 < n then (cutL s.data.toList (RV.1 : Int) L).1 else L), 0)) := hide (by rw [HR2.out, if_neg hno, ← HN.out, ← hRV])
        have HRV := hide hRV
        have hn8' : 8 ≤ n := by omega
        clear hno hRV hn8 HR2
        go_wp2_with fail
        refine (made_any d s u2).mono ?_
        rintro e w4 ⟨v, b, rfl, hv, l1, l2, k4⟩
        have HV4 := hide hv
        have D4 := hide (D2.out.below k4)
        have O4 := hide (O1.out.keep k4)
        have HOF : Hid (Off (fun k => k = b) (.slice (some ⟨g, off, none⟩) n c1)) := hide (fun q hq e => by have h1 := (O1.out.lt q hq).2; have e : q = b := e; omega)
        have HBF : Hid (¬ F v ∧ ¬ F b) := hide ⟨fun hk => by have := D2.out.low v hk; omega, fun hk => by have := D2.out.low b hk; omega⟩
        have hl1 : w.heap.size ≤ v := Nat.le_trans K2.out.size l1
        have hl2 : w.heap.size ≤ b := Nat.le_trans K2.out.size l2
        have K4 := hide (K2.out.trans (k4.mono K2.out.size))
        clear hv k4 l1 l2 D2 O1 K2
        go_wp2_with fail
        refine (vread_any HV4.out (some ⟨g, off, none⟩) n c1 bs O4.out.isB HFI.out.1 hn8' hn30 HOF.out).mono ?_
        rintro e w5 ⟨rfl, hv5, t5⟩
        rw [← HRV.out] at hv5 ⊢
        obtain ⟨en, T5⟩ := RV
        dsimp only at hv5 ⊢
        have HD5 : Hid (VolD w5 F v d b room s T5 L) := hide ⟨D4.out.turn t5 (fun k hk e => HBF.out.2 (by rw [← e]; exact hk)), hv5, HBF.out.1, HBF.out.2⟩
        have N5 : Hid (Next F w F w5) := hide ⟨((Turn.of_below (fun k => F k ∨ k = b) K4.out).trans (t5.mono (fun k h => .inr h))).then (Turn.refl F _) (fun i h => .inl (.inl h)) |>.mono (fun k h => h) |> fun h => ⟨h.os, h.tape, h.output, h.size, fun i hi hn => h.block i hi (fun e => e.elim hn (fun e => by omega))⟩, fun k => .inl⟩
        clear hv5 t5 D4 HV4 O4 HOF
        by_cases hcut : en < n
        · have hcz : (en : Int) < (n : Int) := by omega
          go_wp2_with fail
          refine (cutD_any F d room L s w5 HD5.out.disk HS.out (en : Int)).mono ?_
          rintro e w6 ⟨rfl, F6, d6, n6⟩
          have HD6 := hide (HD5.out.disked d6 n6)
          have N6 := hide (N5.out.trans n6)
          clear d6 n6
          go_wp2_with fail
          rw [HE.out, if_pos hcut]
          refine bodyPost_ret (v := .tuple #[.pointer (some ⟨v, 0, none⟩), .int .i64 0]) (by simp [results, Try.results14, go_sem]) rfl ⟨v, b, F6, rfl, HD6.out, N6.out, hl1, hl2⟩
        · have hcz : ¬ (en : Int) < (n : Int) := by omega
          go_wp2_with fail
          rw [HE.out, if_neg hcut]
          refine bodyPost_ret (v := .tuple #[.pointer (some ⟨v, 0, none⟩), .int .i64 0]) (by simp [results, Try.results14, go_sem]) rfl ⟨v, b, F, rfl, HD5.out, N5.out, hl1, hl2⟩
end Go.Proofs.Ytehgjkckhjggbaa
namespace Go.Proofs.Ytehgjkckhjggbaa
open Go.RowKit Go.Maps
/-- A needle as it is Put: key, cookie, whether it is a mark, its bytes. -/
abbrev Rec := Nat × Nat × Bool × List Nat
def recV (r : Rec) : List Nat := needleL r.1 r.2.1 r.2.2.1 r.2.2.2
structure RecOk (r : Rec) : Prop where
  key : r.1 < 18446744073709551616
  cook : r.2.1 < 4294967296
  len : r.2.2.2.length ≤ 65536
  dead : ¬ (r.2.2.1 = true ∧ 0 < r.2.2.2.length)
  byte : ∀ x ∈ r.2.2.2, x < 256
def placeV (r : Rec) (at_ : Nat) : Pl := ⟨r.1, at_, ndSize r.2.2.2.length, r.2.1, r.2.2.1⟩
def bytesV (rs : List Rec) : List Nat := rs.flatMap recV
/-- What is there behind records that begin at a place. -/
def plsV : Nat → List Rec → PlL → PlL
  | _, [], T => T
  | at_, r :: rs, T => plsV (at_ + ndSize r.2.2.2.length) rs (takeL (placeV r at_) T)
theorem recV_len {r : Rec} (h : RecOk r) : (recV r).length = ndSize r.2.2.2.length := needleL_len _ _ _ _ h.len
theorem recV_dec {r : Rec} (h : RecOk r) (more : List Nat) : ndDec (recV r ++ more) = (r, ndSize r.2.2.2.length, 0) := dec_needle _ _ _ _ more h.key h.cook h.len h.dead
theorem bytesV_snoc (rs : List Rec) (r : Rec) : bytesV (rs ++ [r]) = bytesV rs ++ recV r := by simp [bytesV]
theorem plsV_snoc (r : Rec) : ∀ (rs : List Rec) (at_ : Nat) (T : PlL), (∀ q ∈ rs, RecOk q) → plsV at_ (rs ++ [r]) T = takeL (placeV r (at_ + (bytesV rs).length)) (plsV at_ rs T)
  | [], at_, T, _ => by simp [plsV, bytesV]
  | q :: rs, at_, T, h => by
    have hq := recV_len (h q (by simp))
    have ih := plsV_snoc r rs (at_ + ndSize q.2.2.2.length) (takeL (placeV q at_) T) (fun x hx => h x (by simp [hx]))
    simp only [List.cons_append, plsV]
    rw [ih]
    simp only [bytesV, List.flatMap_cons, List.length_append, hq, Nat.add_assoc]
theorem ndDec_nil : (ndDec []).2.2 = 2 := by simp [ndDec]
theorem readV_recs : ∀ (rs : List Rec) (f : Nat) (pre : List Nat) (T : PlL), (∀ q ∈ rs, RecOk q) → rs.length < f → readV f (pre ++ bytesV rs) pre.length T = (pre.length + (bytesV rs).length, plsV pre.length rs T)
  | [], f, pre, T, _, hf => by
    obtain ⟨f, rfl⟩ : ∃ g, f = g + 1 := ⟨f - 1, by simp at hf; omega⟩
    unfold readV
    have e : (pre ++ bytesV []).drop pre.length = [] := by simp [bytesV]
    rw [e, ndDec_nil]
    simp [bytesV, plsV]
  | r :: rs, f, pre, T, h, hf => by
    obtain ⟨f, rfl⟩ : ∃ g, f = g + 1 := ⟨f - 1, by simp at hf; omega⟩
    have hr := h r (by simp)
    have e : (pre ++ bytesV (r :: rs)).drop pre.length = recV r ++ bytesV rs := by simp [bytesV]
    have ih := readV_recs rs f (pre ++ recV r) (takeL (placeV r pre.length) T) (fun x hx => h x (by simp [hx])) (by simp at hf; omega)
    unfold readV
    rw [e, recV_dec hr]
    have e2 : pre ++ bytesV (r :: rs) = pre ++ recV r ++ bytesV rs := by simp [bytesV]
    rw [List.length_append, recV_len hr] at ih
    have e3 : plOf (r, ndSize r.2.2.2.length, 0) pre.length = placeV r pre.length := rfl
    simp only [ne_eq, not_true_eq_false, false_and, if_false]
    rw [e2, e3, ih]
    simp [bytesV, plsV, recV_len hr, Nat.add_assoc]
theorem findL_rec {r : Rec} (h : RecOk r) (pre post : List Nat) : findL (pre ++ recV r ++ post) (placeV r pre.length) = some r.2.2.2 := by
  have e : (pre ++ recV r ++ post).drop pre.length = recV r ++ post := by simp
  have e3 : plOf (r, ndSize r.2.2.2.length, 0) pre.length = placeV r pre.length := rfl
  have e4 : (placeV r pre.length).at_ = pre.length := rfl
  unfold findL
  rw [e4, e, recV_dec h, if_neg (by simp), e3, if_neg (by simp)]
end Go.Proofs.Ytehgjkckhjggbaa
namespace Go.Proofs.Ytehgjkckhjggbaa
open Go.RowKit Go.Maps
def fileV (id : Nat) (rs : List Rec) : List Nat := headV id ++ bytesV rs
def diskV (s : Str) (id : Nat) (rs : List Rec) : DiskL := [(s, (fileV id rs, (fileV id rs).length))]
theorem getK_one (s : Str) (x : List Nat × Nat) : getK s [(s, x)] = some x := by simp [getK]
theorem putK_one (s : Str) (x y : List Nat × Nat) : putK s y [(s, x)] = [(s, y)] := by simp [putK, delK, insK]
theorem szV_one (s : Str) (id : Nat) (rs : List Rec) : szV s (diskV s id rs) = (fileV id rs).length := by simp [szV, diskV, getK_one]
theorem readL_one (s : Str) (id : Nat) (rs : List Rec) : (readL s (diskV s id rs)).1 = fileV id rs := by simp [readL, diskV, getK_one]
theorem fileV_snoc (id : Nat) (rs : List Rec) (r : Rec) : fileV id (rs ++ [r]) = fileV id rs ++ recV r := by simp [fileV, bytesV_snoc]
theorem lay_one (room : Nat) (s : Str) (id : Nat) (rs : List Rec) (r : Rec) (hs : 1 ≤ s.length ∧ s.length ≤ 64) (hroom : (fileV id rs).length + (recV r).length ≤ room) :
    layL room s (recV r) (diskV s id rs) = (diskV s id (rs ++ [r]), 0) := by
  have ha : appL room s (recV r) (diskV s id rs) = ([(s, (fileV id rs ++ recV r, (fileV id rs).length))], 0) := by
    unfold appL
    have hu : usedL (diskV s id rs) = (fileV id rs).length := by simp [usedL, diskV, sumK]
    have hg : getK s (diskV s id rs) = some (fileV id rs, (fileV id rs).length) := getK_one _ _
    rw [if_neg (by simpa using hs), hu, hg, if_neg (by
      rintro (⟨e, _⟩ | e)
      · cases e
      · omega)]
    simp [diskV, oldB, oldN, getK_one, putK_one]
  unfold layL
  rw [ha, if_neg (by simp)]
  simp [syncL, getK_one, putK_one, diskV, fileV_snoc]
theorem openV_one (s : Str) (id : Nat) (rs : List Rec) (h : ∀ q ∈ rs, RecOk q) : openV s id (diskV s id rs) = (some (plsV 8 rs [], diskV s id rs), 0) := by
  have h8 : (headV id).length = 8 := headV_len id
  have hl : rs.length < (fileV id rs).length + 1 := by
    have : ∀ l : List Rec, (∀ q ∈ l, RecOk q) → l.length ≤ (bytesV l).length := by
      intro l
      induction l with
      | nil => intro _; simp
      | cons q l ih =>
        intro hl
        have h1 := recV_len (hl q (by simp))
        have h2 := (ndSize_le q.2.2.2.length).2
        have h3 := ih (fun x hx => hl x (by simp [hx]))
        simp only [bytesV, List.flatMap_cons, List.length_cons, List.length_append] at h3 ⊢
        omega
    have := this rs h
    simp only [fileV, List.length_append]
    omega
  have hr := readV_recs rs ((fileV id rs).length + 1) (headV id) [] h hl
  rw [h8] at hr
  have hf : headV id ++ bytesV rs = fileV id rs := rfl
  rw [hf] at hr
  have hlen : (fileV id rs).length = 8 + (bytesV rs).length := by rw [← hf, List.length_append, h8]
  unfold openV
  simp only [diskV, getK_one]
  rw [if_neg (by
    rw [hlen]
    have : (fileV id rs).take 8 = headV id := by rw [← hf, ← h8]; exact List.take_left
    rw [this]
    simp), hr, if_neg (by rw [hlen]; simp)]
theorem crash_one (draw : Nat) (s : Str) (id : Nat) (rs : List Rec) : crashD draw (diskV s id rs) = diskV s id rs := by
  simp [crashD, diskV, crash1, Nat.mod_one]
theorem putV_one (room : Nat) (s : Str) (id : Nat) (rs : List Rec) (r : Rec) (hs : 1 ≤ s.length ∧ s.length ≤ 64) (h : ∀ q ∈ rs, RecOk q) (hr : RecOk r) (hroom : (fileV id rs).length + 65568 ≤ room) (hmost : (fileV id rs).length + 65568 ≤ 4194304)
    (hg : getP r.1 (plsV 8 rs []) = none) :
    putV room s r.1 r.2.1 r.2.2.1 r.2.2.2 (plsV 8 rs []) (diskV s id rs) = ((plsV 8 (rs ++ [r]) [], diskV s id (rs ++ [r])), 0) := by
  have he : encN r.1 r.2.1 r.2.2.1 r.2.2.2 = (recV r, 0) := by
    unfold encN
    rw [if_neg hr.dead, if_neg (by have := hr.len; omega)]
    rfl
  have hn := (ndSize_le r.2.2.2.length).1
  have hl := recV_len hr
  have hy := lay_one room s id rs r hs (by omega)
  have h8 : (fileV id rs).length = 8 + (bytesV rs).length := by simp [fileV, headV_len]
  unfold putV
  rw [he, hg, szV_one]
  simp only [hy]
  rw [if_neg (by simp), if_neg (by decide), if_neg (by simp), if_neg (by omega), if_neg (by simp), plsV_snoc r rs 8 [] h, ← h8]
  simp only [placeV, hl]
/-- All are needles, no key comes twice. -/
structure Fresh (rs : List Rec) : Prop where
  ok : ∀ q ∈ rs, RecOk q
  alive : ∀ q ∈ rs, q.2.2.1 = false
  once : (rs.map (·.1)).Nodup
theorem takeL_new {p : Pl} {T : PlL} (h : getP p.key T = none) : takeL p T = putP p T := by
  unfold takeL
  rw [h]
theorem plsV_rise : ∀ (rs : List Rec) (at_ : Nat) (T : PlL), RiseP T → RiseP (plsV at_ rs T)
  | [], _, _, h => h
  | _ :: rs, _, _, h => plsV_rise rs _ _ (takeL_rise h)
theorem plsV_none (k : Nat) : ∀ (rs : List Rec) (at_ : Nat) (T : PlL), RiseP T → (∀ q ∈ rs, q.1 ≠ k) → getP k (plsV at_ rs T) = getP k T
  | [], _, _, _, _ => rfl
  | r :: rs, at_, T, h, hk => by
    have ih := plsV_none k rs (at_ + ndSize r.2.2.2.length) (takeL (placeV r at_) T) (takeL_rise h) (fun q hq => hk q (by simp [hq]))
    simp only [plsV]
    rw [ih]
    have hne : k ≠ (placeV r at_).key := fun e => hk r (by simp) e.symm
    unfold takeL
    split
    · exact getP_put_other h hne
    · split
      · exact getP_put_other h hne
      · rfl
/-- What is there of a key that was Put, whatever came behind it. -/
theorem plsV_at (r : Rec) (ra rb : List Rec) (h : Fresh (ra ++ r :: rb)) : getP r.1 (plsV 8 (ra ++ r :: rb) []) = some (placeV r (8 + (bytesV ra).length)) := by
  have happ : ∀ (xs ys : List Rec) (at_ : Nat) (T : PlL), (∀ q ∈ xs, RecOk q) → plsV at_ (xs ++ ys) T = plsV (at_ + (bytesV xs).length) ys (plsV at_ xs T) := by
    intro xs
    induction xs with
    | nil => intro ys at_ T _; simp [plsV, bytesV]
    | cons q xs ih =>
      intro ys at_ T hx
      have hq := recV_len (hx q (by simp))
      simp only [List.cons_append, plsV]
      rw [ih ys _ _ (fun x hx' => hx x (by simp [hx']))]
      simp only [bytesV, List.flatMap_cons, List.length_append, hq, Nat.add_assoc]
  have hnd := h.once
  simp only [List.map_append, List.map_cons] at hnd
  have h1 := List.nodup_append.1 hnd
  have hra : ∀ q ∈ ra, q.1 ≠ r.1 := fun q hq e => h1.2.2 q.1 (List.mem_map_of_mem hq) r.1 (by simp) e
  have hrb : ∀ q ∈ rb, q.1 ≠ r.1 := fun q hq e => (List.nodup_cons.1 h1.2.1).1 (e ▸ List.mem_map_of_mem hq)
  have hT : RiseP (plsV 8 ra []) := plsV_rise ra 8 [] List.Pairwise.nil
  have hn : getP r.1 (plsV 8 ra []) = none := (plsV_none r.1 ra 8 [] List.Pairwise.nil hra).trans rfl
  rw [happ ra (r :: rb) 8 [] (fun q hq => h.ok q (by simp [hq]))]
  simp only [plsV]
  rw [plsV_none r.1 rb _ _ (takeL_rise hT) hrb]
  have ht : takeL (placeV r (8 + (bytesV ra).length)) (plsV 8 ra []) = putP (placeV r (8 + (bytesV ra).length)) (plsV 8 ra []) := takeL_new hn
  rw [ht]
  exact getP_put_same (p := placeV r (8 + (bytesV ra).length)) hT
theorem getV_rec (id : Nat) (r : Rec) (ra rb : List Rec) (h : Fresh (ra ++ r :: rb)) (c : Nat) :
    getV r.1 c (plsV 8 (ra ++ r :: rb) []) (fileV id (ra ++ r :: rb)) = if r.2.1 ≠ c then ([], 10) else (r.2.2.2, 0) := by
  have hr := h.ok r (by simp)
  have hd := h.alive r (by simp)
  have e : fileV id (ra ++ r :: rb) = (headV id ++ bytesV ra) ++ recV r ++ bytesV rb := by simp [fileV, bytesV]
  have hl : (headV id ++ bytesV ra).length = 8 + (bytesV ra).length := by simp [headV_len]
  have hf := findL_rec hr (headV id ++ bytesV ra) (bytesV rb)
  rw [← e, hl] at hf
  unfold getV
  rw [plsV_at r ra rb h]
  have e1 : (placeV r (8 + (bytesV ra).length)).dead = false := hd
  have e2 : (placeV r (8 + (bytesV ra).length)).cook = r.2.1 := rfl
  simp only [e1, e2, hf]
  simp
end Go.Proofs.Ytehgjkckhjggbaa
