/- The contract of volume's own Get. No condition but the widths. -/
import Derived.Test.YtehgjkckhjggbaaVr21
import Derived.Test.YtehgjkckhjggbaaVr31
namespace Go.Proofs.Ytehgjkckhjggbaa
open Go.RowKit Go.Maps
/-- What Get answers, by what is there and the file's bytes. -/
def getV (k c : Nat) (T : PlL) (b : List Nat) : List Nat × Nat := match getP k T with
  | none => ([], 7)
  | some p => if p.dead = true then ([], 9) else if p.cook ≠ c then ([], 10) else match findL b p with
    | none => ([], 4)
    | some data => (data, 0)
def GetAns (w : World) (r : List Nat × Nat) (e : Ending) (w' : World) : Prop := ∃ u, e = .returned (.tuple #[u, .int .i64 (r.2 : Int)]) ∧ Own w' w.heap.size u r.1 ∧ Below w.heap.size w w'
theorem own_nilV (w : World) (B : Nat) : Own w B (.slice none 0 0) [] := World.ownsRow_nil _ _ _ _
theorem vget_nil (k c : Nat) (w : World) : Calls Try.prog 15 #[.pointer none, .int .u64 (k : Int), .int .u32 (c : Int)] w fun e w' => GetAns w ([], 7) e w' := by
  go_enter Try.func15, Try.ntmps15
  go_wp2_with fail
  refine bodyPost_ret (v := .tuple #[.slice none 0 0, .int .i64 7]) (by simp [results, Try.results15, go_sem]) rfl ⟨_, rfl, own_nilV _ _, Below.refl _ _⟩
theorem readL_fits {w : World} {F : Nat → Prop} {d room : Nat} {L : DiskL} (h : DiskAt w F d room L) (k : Str) : (∀ x ∈ (readL k L).1, x < 256) ∧ (readL k L).1.length ≤ 1073741824 := by
  unfold readL
  rcases e : getK k L with _ | a
  · exact ⟨(fun x hx => by cases hx), by decide⟩
  · have h9 := h.sane.len e
    exact ⟨(h.facts.2.2.2.2.1 _ (getK_mem e)).2, h9⟩
set_option maxRecDepth 100000 in
set_option maxHeartbeats 3200000 in
theorem vget_any {w : World} {F : Nat → Prop} {v d b room : Nat} {s : ByteArray} {T : PlL} {L : DiskL} (h : VolD w F v d b room s T L) (hs : s.size ≤ 1099511627776) (k c : Nat) (hk : k < 18446744073709551616) :
    Calls Try.prog 15 #[.pointer (some ⟨v, 0, none⟩), .int .u64 (k : Int), .int .u32 (c : Int)] w fun e w' => GetAns w (getV k c T (readL s.data.toList L).1) e w' := by
  have c2 : w.cell? ⟨v, 2, none⟩ = some (.map (some b)) := h.vol.blk.cell 2
  have hlook := look_pl h.vol.map k hk
  have hfit := h.vol.fit
  obtain ⟨fp, hfp⟩ : ∃ f, f = foundP (getP k T) := ⟨_, rfl⟩
  obtain ⟨is, his⟩ : ∃ i, i = (getP k T).isSome := ⟨_, rfl⟩
  rw [← hfp, ← his] at hlook
  obtain ⟨qk, qa, qn, qc, qd⟩ := fp
  unfold plV at hlook
  dsimp only at hlook
  have HV := hide h
  have HS := hide hs
  have HF := hide (And.intro hfp his)
  have HFI := hide hfit
  have HB := hide (readL_fits h.disk s.data.toList)
  obtain ⟨R, hR⟩ : ∃ R, R = getV k c T (readL s.data.toList L).1 := ⟨_, rfl⟩
  rw [← hR]
  have HR := hide hR
  clear h hs hfp his hfit hR
  go_enter Try.func15, Try.ntmps15
  rcases hgp : getP k T with _ | q
  · have e1 : is = false := by have h9 := HF.out.2; rw [hgp] at h9; exact h9
    subst e1
    have e2 : R = ([], 7) := by rw [HR.out]; unfold getV; rw [hgp]
    rw [e2]
    clear hgp e2
    go_wp2_with fail
    refine bodyPost_ret (v := .tuple #[.slice none 0 0, .int .i64 7]) (by simp [results, Try.results15, go_sem]) rfl ⟨_, rfl, own_nilV _ _, below_alloc _ _⟩
  · have e1 : is = true := by have h9 := HF.out.2; rw [hgp] at h9; exact h9
    subst e1
    have hq : q = ⟨qk, qa, qn, qc, qd⟩ := by have h9 := HF.out.1; rw [hgp] at h9; exact h9.symm
    subst hq
    have hfq := HFI.out _ (getP_mem hgp).1
    have hR2 : R = if qd = true then ([], 9) else if qc ≠ c then ([], 10) else match findL (readL s.data.toList L).1 ⟨qk, qa, qn, qc, qd⟩ with | none => ([], 4) | some data => (data, 0) := by rw [HR.out]; unfold getV; rw [hgp]
    have HQ := hide hfq
    have HR2 := hide hR2
    clear hgp hfq hR2
    cases qd with
    | true =>
      have e2 : R = ([], 9) := HR2.out
      rw [e2]
      clear e2
      go_wp2_with fail
      refine bodyPost_ret (v := .tuple #[.slice none 0 0, .int .i64 9]) (by simp [results, Try.results15, go_sem]) rfl ⟨_, rfl, own_nilV _ _, below_alloc _ _⟩
    | false =>
      by_cases hqc : qc = c
      rotate_left
      · have e2 : R = ([], 10) := by rw [HR2.out, if_neg (by decide), if_pos hqc]
        have hb : ((qc : Int) != (c : Int)) = true := by simp; omega
        rw [e2]
        clear e2 hqc
        go_wp2_with fail
        refine bodyPost_ret (v := .tuple #[.slice none 0 0, .int .i64 10]) (by simp [results, Try.results15, go_sem]) rfl ⟨_, rfl, own_nilV _ _, below_alloc _ _⟩
      · have hR3 : R = match findL (readL s.data.toList L).1 ⟨qk, qa, qn, qc, false⟩ with | none => ([], 4) | some data => (data, 0) := by rw [HR2.out, if_neg (by decide), if_neg (by simp [hqc])]
        have hb : ((qc : Int) != (c : Int)) = false := by simp; omega
        have HR3 := hide hR3
        clear hR3 HR2 HR hqc
        go_wp2_with fail
        clear hb hlook c2
        have ka := below_alloc w (.cells #[.int .u64 (qk : Int), .int .i64 (qa : Int), .int .i64 (qn : Int), .int .u32 (qc : Int), .bool false] 83)
        have b8 := Blk.new w (B := 0) 83 #[.int .u64 (qk : Int), .int .i64 (qa : Int), .int .i64 (qn : Int), .int .u32 (qc : Int), .bool false] (Nat.zero_le _)
        obtain ⟨g8, hg8⟩ : ∃ g, g = w.heap.size := ⟨_, rfl⟩
        obtain ⟨W, hW⟩ : ∃ W, W = w.alloc (.cells #[.int .u64 (qk : Int), .int .i64 (qa : Int), .int .i64 (qn : Int), .int .u32 (qc : Int), .bool false] 83) := ⟨_, rfl⟩
        rw [← hW] at ka b8 ⊢
        rw [← hg8] at b8 ⊢
        have HV := hide (HV.out.below ka)
        have B8 := hide b8
        have KW := hide ka
        clear hW hg8 ka b8
        obtain ⟨bs, hbs⟩ : ∃ bs, bs = (readL s.data.toList L).1 := ⟨_, rfl⟩
        obtain ⟨nb, hnb⟩ : ∃ nb, nb = bs.length := ⟨_, rfl⟩
        have HBS : Hid ((readL s.data.toList L).1 = bs ∧ nb = bs.length) := hide ⟨hbs.symm, hnb⟩
        have HBB : Hid ((∀ x ∈ bs, x < 256) ∧ nb ≤ 549755813888) := hide ⟨by rw [hbs]; exact HB.out.1, by rw [hnb, hbs]; have := HB.out.2; omega⟩
        rw [← hbs] at HR3
        clear hbs hnb HB
        refine heldT_top (fun W' => W'.cell? ⟨g8, 0, none⟩ = some (.int .u64 (qk : Int)) ∧ W'.cell? ⟨g8, 1, none⟩ = some (.int .i64 (qa : Int)) ∧ W'.cell? ⟨g8, 2, none⟩ = some (.int .i64 (qn : Int)) ∧ W'.cell? ⟨g8, 3, none⟩ = some (.int .u32 (qc : Int)) ∧ W'.cell? ⟨g8, 4, none⟩ = some (.bool false)) 10 #[false, false, false, false, false, false, false, false, false, false] (by kernel_rfl) (by kernel_rfl) (by kernel_rfl) ?_
        have hHeld : (fun W' => W'.cell? ⟨g8, 0, none⟩ = some (.int .u64 (qk : Int)) ∧ W'.cell? ⟨g8, 1, none⟩ = some (.int .i64 (qa : Int)) ∧ W'.cell? ⟨g8, 2, none⟩ = some (.int .i64 (qn : Int)) ∧ W'.cell? ⟨g8, 3, none⟩ = some (.int .u32 (qc : Int)) ∧ W'.cell? ⟨g8, 4, none⟩ = some (.bool false)) (W.drewN 1) := ⟨B8.out.cell 0, B8.out.cell 1, B8.out.cell 2, B8.out.cell 3, B8.out.cell 4⟩
        have B8 := hide (B8.out.drewN 1)
        have HV := hide (HV.out.below (below_drewN (Below.refl _ _) 1))
        have KW := hide (below_drewN KW.out 1)
        change wpAnyH _ _ _ _ _ _ _ _ (W.drewN 1)
        generalize W.drewN 1 = U at *
        refine' wpAnyH_take (i := 0) (oi := ⟨_, _, _, _, _, _⟩) (v := _) rfl (by kernel_rfl) (by kernel_rfl) (by kernel_rfl) (fun _ _ _ h => h) (Or.inl ⟨rfl, ?_⟩) hHeld ?_
        rotate_left
        · (intro W' hW; (try dsimp only at hW); obtain ⟨z0, z1, z2, z3, z4⟩ := hW; go_simp; (try with_reducible rfl))
        try simp only [Act.put, List.setIfInBounds_toArray, List.set_cons_zero, List.set_cons_succ]
        refine' wpAnyH_take (i := 2) (oi := ⟨_, _, _, _, _, _⟩) (v := _) rfl (by kernel_rfl) (by kernel_rfl) (by kernel_rfl) (fun _ _ _ h => h) (Or.inl ⟨rfl, ?_⟩) hHeld ?_
        rotate_left
        · (intro W' hW; (try dsimp only at hW); obtain ⟨z0, z1, z2, z3, z4⟩ := hW; go_simp; (try with_reducible rfl))
        try simp only [Act.put, List.setIfInBounds_toArray, List.set_cons_zero, List.set_cons_succ]
        clear hHeld
        rcases hfl : findL bs ⟨qk, qa, qn, qc, false⟩ with _ | data
        · have HFL := hide hfl
          have HE : Hid (R = ([], 4)) := hide (by rw [HR3.out, hfl])
          clear hfl HR3
          refine heldT_two (i := 1) (j := 7) (by kernel_rfl) rfl rfl (fun K' hK => ?_) (fun K' hK => ?_)
          · skip
            go_simp
            go_at_call 52
            refine (vbytes_any HV.out HS.out).mono ?_
            rintro e u2 ⟨v1, rfl, o1, k1⟩
            rw [HBS.out.1] at o1
            obtain ⟨A1, c1, rfl, i1, l1, m1⟩ := o1.isB.form HBS.out.2.symm
            have I1 := hide o1.isB
            have B8 := hide (B8.out.keep k1)
            have KW := hide (KW.out.trans (k1.mono KW.out.size))
            clear o1 k1 i1 HV
            refine hK.out _ _ ⟨B8.out.cell 0, B8.out.cell 1, B8.out.cell 2, B8.out.cell 3, B8.out.cell 4⟩ ?_
            clear hK
            try simp only [List.setIfInBounds_toArray, List.set_cons_zero, List.set_cons_succ]
            refine heldT_two (i := 3) (j := 7) (by kernel_rfl) rfl rfl (fun K' hK => ?_) (fun K' hK => ?_)
            · skip
              go_simp
              go_at_call 51
              have hf := vfind_any A1 nb c1 bs ⟨qk, qa, qn, qc, false⟩ _ I1.out HBB.out.1 HBB.out.2 HQ.out
              rw [HFL.out] at hf
              unfold plV at hf
              dsimp only at hf
              refine hf.mono ?_
              clear hf
              rintro e u3 ⟨k2, rfl⟩
              have B8 := hide (B8.out.keep k2)
              have KW := hide (KW.out.trans (k2.mono KW.out.size))
              clear k2
              refine hK.out _ _ ⟨B8.out.cell 0, B8.out.cell 1, B8.out.cell 2, B8.out.cell 3, B8.out.cell 4⟩ ?_
              clear hK
              try simp only [List.setIfInBounds_toArray, List.set_cons_zero, List.set_cons_succ]
              have hHeld : (fun W' => W'.cell? ⟨g8, 0, none⟩ = some (.int .u64 (qk : Int)) ∧ W'.cell? ⟨g8, 1, none⟩ = some (.int .i64 (qa : Int)) ∧ W'.cell? ⟨g8, 2, none⟩ = some (.int .i64 (qn : Int)) ∧ W'.cell? ⟨g8, 3, none⟩ = some (.int .u32 (qc : Int)) ∧ W'.cell? ⟨g8, 4, none⟩ = some (.bool false)) u3 := ⟨B8.out.cell 0, B8.out.cell 1, B8.out.cell 2, B8.out.cell 3, B8.out.cell 4⟩
              refine' wpAnyH_take (i := 4) (oi := ⟨_, _, _, _, _, _⟩) (v := _) rfl (by kernel_rfl) (by kernel_rfl) (by kernel_rfl) (fun _ _ _ h => h) (Or.inl ⟨rfl, ?_⟩) hHeld ?_
              rotate_left
              · (intro W' hW; (try dsimp only at hW); obtain ⟨z0, z1, z2, z3, z4⟩ := hW; go_simp; (try with_reducible rfl))
              try simp only [Act.put, List.setIfInBounds_toArray, List.set_cons_zero, List.set_cons_succ]
              refine' wpAnyH_take (i := 5) (oi := ⟨_, _, _, _, _, _⟩) (v := _) rfl (by kernel_rfl) (by kernel_rfl) (by kernel_rfl) (fun _ _ _ h => h) (Or.inl ⟨rfl, ?_⟩) hHeld ?_
              rotate_left
              · (intro W' hW; (try dsimp only at hW); obtain ⟨z0, z1, z2, z3, z4⟩ := hW; go_simp; (try with_reducible rfl))
              try simp only [Act.put, List.setIfInBounds_toArray, List.set_cons_zero, List.set_cons_succ]
              refine' wpAnyH_take (i := 6) (oi := ⟨_, _, _, _, _, _⟩) (v := _) rfl (by kernel_rfl) (by kernel_rfl) (by kernel_rfl) (fun _ _ _ h => h) (Or.inl ⟨rfl, ?_⟩) hHeld ?_
              rotate_left
              · (intro W' hW; (try dsimp only at hW); obtain ⟨z0, z1, z2, z3, z4⟩ := hW; go_simp; (try with_reducible rfl))
              try simp only [Act.put, List.setIfInBounds_toArray, List.set_cons_zero, List.set_cons_succ]
              clear hHeld
              refine heldT_one (i := 7) (by kernel_rfl) rfl (fun K' hK => ?_)
              go_simp
              have ka := below_alloc u3 (.cells #[.int .u64 0, .int .u32 0, .bool false, .slice none 0 0] 35)
              have B8' := hide (B8.out.keep ka)
              refine hK.out _ _ ⟨B8'.out.cell 0, B8'.out.cell 1, B8'.out.cell 2, B8'.out.cell 3, B8'.out.cell 4⟩ ?_
              clear hK
              try simp only [List.setIfInBounds_toArray, List.set_cons_zero, List.set_cons_succ]
              clear B8' ka
              refine heldT_one (i := 8) (by kernel_rfl) rfl (fun K' hK => ?_)
              go_simp
              have ka := below_alloc u3 (.cells #[.int .u64 0, .int .u32 0, .bool false, .slice none 0 0] 35)
              have bg := Blk.new u3 (B := 0) 35 #[.int .u64 0, .int .u32 0, .bool false, .slice none 0 0] (Nat.zero_le _)
              have B8' := hide (B8.out.keep ka)
              refine hK.out _ _ ⟨B8'.out.cell 0, B8'.out.cell 1, B8'.out.cell 2, B8'.out.cell 3, B8'.out.cell 4⟩ ?_
              clear hK
              try simp only [List.setIfInBounds_toArray, List.set_cons_zero, List.set_cons_succ]
              have x3 := bg.cell 3
              dsimp only [Array.toList, List.getElem?_cons_succ, List.getElem?_cons_zero] at x3
              have KE := hide (KW.out.trans (ka.mono KW.out.size))
              have hHeld : (fun W' => W'.cell? ⟨g8, 0, none⟩ = some (.int .u64 (qk : Int)) ∧ W'.cell? ⟨g8, 1, none⟩ = some (.int .i64 (qa : Int)) ∧ W'.cell? ⟨g8, 2, none⟩ = some (.int .i64 (qn : Int)) ∧ W'.cell? ⟨g8, 3, none⟩ = some (.int .u32 (qc : Int)) ∧ W'.cell? ⟨g8, 4, none⟩ = some (.bool false)) (u3.alloc (.cells #[.int .u64 0, .int .u32 0, .bool false, .slice none 0 0] 35)) := ⟨B8'.out.cell 0, B8'.out.cell 1, B8'.out.cell 2, B8'.out.cell 3, B8'.out.cell 4⟩
              refine' wpAnyH_take (i := 9) (oi := ⟨_, _, _, _, _, _⟩) (v := _) rfl (by kernel_rfl) (by kernel_rfl) (by kernel_rfl) (fun _ _ _ h => h) (Or.inl ⟨rfl, ?_⟩) hHeld ?_
              rotate_left
              · (intro W' hW; (try dsimp only at hW); obtain ⟨z0, z1, z2, z3, z4⟩ := hW; go_simp; (try with_reducible rfl))
              try simp only [Act.put, List.setIfInBounds_toArray, List.set_cons_zero, List.set_cons_succ]
              refine wpAnyH_done (by kernel_rfl) ?_ _
              clear hHeld
              go_wp2_with fail
              rw [HE.out]
              refine bodyPost_ret (v := .tuple #[.slice none 0 0, .int .i64 4]) (by simp [results, Try.results15, go_sem]) rfl ⟨_, rfl, own_nilV _ _, KE.out⟩
            · skip
              go_simp
              have ka := below_alloc u2 (.cells #[.int .u64 0, .int .u32 0, .bool false, .slice none 0 0] 35)
              have B8' := hide (B8.out.keep ka)
              refine hK.out _ _ ⟨B8'.out.cell 0, B8'.out.cell 1, B8'.out.cell 2, B8'.out.cell 3, B8'.out.cell 4⟩ ?_
              clear hK
              try simp only [List.setIfInBounds_toArray, List.set_cons_zero, List.set_cons_succ]
              have bg := Blk.new u2 (B := 0) 35 #[.int .u64 0, .int .u32 0, .bool false, .slice none 0 0] (Nat.zero_le _)
              obtain ⟨g10, hg10⟩ : ∃ g, g = u2.heap.size := ⟨_, rfl⟩
              have hgl : w.heap.size ≤ g10 := by rw [hg10]; exact KW.out.size
              obtain ⟨Z, hZ⟩ : ∃ Z, Z = u2.alloc (.cells #[.int .u64 0, .int .u32 0, .bool false, .slice none 0 0] 35) := ⟨_, rfl⟩
              have KW' := KW.out.trans (ka.mono KW.out.size)
              have I1' := I1.out.keep ka
              rw [← hZ] at B8' bg KW' I1' ⊢
              rw [← hg10] at bg ⊢
              clear B8 KW I1
              have B8 := B8'
              have BG := hide bg
              have KW := hide KW'
              have GL := hide hgl
              have I1 := hide I1'
              clear I1'
              clear B8' bg KW' hgl hg10 hZ ka
              refine heldT_one (i := 3) (by kernel_rfl) rfl (fun K' hK => ?_)
              go_simp
              go_at_call 51
              have hf := vfind_any A1 nb c1 bs ⟨qk, qa, qn, qc, false⟩ _ I1.out HBB.out.1 HBB.out.2 HQ.out
              rw [HFL.out] at hf
              unfold plV at hf
              dsimp only at hf
              refine hf.mono ?_
              clear hf
              rintro e u3 ⟨k2, rfl⟩
              have B8 := hide (B8.out.keep k2)
              have BG := hide (BG.out.keep k2)
              have KW := hide (KW.out.trans (k2.mono KW.out.size))
              clear k2
              refine hK.out _ _ ⟨B8.out.cell 0, B8.out.cell 1, B8.out.cell 2, B8.out.cell 3, B8.out.cell 4⟩ ?_
              clear hK
              try simp only [List.setIfInBounds_toArray, List.set_cons_zero, List.set_cons_succ]
              have hHeld : (fun W' => W'.cell? ⟨g8, 0, none⟩ = some (.int .u64 (qk : Int)) ∧ W'.cell? ⟨g8, 1, none⟩ = some (.int .i64 (qa : Int)) ∧ W'.cell? ⟨g8, 2, none⟩ = some (.int .i64 (qn : Int)) ∧ W'.cell? ⟨g8, 3, none⟩ = some (.int .u32 (qc : Int)) ∧ W'.cell? ⟨g8, 4, none⟩ = some (.bool false)) u3 := ⟨B8.out.cell 0, B8.out.cell 1, B8.out.cell 2, B8.out.cell 3, B8.out.cell 4⟩
              refine' wpAnyH_take (i := 4) (oi := ⟨_, _, _, _, _, _⟩) (v := _) rfl (by kernel_rfl) (by kernel_rfl) (by kernel_rfl) (fun _ _ _ h => h) (Or.inl ⟨rfl, ?_⟩) hHeld ?_
              rotate_left
              · (intro W' hW; (try dsimp only at hW); obtain ⟨z0, z1, z2, z3, z4⟩ := hW; go_simp; (try with_reducible rfl))
              try simp only [Act.put, List.setIfInBounds_toArray, List.set_cons_zero, List.set_cons_succ]
              refine' wpAnyH_take (i := 5) (oi := ⟨_, _, _, _, _, _⟩) (v := _) rfl (by kernel_rfl) (by kernel_rfl) (by kernel_rfl) (fun _ _ _ h => h) (Or.inl ⟨rfl, ?_⟩) hHeld ?_
              rotate_left
              · (intro W' hW; (try dsimp only at hW); obtain ⟨z0, z1, z2, z3, z4⟩ := hW; go_simp; (try with_reducible rfl))
              try simp only [Act.put, List.setIfInBounds_toArray, List.set_cons_zero, List.set_cons_succ]
              refine' wpAnyH_take (i := 6) (oi := ⟨_, _, _, _, _, _⟩) (v := _) rfl (by kernel_rfl) (by kernel_rfl) (by kernel_rfl) (fun _ _ _ h => h) (Or.inl ⟨rfl, ?_⟩) hHeld ?_
              rotate_left
              · (intro W' hW; (try dsimp only at hW); obtain ⟨z0, z1, z2, z3, z4⟩ := hW; go_simp; (try with_reducible rfl))
              try simp only [Act.put, List.setIfInBounds_toArray, List.set_cons_zero, List.set_cons_succ]
              clear hHeld
              refine heldT_one (i := 8) (by kernel_rfl) rfl (fun K' hK => ?_)
              have q0 := BG.out.cell 0
              have q1 := BG.out.cell 1
              have q2 := BG.out.cell 2
              have q3 := BG.out.cell 3
              dsimp only [Array.toList, List.getElem?_cons_succ, List.getElem?_cons_zero] at q0 q1 q2 q3
              have f0 := BG.out.frozen 0
              have f1 := BG.out.frozen 1
              have f2 := BG.out.frozen 2
              have f3 := BG.out.frozen 3
              go_simp
              have bz := (put4_ BG.out (.int .u64 0) (.int .u32 0) (.bool false) (.slice none 0 0) _ rfl).1
              have kz := ((((Below.refl w.heap.size u3).setCell (p := ⟨g10, 0, none⟩) GL.out (.int .u64 0)).setCell (p := ⟨g10, 1, none⟩) GL.out (.int .u32 0)).setCell (p := ⟨g10, 2, none⟩) GL.out (.bool false)).setCell (p := ⟨g10, 3, none⟩) GL.out (.slice none 0 0)
              have tz : Turn (fun k => k = g10) u3 ((((u3.setCell ⟨g10, 0, none⟩ (.int .u64 0)).setCell ⟨g10, 1, none⟩ (.int .u32 0)).setCell ⟨g10, 2, none⟩ (.bool false)).setCell ⟨g10, 3, none⟩ (.slice none 0 0)) := by
                have o : ∀ (W : World) (i : Nat) (v : Value), Turn (fun k => k = g10) W (W.setCell ⟨g10, i, none⟩ v) := fun W i v => (Turn.of_grown (grown_set W g10 i v)).mono (S' := fun k => k = g10) (fun i e => Option.some.inj e)
                exact (((o _ _ _).trans (o _ _ _)).trans (o _ _ _)).trans (o _ _ _)
              have hne : ¬ g8 = g10 := (B8.out.ne BG.out (by decide))
              have B8' := hide (B8.out.turn tz hne)
              refine hK.out _ _ ⟨B8'.out.cell 0, B8'.out.cell 1, B8'.out.cell 2, B8'.out.cell 3, B8'.out.cell 4⟩ ?_
              clear hK q0 q1 q2 q3 f0 f1 f2 f3
              try simp only [List.setIfInBounds_toArray, List.set_cons_zero, List.set_cons_succ]
              have x3 := bz.cell 3
              dsimp only [List.getElem?_cons_succ, List.getElem?_cons_zero] at x3
              have KE := hide (KW.out.trans kz)
              have hHeld : (fun W' => W'.cell? ⟨g8, 0, none⟩ = some (.int .u64 (qk : Int)) ∧ W'.cell? ⟨g8, 1, none⟩ = some (.int .i64 (qa : Int)) ∧ W'.cell? ⟨g8, 2, none⟩ = some (.int .i64 (qn : Int)) ∧ W'.cell? ⟨g8, 3, none⟩ = some (.int .u32 (qc : Int)) ∧ W'.cell? ⟨g8, 4, none⟩ = some (.bool false)) ((((u3.setCell ⟨g10, 0, none⟩ (.int .u64 0)).setCell ⟨g10, 1, none⟩ (.int .u32 0)).setCell ⟨g10, 2, none⟩ (.bool false)).setCell ⟨g10, 3, none⟩ (.slice none 0 0)) := ⟨B8'.out.cell 0, B8'.out.cell 1, B8'.out.cell 2, B8'.out.cell 3, B8'.out.cell 4⟩
              clear kz tz bz
              refine' wpAnyH_take (i := 9) (oi := ⟨_, _, _, _, _, _⟩) (v := _) rfl (by kernel_rfl) (by kernel_rfl) (by kernel_rfl) (fun _ _ _ h => h) (Or.inl ⟨rfl, ?_⟩) hHeld ?_
              rotate_left
              · (intro W' hW; (try dsimp only at hW); obtain ⟨z0, z1, z2, z3, z4⟩ := hW; go_simp; (try with_reducible rfl))
              try simp only [Act.put, List.setIfInBounds_toArray, List.set_cons_zero, List.set_cons_succ]
              refine wpAnyH_done (by kernel_rfl) ?_ _
              clear hHeld
              go_wp2_with fail
              rw [HE.out]
              refine bodyPost_ret (v := .tuple #[.slice none 0 0, .int .i64 4]) (by simp [results, Try.results15, go_sem]) rfl ⟨_, rfl, own_nilV _ _, KE.out⟩
          · skip
            go_simp
            have ka := below_alloc U (.cells #[.int .u64 0, .int .u32 0, .bool false, .slice none 0 0] 35)
            have B8' := hide (B8.out.keep ka)
            refine hK.out _ _ ⟨B8'.out.cell 0, B8'.out.cell 1, B8'.out.cell 2, B8'.out.cell 3, B8'.out.cell 4⟩ ?_
            clear hK
            try simp only [List.setIfInBounds_toArray, List.set_cons_zero, List.set_cons_succ]
            have bg := Blk.new U (B := 0) 35 #[.int .u64 0, .int .u32 0, .bool false, .slice none 0 0] (Nat.zero_le _)
            obtain ⟨g10, hg10⟩ : ∃ g, g = U.heap.size := ⟨_, rfl⟩
            have hgl : w.heap.size ≤ g10 := by rw [hg10]; exact KW.out.size
            obtain ⟨Z, hZ⟩ : ∃ Z, Z = U.alloc (.cells #[.int .u64 0, .int .u32 0, .bool false, .slice none 0 0] 35) := ⟨_, rfl⟩
            have KW' := KW.out.trans (ka.mono KW.out.size)
            have HV' := HV.out.below ka
            rw [← hZ] at B8' bg KW' HV' ⊢
            rw [← hg10] at bg ⊢
            clear B8 KW HV
            have B8 := B8'
            have BG := hide bg
            have KW := hide KW'
            have GL := hide hgl
            have HV := hide HV'
            clear HV'
            clear B8' bg KW' hgl hg10 hZ ka
            refine heldT_one (i := 1) (by kernel_rfl) rfl (fun K' hK => ?_)
            go_simp
            go_at_call 52
            refine (vbytes_any HV.out HS.out).mono ?_
            rintro e u2 ⟨v1, rfl, o1, k1⟩
            rw [HBS.out.1] at o1
            obtain ⟨A1, c1, rfl, i1, l1, m1⟩ := o1.isB.form HBS.out.2.symm
            have I1 := hide o1.isB
            have B8 := hide (B8.out.keep k1)
            have BG := hide (BG.out.keep k1)
            have KW := hide (KW.out.trans (k1.mono KW.out.size))
            clear o1 k1 i1 HV
            refine hK.out _ _ ⟨B8.out.cell 0, B8.out.cell 1, B8.out.cell 2, B8.out.cell 3, B8.out.cell 4⟩ ?_
            clear hK
            try simp only [List.setIfInBounds_toArray, List.set_cons_zero, List.set_cons_succ]
            refine heldT_one (i := 3) (by kernel_rfl) rfl (fun K' hK => ?_)
            go_simp
            go_at_call 51
            have hf := vfind_any A1 nb c1 bs ⟨qk, qa, qn, qc, false⟩ _ I1.out HBB.out.1 HBB.out.2 HQ.out
            rw [HFL.out] at hf
            unfold plV at hf
            dsimp only at hf
            refine hf.mono ?_
            clear hf
            rintro e u3 ⟨k2, rfl⟩
            have B8 := hide (B8.out.keep k2)
            have BG := hide (BG.out.keep k2)
            have KW := hide (KW.out.trans (k2.mono KW.out.size))
            clear k2
            refine hK.out _ _ ⟨B8.out.cell 0, B8.out.cell 1, B8.out.cell 2, B8.out.cell 3, B8.out.cell 4⟩ ?_
            clear hK
            try simp only [List.setIfInBounds_toArray, List.set_cons_zero, List.set_cons_succ]
            have hHeld : (fun W' => W'.cell? ⟨g8, 0, none⟩ = some (.int .u64 (qk : Int)) ∧ W'.cell? ⟨g8, 1, none⟩ = some (.int .i64 (qa : Int)) ∧ W'.cell? ⟨g8, 2, none⟩ = some (.int .i64 (qn : Int)) ∧ W'.cell? ⟨g8, 3, none⟩ = some (.int .u32 (qc : Int)) ∧ W'.cell? ⟨g8, 4, none⟩ = some (.bool false)) u3 := ⟨B8.out.cell 0, B8.out.cell 1, B8.out.cell 2, B8.out.cell 3, B8.out.cell 4⟩
            refine' wpAnyH_take (i := 4) (oi := ⟨_, _, _, _, _, _⟩) (v := _) rfl (by kernel_rfl) (by kernel_rfl) (by kernel_rfl) (fun _ _ _ h => h) (Or.inl ⟨rfl, ?_⟩) hHeld ?_
            rotate_left
            · (intro W' hW; (try dsimp only at hW); obtain ⟨z0, z1, z2, z3, z4⟩ := hW; go_simp; (try with_reducible rfl))
            try simp only [Act.put, List.setIfInBounds_toArray, List.set_cons_zero, List.set_cons_succ]
            refine' wpAnyH_take (i := 5) (oi := ⟨_, _, _, _, _, _⟩) (v := _) rfl (by kernel_rfl) (by kernel_rfl) (by kernel_rfl) (fun _ _ _ h => h) (Or.inl ⟨rfl, ?_⟩) hHeld ?_
            rotate_left
            · (intro W' hW; (try dsimp only at hW); obtain ⟨z0, z1, z2, z3, z4⟩ := hW; go_simp; (try with_reducible rfl))
            try simp only [Act.put, List.setIfInBounds_toArray, List.set_cons_zero, List.set_cons_succ]
            refine' wpAnyH_take (i := 6) (oi := ⟨_, _, _, _, _, _⟩) (v := _) rfl (by kernel_rfl) (by kernel_rfl) (by kernel_rfl) (fun _ _ _ h => h) (Or.inl ⟨rfl, ?_⟩) hHeld ?_
            rotate_left
            · (intro W' hW; (try dsimp only at hW); obtain ⟨z0, z1, z2, z3, z4⟩ := hW; go_simp; (try with_reducible rfl))
            try simp only [Act.put, List.setIfInBounds_toArray, List.set_cons_zero, List.set_cons_succ]
            clear hHeld
            refine heldT_one (i := 8) (by kernel_rfl) rfl (fun K' hK => ?_)
            have q0 := BG.out.cell 0
            have q1 := BG.out.cell 1
            have q2 := BG.out.cell 2
            have q3 := BG.out.cell 3
            dsimp only [Array.toList, List.getElem?_cons_succ, List.getElem?_cons_zero] at q0 q1 q2 q3
            have f0 := BG.out.frozen 0
            have f1 := BG.out.frozen 1
            have f2 := BG.out.frozen 2
            have f3 := BG.out.frozen 3
            go_simp
            have bz := (put4_ BG.out (.int .u64 0) (.int .u32 0) (.bool false) (.slice none 0 0) _ rfl).1
            have kz := ((((Below.refl w.heap.size u3).setCell (p := ⟨g10, 0, none⟩) GL.out (.int .u64 0)).setCell (p := ⟨g10, 1, none⟩) GL.out (.int .u32 0)).setCell (p := ⟨g10, 2, none⟩) GL.out (.bool false)).setCell (p := ⟨g10, 3, none⟩) GL.out (.slice none 0 0)
            have tz : Turn (fun k => k = g10) u3 ((((u3.setCell ⟨g10, 0, none⟩ (.int .u64 0)).setCell ⟨g10, 1, none⟩ (.int .u32 0)).setCell ⟨g10, 2, none⟩ (.bool false)).setCell ⟨g10, 3, none⟩ (.slice none 0 0)) := by
              have o : ∀ (W : World) (i : Nat) (v : Value), Turn (fun k => k = g10) W (W.setCell ⟨g10, i, none⟩ v) := fun W i v => (Turn.of_grown (grown_set W g10 i v)).mono (S' := fun k => k = g10) (fun i e => Option.some.inj e)
              exact (((o _ _ _).trans (o _ _ _)).trans (o _ _ _)).trans (o _ _ _)
            have hne : ¬ g8 = g10 := (B8.out.ne BG.out (by decide))
            have B8' := hide (B8.out.turn tz hne)
            refine hK.out _ _ ⟨B8'.out.cell 0, B8'.out.cell 1, B8'.out.cell 2, B8'.out.cell 3, B8'.out.cell 4⟩ ?_
            clear hK q0 q1 q2 q3 f0 f1 f2 f3
            try simp only [List.setIfInBounds_toArray, List.set_cons_zero, List.set_cons_succ]
            have x3 := bz.cell 3
            dsimp only [List.getElem?_cons_succ, List.getElem?_cons_zero] at x3
            have KE := hide (KW.out.trans kz)
            have hHeld : (fun W' => W'.cell? ⟨g8, 0, none⟩ = some (.int .u64 (qk : Int)) ∧ W'.cell? ⟨g8, 1, none⟩ = some (.int .i64 (qa : Int)) ∧ W'.cell? ⟨g8, 2, none⟩ = some (.int .i64 (qn : Int)) ∧ W'.cell? ⟨g8, 3, none⟩ = some (.int .u32 (qc : Int)) ∧ W'.cell? ⟨g8, 4, none⟩ = some (.bool false)) ((((u3.setCell ⟨g10, 0, none⟩ (.int .u64 0)).setCell ⟨g10, 1, none⟩ (.int .u32 0)).setCell ⟨g10, 2, none⟩ (.bool false)).setCell ⟨g10, 3, none⟩ (.slice none 0 0)) := ⟨B8'.out.cell 0, B8'.out.cell 1, B8'.out.cell 2, B8'.out.cell 3, B8'.out.cell 4⟩
            clear kz tz bz
            refine' wpAnyH_take (i := 9) (oi := ⟨_, _, _, _, _, _⟩) (v := _) rfl (by kernel_rfl) (by kernel_rfl) (by kernel_rfl) (fun _ _ _ h => h) (Or.inl ⟨rfl, ?_⟩) hHeld ?_
            rotate_left
            · (intro W' hW; (try dsimp only at hW); obtain ⟨z0, z1, z2, z3, z4⟩ := hW; go_simp; (try with_reducible rfl))
            try simp only [Act.put, List.setIfInBounds_toArray, List.set_cons_zero, List.set_cons_succ]
            refine wpAnyH_done (by kernel_rfl) ?_ _
            clear hHeld
            go_wp2_with fail
            rw [HE.out]
            refine bodyPost_ret (v := .tuple #[.slice none 0 0, .int .i64 4]) (by simp [results, Try.results15, go_sem]) rfl ⟨_, rfl, own_nilV _ _, KE.out⟩
        · have HFL := hide hfl
          have HE : Hid (R = (data, 0)) := hide (by rw [HR3.out, hfl])
          obtain ⟨n2, hn2⟩ : ∃ n2, n2 = data.length := ⟨_, rfl⟩
          have HDN := hide hn2
          clear hfl HR3 hn2
          refine heldT_two (i := 1) (j := 7) (by kernel_rfl) rfl rfl (fun K' hK => ?_) (fun K' hK => ?_)
          · skip
            go_simp
            go_at_call 52
            refine (vbytes_any HV.out HS.out).mono ?_
            rintro e u2 ⟨v1, rfl, o1, k1⟩
            rw [HBS.out.1] at o1
            obtain ⟨A1, c1, rfl, i1, l1, m1⟩ := o1.isB.form HBS.out.2.symm
            have I1 := hide o1.isB
            have B8 := hide (B8.out.keep k1)
            have KW := hide (KW.out.trans (k1.mono KW.out.size))
            clear o1 k1 i1 HV
            refine hK.out _ _ ⟨B8.out.cell 0, B8.out.cell 1, B8.out.cell 2, B8.out.cell 3, B8.out.cell 4⟩ ?_
            clear hK
            try simp only [List.setIfInBounds_toArray, List.set_cons_zero, List.set_cons_succ]
            refine heldT_two (i := 3) (j := 7) (by kernel_rfl) rfl rfl (fun K' hK => ?_) (fun K' hK => ?_)
            · skip
              go_simp
              go_at_call 51
              have hf := vfind_any A1 nb c1 bs ⟨qk, qa, qn, qc, false⟩ _ I1.out HBB.out.1 HBB.out.2 HQ.out
              rw [HFL.out] at hf
              unfold plV at hf
              dsimp only at hf
              refine hf.mono ?_
              clear hf
              rintro e u3 ⟨k2, s0, rfl, o2⟩
              obtain ⟨A2, c2, rfl, i2, l2, m2⟩ := o2.isB.form HDN.out.symm
              have O2 := hide (o2.more KW.out.size)
              dsimp only
              have B8 := hide (B8.out.keep k2)
              have KW := hide (KW.out.trans (k2.mono KW.out.size))
              clear k2 o2 i2
              refine hK.out _ _ ⟨B8.out.cell 0, B8.out.cell 1, B8.out.cell 2, B8.out.cell 3, B8.out.cell 4⟩ ?_
              clear hK
              try simp only [List.setIfInBounds_toArray, List.set_cons_zero, List.set_cons_succ]
              have hHeld : (fun W' => W'.cell? ⟨g8, 0, none⟩ = some (.int .u64 (qk : Int)) ∧ W'.cell? ⟨g8, 1, none⟩ = some (.int .i64 (qa : Int)) ∧ W'.cell? ⟨g8, 2, none⟩ = some (.int .i64 (qn : Int)) ∧ W'.cell? ⟨g8, 3, none⟩ = some (.int .u32 (qc : Int)) ∧ W'.cell? ⟨g8, 4, none⟩ = some (.bool false)) u3 := ⟨B8.out.cell 0, B8.out.cell 1, B8.out.cell 2, B8.out.cell 3, B8.out.cell 4⟩
              refine' wpAnyH_take (i := 4) (oi := ⟨_, _, _, _, _, _⟩) (v := _) rfl (by kernel_rfl) (by kernel_rfl) (by kernel_rfl) (fun _ _ _ h => h) (Or.inl ⟨rfl, ?_⟩) hHeld ?_
              rotate_left
              · (intro W' hW; (try dsimp only at hW); obtain ⟨z0, z1, z2, z3, z4⟩ := hW; go_simp; (try with_reducible rfl))
              try simp only [Act.put, List.setIfInBounds_toArray, List.set_cons_zero, List.set_cons_succ]
              refine' wpAnyH_take (i := 5) (oi := ⟨_, _, _, _, _, _⟩) (v := _) rfl (by kernel_rfl) (by kernel_rfl) (by kernel_rfl) (fun _ _ _ h => h) (Or.inl ⟨rfl, ?_⟩) hHeld ?_
              rotate_left
              · (intro W' hW; (try dsimp only at hW); obtain ⟨z0, z1, z2, z3, z4⟩ := hW; go_simp; (try with_reducible rfl))
              try simp only [Act.put, List.setIfInBounds_toArray, List.set_cons_zero, List.set_cons_succ]
              refine' wpAnyH_take (i := 6) (oi := ⟨_, _, _, _, _, _⟩) (v := _) rfl (by kernel_rfl) (by kernel_rfl) (by kernel_rfl) (fun _ _ _ h => h) (Or.inl ⟨rfl, ?_⟩) hHeld ?_
              rotate_left
              · (intro W' hW; (try dsimp only at hW); obtain ⟨z0, z1, z2, z3, z4⟩ := hW; go_simp; (try with_reducible rfl))
              try simp only [Act.put, List.setIfInBounds_toArray, List.set_cons_zero, List.set_cons_succ]
              clear hHeld
              refine heldT_one (i := 7) (by kernel_rfl) rfl (fun K' hK => ?_)
              go_simp
              have ka := below_alloc u3 (.cells #[.int .u64 0, .int .u32 0, .bool false, .slice none 0 0] 35)
              have B8' := hide (B8.out.keep ka)
              refine hK.out _ _ ⟨B8'.out.cell 0, B8'.out.cell 1, B8'.out.cell 2, B8'.out.cell 3, B8'.out.cell 4⟩ ?_
              clear hK
              try simp only [List.setIfInBounds_toArray, List.set_cons_zero, List.set_cons_succ]
              clear B8' ka
              refine heldT_one (i := 8) (by kernel_rfl) rfl (fun K' hK => ?_)
              go_simp
              have ka := below_alloc u3 (.cells #[.int .u64 (qk : Int), .int .u32 (qc : Int), .bool false, .slice A2 n2 c2] 35)
              have bg := Blk.new u3 (B := 0) 35 #[.int .u64 (qk : Int), .int .u32 (qc : Int), .bool false, .slice A2 n2 c2] (Nat.zero_le _)
              have B8' := hide (B8.out.keep ka)
              refine hK.out _ _ ⟨B8'.out.cell 0, B8'.out.cell 1, B8'.out.cell 2, B8'.out.cell 3, B8'.out.cell 4⟩ ?_
              clear hK
              try simp only [List.setIfInBounds_toArray, List.set_cons_zero, List.set_cons_succ]
              have x3 := bg.cell 3
              dsimp only [Array.toList, List.getElem?_cons_succ, List.getElem?_cons_zero] at x3
              have KE := hide (KW.out.trans (ka.mono KW.out.size))
              have OE := hide (O2.out.keep ka)
              have hHeld : (fun W' => W'.cell? ⟨g8, 0, none⟩ = some (.int .u64 (qk : Int)) ∧ W'.cell? ⟨g8, 1, none⟩ = some (.int .i64 (qa : Int)) ∧ W'.cell? ⟨g8, 2, none⟩ = some (.int .i64 (qn : Int)) ∧ W'.cell? ⟨g8, 3, none⟩ = some (.int .u32 (qc : Int)) ∧ W'.cell? ⟨g8, 4, none⟩ = some (.bool false)) (u3.alloc (.cells #[.int .u64 (qk : Int), .int .u32 (qc : Int), .bool false, .slice A2 n2 c2] 35)) := ⟨B8'.out.cell 0, B8'.out.cell 1, B8'.out.cell 2, B8'.out.cell 3, B8'.out.cell 4⟩
              refine' wpAnyH_take (i := 9) (oi := ⟨_, _, _, _, _, _⟩) (v := _) rfl (by kernel_rfl) (by kernel_rfl) (by kernel_rfl) (fun _ _ _ h => h) (Or.inl ⟨rfl, ?_⟩) hHeld ?_
              rotate_left
              · (intro W' hW; (try dsimp only at hW); obtain ⟨z0, z1, z2, z3, z4⟩ := hW; go_simp; (try with_reducible rfl))
              try simp only [Act.put, List.setIfInBounds_toArray, List.set_cons_zero, List.set_cons_succ]
              refine wpAnyH_done (by kernel_rfl) ?_ _
              clear hHeld
              go_wp2_with fail
              rw [HE.out]
              refine bodyPost_ret (v := .tuple #[.slice A2 n2 c2, .int .i64 0]) (by simp [results, Try.results15, go_sem]) rfl ⟨_, rfl, OE.out, KE.out⟩
            · skip
              go_simp
              have ka := below_alloc u2 (.cells #[.int .u64 0, .int .u32 0, .bool false, .slice none 0 0] 35)
              have B8' := hide (B8.out.keep ka)
              refine hK.out _ _ ⟨B8'.out.cell 0, B8'.out.cell 1, B8'.out.cell 2, B8'.out.cell 3, B8'.out.cell 4⟩ ?_
              clear hK
              try simp only [List.setIfInBounds_toArray, List.set_cons_zero, List.set_cons_succ]
              have bg := Blk.new u2 (B := 0) 35 #[.int .u64 0, .int .u32 0, .bool false, .slice none 0 0] (Nat.zero_le _)
              obtain ⟨g10, hg10⟩ : ∃ g, g = u2.heap.size := ⟨_, rfl⟩
              have hgl : w.heap.size ≤ g10 := by rw [hg10]; exact KW.out.size
              obtain ⟨Z, hZ⟩ : ∃ Z, Z = u2.alloc (.cells #[.int .u64 0, .int .u32 0, .bool false, .slice none 0 0] 35) := ⟨_, rfl⟩
              have KW' := KW.out.trans (ka.mono KW.out.size)
              have I1' := I1.out.keep ka
              rw [← hZ] at B8' bg KW' I1' ⊢
              rw [← hg10] at bg ⊢
              clear B8 KW I1
              have B8 := B8'
              have BG := hide bg
              have KW := hide KW'
              have GL := hide hgl
              have I1 := hide I1'
              clear I1'
              clear B8' bg KW' hgl hg10 hZ ka
              refine heldT_one (i := 3) (by kernel_rfl) rfl (fun K' hK => ?_)
              go_simp
              go_at_call 51
              have hf := vfind_any A1 nb c1 bs ⟨qk, qa, qn, qc, false⟩ _ I1.out HBB.out.1 HBB.out.2 HQ.out
              rw [HFL.out] at hf
              unfold plV at hf
              dsimp only at hf
              refine hf.mono ?_
              clear hf
              rintro e u3 ⟨k2, s0, rfl, o2⟩
              obtain ⟨A2, c2, rfl, i2, l2, m2⟩ := o2.isB.form HDN.out.symm
              have OG : Hid (∀ g, (Value.slice A2 n2 c2).ownBlock = some g → ¬ g = g10) := hide (fun g hg e => by have h1 := (o2.lt g hg).1; have h2 := BG.out.lt; omega)
              have O2 := hide (o2.more KW.out.size)
              dsimp only
              have B8 := hide (B8.out.keep k2)
              have BG := hide (BG.out.keep k2)
              have KW := hide (KW.out.trans (k2.mono KW.out.size))
              clear k2 o2 i2
              refine hK.out _ _ ⟨B8.out.cell 0, B8.out.cell 1, B8.out.cell 2, B8.out.cell 3, B8.out.cell 4⟩ ?_
              clear hK
              try simp only [List.setIfInBounds_toArray, List.set_cons_zero, List.set_cons_succ]
              have hHeld : (fun W' => W'.cell? ⟨g8, 0, none⟩ = some (.int .u64 (qk : Int)) ∧ W'.cell? ⟨g8, 1, none⟩ = some (.int .i64 (qa : Int)) ∧ W'.cell? ⟨g8, 2, none⟩ = some (.int .i64 (qn : Int)) ∧ W'.cell? ⟨g8, 3, none⟩ = some (.int .u32 (qc : Int)) ∧ W'.cell? ⟨g8, 4, none⟩ = some (.bool false)) u3 := ⟨B8.out.cell 0, B8.out.cell 1, B8.out.cell 2, B8.out.cell 3, B8.out.cell 4⟩
              refine' wpAnyH_take (i := 4) (oi := ⟨_, _, _, _, _, _⟩) (v := _) rfl (by kernel_rfl) (by kernel_rfl) (by kernel_rfl) (fun _ _ _ h => h) (Or.inl ⟨rfl, ?_⟩) hHeld ?_
              rotate_left
              · (intro W' hW; (try dsimp only at hW); obtain ⟨z0, z1, z2, z3, z4⟩ := hW; go_simp; (try with_reducible rfl))
              try simp only [Act.put, List.setIfInBounds_toArray, List.set_cons_zero, List.set_cons_succ]
              refine' wpAnyH_take (i := 5) (oi := ⟨_, _, _, _, _, _⟩) (v := _) rfl (by kernel_rfl) (by kernel_rfl) (by kernel_rfl) (fun _ _ _ h => h) (Or.inl ⟨rfl, ?_⟩) hHeld ?_
              rotate_left
              · (intro W' hW; (try dsimp only at hW); obtain ⟨z0, z1, z2, z3, z4⟩ := hW; go_simp; (try with_reducible rfl))
              try simp only [Act.put, List.setIfInBounds_toArray, List.set_cons_zero, List.set_cons_succ]
              refine' wpAnyH_take (i := 6) (oi := ⟨_, _, _, _, _, _⟩) (v := _) rfl (by kernel_rfl) (by kernel_rfl) (by kernel_rfl) (fun _ _ _ h => h) (Or.inl ⟨rfl, ?_⟩) hHeld ?_
              rotate_left
              · (intro W' hW; (try dsimp only at hW); obtain ⟨z0, z1, z2, z3, z4⟩ := hW; go_simp; (try with_reducible rfl))
              try simp only [Act.put, List.setIfInBounds_toArray, List.set_cons_zero, List.set_cons_succ]
              clear hHeld
              refine heldT_one (i := 8) (by kernel_rfl) rfl (fun K' hK => ?_)
              have q0 := BG.out.cell 0
              have q1 := BG.out.cell 1
              have q2 := BG.out.cell 2
              have q3 := BG.out.cell 3
              dsimp only [Array.toList, List.getElem?_cons_succ, List.getElem?_cons_zero] at q0 q1 q2 q3
              have f0 := BG.out.frozen 0
              have f1 := BG.out.frozen 1
              have f2 := BG.out.frozen 2
              have f3 := BG.out.frozen 3
              go_simp
              have bz := (put4_ BG.out (.int .u64 (qk : Int)) (.int .u32 (qc : Int)) (.bool false) (.slice A2 n2 c2) _ rfl).1
              have kz := ((((Below.refl w.heap.size u3).setCell (p := ⟨g10, 0, none⟩) GL.out (.int .u64 (qk : Int))).setCell (p := ⟨g10, 1, none⟩) GL.out (.int .u32 (qc : Int))).setCell (p := ⟨g10, 2, none⟩) GL.out (.bool false)).setCell (p := ⟨g10, 3, none⟩) GL.out (.slice A2 n2 c2)
              have tz : Turn (fun k => k = g10) u3 ((((u3.setCell ⟨g10, 0, none⟩ (.int .u64 (qk : Int))).setCell ⟨g10, 1, none⟩ (.int .u32 (qc : Int))).setCell ⟨g10, 2, none⟩ (.bool false)).setCell ⟨g10, 3, none⟩ (.slice A2 n2 c2)) := by
                have o : ∀ (W : World) (i : Nat) (v : Value), Turn (fun k => k = g10) W (W.setCell ⟨g10, i, none⟩ v) := fun W i v => (Turn.of_grown (grown_set W g10 i v)).mono (S' := fun k => k = g10) (fun i e => Option.some.inj e)
                exact (((o _ _ _).trans (o _ _ _)).trans (o _ _ _)).trans (o _ _ _)
              have hne : ¬ g8 = g10 := (B8.out.ne BG.out (by decide))
              have B8' := hide (B8.out.turn tz hne)
              refine hK.out _ _ ⟨B8'.out.cell 0, B8'.out.cell 1, B8'.out.cell 2, B8'.out.cell 3, B8'.out.cell 4⟩ ?_
              clear hK q0 q1 q2 q3 f0 f1 f2 f3
              try simp only [List.setIfInBounds_toArray, List.set_cons_zero, List.set_cons_succ]
              have x3 := bz.cell 3
              dsimp only [List.getElem?_cons_succ, List.getElem?_cons_zero] at x3
              have KE := hide (KW.out.trans kz)
              have OE := hide (O2.out.turn tz (fun g hg e => OG.out g hg e))
              have hHeld : (fun W' => W'.cell? ⟨g8, 0, none⟩ = some (.int .u64 (qk : Int)) ∧ W'.cell? ⟨g8, 1, none⟩ = some (.int .i64 (qa : Int)) ∧ W'.cell? ⟨g8, 2, none⟩ = some (.int .i64 (qn : Int)) ∧ W'.cell? ⟨g8, 3, none⟩ = some (.int .u32 (qc : Int)) ∧ W'.cell? ⟨g8, 4, none⟩ = some (.bool false)) ((((u3.setCell ⟨g10, 0, none⟩ (.int .u64 (qk : Int))).setCell ⟨g10, 1, none⟩ (.int .u32 (qc : Int))).setCell ⟨g10, 2, none⟩ (.bool false)).setCell ⟨g10, 3, none⟩ (.slice A2 n2 c2)) := ⟨B8'.out.cell 0, B8'.out.cell 1, B8'.out.cell 2, B8'.out.cell 3, B8'.out.cell 4⟩
              clear kz tz bz
              refine' wpAnyH_take (i := 9) (oi := ⟨_, _, _, _, _, _⟩) (v := _) rfl (by kernel_rfl) (by kernel_rfl) (by kernel_rfl) (fun _ _ _ h => h) (Or.inl ⟨rfl, ?_⟩) hHeld ?_
              rotate_left
              · (intro W' hW; (try dsimp only at hW); obtain ⟨z0, z1, z2, z3, z4⟩ := hW; go_simp; (try with_reducible rfl))
              try simp only [Act.put, List.setIfInBounds_toArray, List.set_cons_zero, List.set_cons_succ]
              refine wpAnyH_done (by kernel_rfl) ?_ _
              clear hHeld
              go_wp2_with fail
              rw [HE.out]
              refine bodyPost_ret (v := .tuple #[.slice A2 n2 c2, .int .i64 0]) (by simp [results, Try.results15, go_sem]) rfl ⟨_, rfl, OE.out, KE.out⟩
          · skip
            go_simp
            have ka := below_alloc U (.cells #[.int .u64 0, .int .u32 0, .bool false, .slice none 0 0] 35)
            have B8' := hide (B8.out.keep ka)
            refine hK.out _ _ ⟨B8'.out.cell 0, B8'.out.cell 1, B8'.out.cell 2, B8'.out.cell 3, B8'.out.cell 4⟩ ?_
            clear hK
            try simp only [List.setIfInBounds_toArray, List.set_cons_zero, List.set_cons_succ]
            have bg := Blk.new U (B := 0) 35 #[.int .u64 0, .int .u32 0, .bool false, .slice none 0 0] (Nat.zero_le _)
            obtain ⟨g10, hg10⟩ : ∃ g, g = U.heap.size := ⟨_, rfl⟩
            have hgl : w.heap.size ≤ g10 := by rw [hg10]; exact KW.out.size
            obtain ⟨Z, hZ⟩ : ∃ Z, Z = U.alloc (.cells #[.int .u64 0, .int .u32 0, .bool false, .slice none 0 0] 35) := ⟨_, rfl⟩
            have KW' := KW.out.trans (ka.mono KW.out.size)
            have HV' := HV.out.below ka
            rw [← hZ] at B8' bg KW' HV' ⊢
            rw [← hg10] at bg ⊢
            clear B8 KW HV
            have B8 := B8'
            have BG := hide bg
            have KW := hide KW'
            have GL := hide hgl
            have HV := hide HV'
            clear HV'
            clear B8' bg KW' hgl hg10 hZ ka
            refine heldT_one (i := 1) (by kernel_rfl) rfl (fun K' hK => ?_)
            go_simp
            go_at_call 52
            refine (vbytes_any HV.out HS.out).mono ?_
            rintro e u2 ⟨v1, rfl, o1, k1⟩
            rw [HBS.out.1] at o1
            obtain ⟨A1, c1, rfl, i1, l1, m1⟩ := o1.isB.form HBS.out.2.symm
            have I1 := hide o1.isB
            have B8 := hide (B8.out.keep k1)
            have BG := hide (BG.out.keep k1)
            have KW := hide (KW.out.trans (k1.mono KW.out.size))
            clear o1 k1 i1 HV
            refine hK.out _ _ ⟨B8.out.cell 0, B8.out.cell 1, B8.out.cell 2, B8.out.cell 3, B8.out.cell 4⟩ ?_
            clear hK
            try simp only [List.setIfInBounds_toArray, List.set_cons_zero, List.set_cons_succ]
            refine heldT_one (i := 3) (by kernel_rfl) rfl (fun K' hK => ?_)
            go_simp
            go_at_call 51
            have hf := vfind_any A1 nb c1 bs ⟨qk, qa, qn, qc, false⟩ _ I1.out HBB.out.1 HBB.out.2 HQ.out
            rw [HFL.out] at hf
            unfold plV at hf
            dsimp only at hf
            refine hf.mono ?_
            clear hf
            rintro e u3 ⟨k2, s0, rfl, o2⟩
            obtain ⟨A2, c2, rfl, i2, l2, m2⟩ := o2.isB.form HDN.out.symm
            have OG : Hid (∀ g, (Value.slice A2 n2 c2).ownBlock = some g → ¬ g = g10) := hide (fun g hg e => by have h1 := (o2.lt g hg).1; have h2 := BG.out.lt; omega)
            have O2 := hide (o2.more KW.out.size)
            dsimp only
            have B8 := hide (B8.out.keep k2)
            have BG := hide (BG.out.keep k2)
            have KW := hide (KW.out.trans (k2.mono KW.out.size))
            clear k2 o2 i2
            refine hK.out _ _ ⟨B8.out.cell 0, B8.out.cell 1, B8.out.cell 2, B8.out.cell 3, B8.out.cell 4⟩ ?_
            clear hK
            try simp only [List.setIfInBounds_toArray, List.set_cons_zero, List.set_cons_succ]
            have hHeld : (fun W' => W'.cell? ⟨g8, 0, none⟩ = some (.int .u64 (qk : Int)) ∧ W'.cell? ⟨g8, 1, none⟩ = some (.int .i64 (qa : Int)) ∧ W'.cell? ⟨g8, 2, none⟩ = some (.int .i64 (qn : Int)) ∧ W'.cell? ⟨g8, 3, none⟩ = some (.int .u32 (qc : Int)) ∧ W'.cell? ⟨g8, 4, none⟩ = some (.bool false)) u3 := ⟨B8.out.cell 0, B8.out.cell 1, B8.out.cell 2, B8.out.cell 3, B8.out.cell 4⟩
            refine' wpAnyH_take (i := 4) (oi := ⟨_, _, _, _, _, _⟩) (v := _) rfl (by kernel_rfl) (by kernel_rfl) (by kernel_rfl) (fun _ _ _ h => h) (Or.inl ⟨rfl, ?_⟩) hHeld ?_
            rotate_left
            · (intro W' hW; (try dsimp only at hW); obtain ⟨z0, z1, z2, z3, z4⟩ := hW; go_simp; (try with_reducible rfl))
            try simp only [Act.put, List.setIfInBounds_toArray, List.set_cons_zero, List.set_cons_succ]
            refine' wpAnyH_take (i := 5) (oi := ⟨_, _, _, _, _, _⟩) (v := _) rfl (by kernel_rfl) (by kernel_rfl) (by kernel_rfl) (fun _ _ _ h => h) (Or.inl ⟨rfl, ?_⟩) hHeld ?_
            rotate_left
            · (intro W' hW; (try dsimp only at hW); obtain ⟨z0, z1, z2, z3, z4⟩ := hW; go_simp; (try with_reducible rfl))
            try simp only [Act.put, List.setIfInBounds_toArray, List.set_cons_zero, List.set_cons_succ]
            refine' wpAnyH_take (i := 6) (oi := ⟨_, _, _, _, _, _⟩) (v := _) rfl (by kernel_rfl) (by kernel_rfl) (by kernel_rfl) (fun _ _ _ h => h) (Or.inl ⟨rfl, ?_⟩) hHeld ?_
            rotate_left
            · (intro W' hW; (try dsimp only at hW); obtain ⟨z0, z1, z2, z3, z4⟩ := hW; go_simp; (try with_reducible rfl))
            try simp only [Act.put, List.setIfInBounds_toArray, List.set_cons_zero, List.set_cons_succ]
            clear hHeld
            refine heldT_one (i := 8) (by kernel_rfl) rfl (fun K' hK => ?_)
            have q0 := BG.out.cell 0
            have q1 := BG.out.cell 1
            have q2 := BG.out.cell 2
            have q3 := BG.out.cell 3
            dsimp only [Array.toList, List.getElem?_cons_succ, List.getElem?_cons_zero] at q0 q1 q2 q3
            have f0 := BG.out.frozen 0
            have f1 := BG.out.frozen 1
            have f2 := BG.out.frozen 2
            have f3 := BG.out.frozen 3
            go_simp
            have bz := (put4_ BG.out (.int .u64 (qk : Int)) (.int .u32 (qc : Int)) (.bool false) (.slice A2 n2 c2) _ rfl).1
            have kz := ((((Below.refl w.heap.size u3).setCell (p := ⟨g10, 0, none⟩) GL.out (.int .u64 (qk : Int))).setCell (p := ⟨g10, 1, none⟩) GL.out (.int .u32 (qc : Int))).setCell (p := ⟨g10, 2, none⟩) GL.out (.bool false)).setCell (p := ⟨g10, 3, none⟩) GL.out (.slice A2 n2 c2)
            have tz : Turn (fun k => k = g10) u3 ((((u3.setCell ⟨g10, 0, none⟩ (.int .u64 (qk : Int))).setCell ⟨g10, 1, none⟩ (.int .u32 (qc : Int))).setCell ⟨g10, 2, none⟩ (.bool false)).setCell ⟨g10, 3, none⟩ (.slice A2 n2 c2)) := by
              have o : ∀ (W : World) (i : Nat) (v : Value), Turn (fun k => k = g10) W (W.setCell ⟨g10, i, none⟩ v) := fun W i v => (Turn.of_grown (grown_set W g10 i v)).mono (S' := fun k => k = g10) (fun i e => Option.some.inj e)
              exact (((o _ _ _).trans (o _ _ _)).trans (o _ _ _)).trans (o _ _ _)
            have hne : ¬ g8 = g10 := (B8.out.ne BG.out (by decide))
            have B8' := hide (B8.out.turn tz hne)
            refine hK.out _ _ ⟨B8'.out.cell 0, B8'.out.cell 1, B8'.out.cell 2, B8'.out.cell 3, B8'.out.cell 4⟩ ?_
            clear hK q0 q1 q2 q3 f0 f1 f2 f3
            try simp only [List.setIfInBounds_toArray, List.set_cons_zero, List.set_cons_succ]
            have x3 := bz.cell 3
            dsimp only [List.getElem?_cons_succ, List.getElem?_cons_zero] at x3
            have KE := hide (KW.out.trans kz)
            have OE := hide (O2.out.turn tz (fun g hg e => OG.out g hg e))
            have hHeld : (fun W' => W'.cell? ⟨g8, 0, none⟩ = some (.int .u64 (qk : Int)) ∧ W'.cell? ⟨g8, 1, none⟩ = some (.int .i64 (qa : Int)) ∧ W'.cell? ⟨g8, 2, none⟩ = some (.int .i64 (qn : Int)) ∧ W'.cell? ⟨g8, 3, none⟩ = some (.int .u32 (qc : Int)) ∧ W'.cell? ⟨g8, 4, none⟩ = some (.bool false)) ((((u3.setCell ⟨g10, 0, none⟩ (.int .u64 (qk : Int))).setCell ⟨g10, 1, none⟩ (.int .u32 (qc : Int))).setCell ⟨g10, 2, none⟩ (.bool false)).setCell ⟨g10, 3, none⟩ (.slice A2 n2 c2)) := ⟨B8'.out.cell 0, B8'.out.cell 1, B8'.out.cell 2, B8'.out.cell 3, B8'.out.cell 4⟩
            clear kz tz bz
            refine' wpAnyH_take (i := 9) (oi := ⟨_, _, _, _, _, _⟩) (v := _) rfl (by kernel_rfl) (by kernel_rfl) (by kernel_rfl) (fun _ _ _ h => h) (Or.inl ⟨rfl, ?_⟩) hHeld ?_
            rotate_left
            · (intro W' hW; (try dsimp only at hW); obtain ⟨z0, z1, z2, z3, z4⟩ := hW; go_simp; (try with_reducible rfl))
            try simp only [Act.put, List.setIfInBounds_toArray, List.set_cons_zero, List.set_cons_succ]
            refine wpAnyH_done (by kernel_rfl) ?_ _
            clear hHeld
            go_wp2_with fail
            rw [HE.out]
            refine bodyPost_ret (v := .tuple #[.slice A2 n2 c2, .int .i64 0]) (by simp [results, Try.results15, go_sem]) rfl ⟨_, rfl, OE.out, KE.out⟩
end Go.Proofs.Ytehgjkckhjggbaa
