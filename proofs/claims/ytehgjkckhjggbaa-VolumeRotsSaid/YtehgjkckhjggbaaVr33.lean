/- The contract of volume's own Put. Condition: the file has its head; the widths. -/
import Derived.Test.YtehgjkckhjggbaaVr14
import Derived.Test.YtehgjkckhjggbaaVr31
import Derived.Test.YtehgjkckhjggbaaVr30
import Derived.Test.YtehgjkckhjggbaaVr12
namespace Go.Proofs.Ytehgjkckhjggbaa
open Go.RowKit Go.Maps
/-- What Put does. -/
def putV (room : Nat) (s : Str) (k c : Nat) (dd : Bool) (data : List Nat) (T : PlL) (L : DiskL) : (PlL × DiskL) × Nat :=
  if (encN k c dd data).2 ≠ 0 then ((T, L), (encN k c dd data).2)
  else if (foundP (getP k T)).dead = true then ((T, L), 9)
  else if (getP k T).isSome = true ∧ dd = false then ((T, L), 8)
  else if 4194304 < szV s L + (encN k c dd data).1.length then ((T, L), 6)
  else if (layL room s (encN k c dd data).1 L).2 ≠ 0 then ((T, (layL room s (encN k c dd data).1 L).1), (layL room s (encN k c dd data).1 L).2)
  else ((takeL ⟨k, szV s L, (encN k c dd data).1.length, c, dd⟩ T, (layL room s (encN k c dd data).1 L).1), 0)
theorem vput_nil (k c : Nat) (dd : Bool) (A : Option Addr) (n cp : Nat) (w : World) : Calls Try.prog 12 #[.pointer none, .agg #[.int .u64 (k : Int), .int .u32 (c : Int), .bool dd, .slice A n cp]] w fun e w' => e = .returned (.int .i64 1) ∧ Below w.heap.size w w' := by
  go_enter Try.func12, Try.ntmps12
  go_wp2_with fail
  go_ret
  exact ⟨rfl, below_alloc _ _⟩
theorem encN_fits (k c : Nat) (dd : Bool) (data : List Nat) (hb : ∀ x ∈ data, x < 256) : (encN k c dd data).1.length ≤ 65568 ∧ ∀ x ∈ (encN k c dd data).1, x < 256 := by
  unfold encN
  split
  · exact ⟨by simp, fun x hx => by cases hx⟩
  · split
    · exact ⟨by simp, fun x hx => by cases hx⟩
    · refine ⟨?_, needleL_byte k c dd data hb⟩
      show (needleL k c dd data).length ≤ _
      rw [needleL_len k c dd data (by omega)]
      exact (ndSize_le _).1
theorem szV_le {w : World} {F : Nat → Prop} {d room : Nat} {L : DiskL} (h : DiskAt w F d room L) (k : Str) : szV k L ≤ 1073741824 := by
  unfold szV
  rcases e : getK k L with _ | a
  · simp
  · exact h.sane.len e
def PutAns (w : World) (F : Nat → Prop) (v d b room : Nat) (s : ByteArray) (R : (PlL × DiskL) × Nat) (e : Ending) (w' : World) : Prop :=
  e = .returned (.int .i64 (R.2 : Int)) ∧ ∃ F', VolD w' F' v d b room s R.1.1 R.1.2 ∧ Turn (fun k => F k ∨ k = b) w w' ∧ ∀ k, F' k → F k ∨ w.heap.size ≤ k
theorem putAns_same {w w' : World} {F : Nat → Prop} {v d b room : Nat} {s : ByteArray} {T : PlL} {L : DiskL} (h : VolD w' F v d b room s T L) (k : Below w.heap.size w w') (c : Nat) : PutAns w F v d b room s ((T, L), c) (.returned (.int .i64 (c : Int))) w' :=
  ⟨rfl, F, h, Turn.of_below _ k, fun _ => .inl⟩
set_option maxRecDepth 100000 in
set_option maxHeartbeats 6400000 in
theorem vput_any {w : World} {F : Nat → Prop} {v d b room : Nat} {s : ByteArray} {T : PlL} {L : DiskL} (h : VolD w F v d b room s T L) (hs : s.size ≤ 1099511627776) (h8 : 8 ≤ szV s.data.toList L) (hl : T.length < 1099511627776)
    (k c : Nat) (dd : Bool) (A : Option Addr) (n cp : Nat) (data : List Nat) (hk : k < 18446744073709551616) (hc : c < 4294967296) (hA : IsB w (.slice A n cp) data) (hn : data.length = n) (hb : ∀ x ∈ data, x < 256) :
    Calls Try.prog 12 #[.pointer (some ⟨v, 0, none⟩), .agg #[.int .u64 (k : Int), .int .u32 (c : Int), .bool dd, .slice A n cp]] w fun e w' => PutAns w F v d b room s (putV room s.data.toList k c dd data T L) e w' := by
  have ka := below_alloc w (.cells #[.int .u64 (k : Int), .int .u32 (c : Int), .bool dd, .slice A n cp] 35)
  have bg := Blk.new w (B := 0) 35 #[.int .u64 (k : Int), .int .u32 (c : Int), .bool dd, .slice A n cp] (Nat.zero_le _)
  have hf := encN_fits k c dd data hb
  have ENC := hide (ndenc_any k c dd A n cp data _ (hA.keep ka) hn hb hk hc)
  obtain ⟨R, hR⟩ : ∃ R, R = putV room s.data.toList k c dd data T L := ⟨_, rfl⟩
  rw [← hR]
  obtain ⟨⟨xs, er⟩, hx⟩ : ∃ r, r = encN k c dd data := ⟨_, rfl⟩
  unfold putV at hR
  rw [← hx] at hR ENC hf
  dsimp only at hR ENC hf
  have HR := hide hR
  have HF := hide hf
  have HV := hide (h.below ka)
  have HS := hide (And.intro hs (And.intro h8 hl))
  have HKC := hide (And.intro hk hc)
  obtain ⟨g0, hg0⟩ : ∃ g, g = w.heap.size := ⟨_, rfl⟩
  obtain ⟨W, hW⟩ : ∃ W, W = w.alloc (.cells #[.int .u64 (k : Int), .int .u32 (c : Int), .bool dd, .slice A n cp] 35) := ⟨_, rfl⟩
  rw [← hW] at ka HV ENC
  rw [← hW, ← hg0] at bg
  have KW := hide ka
  have BG := hide bg
  have HLOW := hide (fun q hq => h.disk.low q hq : ∀ q, F q → q < w.heap.size)
  have HVB := hide h.vol.low
  have HG0 := hide hg0
  clear h hs h8 hl hk hc hA hn hb hf hR hx ka bg
  go_enter Try.func12, Try.ntmps12
  go_wp2_with fail
  rw [← hW, ← hg0]
  have x0 : W.cell? ⟨g0, 0, none⟩ = some (.int .u64 (k : Int)) := BG.out.cell 0
  have x1 : W.cell? ⟨g0, 1, none⟩ = some (.int .u32 (c : Int)) := BG.out.cell 1
  have x2 : W.cell? ⟨g0, 2, none⟩ = some (.bool dd) := BG.out.cell 2
  have x3 : W.cell? ⟨g0, 3, none⟩ = some (.slice A n cp) := BG.out.cell 3
  clear hW hg0
  go_wp2_with fail
  refine ENC.out.mono ?_
  rintro e w1 ⟨s1, rfl, o1, k1⟩
  obtain ⟨m, hm⟩ : ∃ m, m = xs.length := ⟨_, rfl⟩
  obtain ⟨A1, c1, rfl, i1, l1, m1⟩ := o1.isB.form hm.symm
  have HV := hide (HV.out.below k1)
  have BG := hide (BG.out.keep k1)
  have KW := hide (KW.out.trans (k1.mono KW.out.size))
  have O1 := hide o1.isB
  have HM : Hid (m = xs.length ∧ m ≤ 65568 ∧ ∀ x ∈ xs, x < 256) := hide ⟨hm, by rw [hm]; exact HF.out.1, HF.out.2⟩
  have hm2 : m ≤ 65568 := HM.out.2.1
  clear o1 k1 i1 hm x0 x1 x2 x3 ENC HF
  by_cases her : er = 0
  rotate_left
  · have her2 : ((er : Int) != 0) = true := by simp; omega
    have e2 : R = ((T, L), er) := by rw [HR.out, if_pos her]
    have HE2 := hide e2
    clear e2
    go_wp2_with fail
    go_ret
    rw [HE2.out]
    exact putAns_same HV.out KW.out er
  subst her
  obtain ⟨fp, hfp⟩ : ∃ f, f = foundP (getP k T) := ⟨_, rfl⟩
  obtain ⟨is, his⟩ : ∃ i, i = (getP k T).isSome := ⟨_, rfl⟩
  have hlook : ∀ U, Below w1.heap.size w1 U → (Instr.lookup 85 (.map (some b)) (.int .u64 (k : Int)) true).run Try.prog U = .ok (.tuple #[plV fp, .bool is]) U := fun U kk => by
    rw [hfp, his]
    exact look_pl (HV.out.below kk).vol.map k HKC.out.1
  obtain ⟨a, ha⟩ : ∃ a, a = szV s.data.toList L := ⟨_, rfl⟩
  have HA : Hid (a = szV s.data.toList L ∧ a ≤ 1073741824 ∧ 8 ≤ a) := hide ⟨ha, by rw [ha]; exact szV_le HV.out.disk _, by rw [ha]; exact HS.out.2.1⟩
  obtain ⟨fk, fa, fn, fc, fd⟩ := fp
  have hR2 : R = if fd = true then ((T, L), 9) else if is = true ∧ dd = false then ((T, L), 8) else if 4194304 < a + m then ((T, L), 6) else if (layL room s.data.toList xs L).2 ≠ 0 then ((T, (layL room s.data.toList xs L).1), (layL room s.data.toList xs L).2) else ((takeL ⟨k, a, m, c, dd⟩ T, (layL room s.data.toList xs L).1), 0) := by
    rw [HR.out, if_neg (by simp), ← hfp, ← his, ← ha, ← HM.out.1]
  have HR := hide hR2
  unfold plV at hlook
  dsimp only at hlook
  have HK := hide hlook
  clear hlook hfp his ha hR2
  go_wp2_with fail
  refine heldT_top (fun W' : World => W'.cell? ⟨v, 2, none⟩ = some (.map (some b)) ∧ W'.cell? ⟨g0, 0, none⟩ = some (.int .u64 (k : Int)) ∧ (Instr.lookup 85 (.map (some b)) (.int .u64 (k : Int)) true).run Try.prog W' = .ok (.tuple #[.agg #[.int .u64 (fk : Int), .int .i64 (fa : Int), .int .i64 (fn : Int), .int .u32 (fc : Int), .bool fd], .bool is]) W') 13 #[false, false, false, false, false, false, false, false, false, false, false, false, false] (by kernel_rfl) (by kernel_rfl) (by kernel_rfl) ?_
  have hHeld : (fun W' : World => W'.cell? ⟨v, 2, none⟩ = some (.map (some b)) ∧ W'.cell? ⟨g0, 0, none⟩ = some (.int .u64 (k : Int)) ∧ (Instr.lookup 85 (.map (some b)) (.int .u64 (k : Int)) true).run Try.prog W' = .ok (.tuple #[.agg #[.int .u64 (fk : Int), .int .i64 (fa : Int), .int .i64 (fn : Int), .int .u32 (fc : Int), .bool fd], .bool is]) W') (w1.drewN 1) := ⟨HV.out.vol.blk.cell 2, BG.out.cell 0, HK.out _ (below_drewN (Below.refl _ _) 1)⟩
  have BG := hide (BG.out.drewN 1)
  have HV := hide (HV.out.below (below_drewN (Below.refl _ _) 1))
  have KW := hide (below_drewN KW.out 1)
  have O1 := hide (O1.out.keep (below_drewN (Below.refl _ _) 1))
  have K1 : Hid (Below w1.heap.size w1 (w1.drewN 1)) := hide (below_drewN (Below.refl _ _) 1)
  change wpAnyH _ _ _ _ _ _ _ _ (w1.drewN 1)
  generalize w1.drewN 1 = U at *
  refine' wpAnyH_take (i := 0) (oi := ⟨_, _, _, _, _, _⟩) (v := _) rfl (by kernel_rfl) (by kernel_rfl) (by kernel_rfl) (fun _ _ _ h => h) (Or.inl ⟨rfl, ?_⟩) hHeld ?_
  rotate_left
  · (intro W' hW; (try dsimp only at hW); obtain ⟨z2, z3, z4⟩ := hW; go_simp; (try with_reducible rfl))
  try simp only [Act.put, List.setIfInBounds_toArray, List.set_cons_zero, List.set_cons_succ]
  refine' wpAnyH_take (i := 1) (oi := ⟨_, _, _, _, _, _⟩) (v := _) rfl (by kernel_rfl) (by kernel_rfl) (by kernel_rfl) (fun _ _ _ h => h) (Or.inl ⟨rfl, ?_⟩) hHeld ?_
  rotate_left
  · (intro W' hW; (try dsimp only at hW); obtain ⟨z2, z3, z4⟩ := hW; go_simp; (try with_reducible rfl))
  try simp only [Act.put, List.setIfInBounds_toArray, List.set_cons_zero, List.set_cons_succ]
  refine' wpAnyH_take (i := 2) (oi := ⟨_, _, _, _, _, _⟩) (v := _) rfl (by kernel_rfl) (by kernel_rfl) (by kernel_rfl) (fun _ _ _ h => h) (Or.inl ⟨rfl, ?_⟩) hHeld ?_
  rotate_left
  · (intro W' hW; (try dsimp only at hW); obtain ⟨z2, z3, z4⟩ := hW; go_simp; (try with_reducible rfl))
  try simp only [Act.put, List.setIfInBounds_toArray, List.set_cons_zero, List.set_cons_succ]
  refine' wpAnyH_take (i := 3) (oi := ⟨_, _, _, _, _, _⟩) (v := _) rfl (by kernel_rfl) (by kernel_rfl) (by kernel_rfl) (fun _ _ _ h => h) (Or.inl ⟨rfl, ?_⟩) hHeld ?_
  rotate_left
  · (intro W' hW; (try dsimp only at hW); obtain ⟨z2, z3, z4⟩ := hW; go_simp; (try with_reducible rfl))
  try simp only [Act.put, List.setIfInBounds_toArray, List.set_cons_zero, List.set_cons_succ]
  refine' wpAnyH_take (i := 4) (oi := ⟨_, _, _, _, _, _⟩) (v := _) rfl (by kernel_rfl) (by kernel_rfl) (by kernel_rfl) (fun _ _ _ h => h) (Or.inl ⟨rfl, ?_⟩) hHeld ?_
  rotate_left
  · (intro W' hW; (try dsimp only at hW); obtain ⟨z2, z3, z4⟩ := hW; go_simp; (try with_reducible rfl))
  try simp only [Act.put, List.setIfInBounds_toArray, List.set_cons_zero, List.set_cons_succ]
  refine' wpAnyH_take (i := 5) (oi := ⟨_, _, _, _, _, _⟩) (v := _) rfl (by kernel_rfl) (by kernel_rfl) (by kernel_rfl) (fun _ _ _ h => h) (Or.inl ⟨rfl, ?_⟩) hHeld ?_
  rotate_left
  · (intro W' hW; (try dsimp only at hW); obtain ⟨z2, z3, z4⟩ := hW; go_simp; (try with_reducible rfl))
  try simp only [Act.put, List.setIfInBounds_toArray, List.set_cons_zero, List.set_cons_succ]
  refine' wpAnyH_take (i := 6) (oi := ⟨_, _, _, _, _, _⟩) (v := _) rfl (by kernel_rfl) (by kernel_rfl) (by kernel_rfl) (fun _ _ _ h => h) (Or.inl ⟨rfl, ?_⟩) hHeld ?_
  rotate_left
  · (intro W' hW; (try dsimp only at hW); obtain ⟨z2, z3, z4⟩ := hW; go_simp; (try with_reducible rfl))
  try simp only [Act.put, List.setIfInBounds_toArray, List.set_cons_zero, List.set_cons_succ]
  refine' wpAnyH_take (i := 7) (oi := ⟨_, _, _, _, _, _⟩) (v := _) rfl (by kernel_rfl) (by kernel_rfl) (by kernel_rfl) (fun _ _ _ h => h) (Or.inl ⟨rfl, ?_⟩) hHeld ?_
  rotate_left
  · (intro W' hW; (try dsimp only at hW); obtain ⟨z2, z3, z4⟩ := hW; go_simp; (try with_reducible rfl))
  try simp only [Act.put, List.setIfInBounds_toArray, List.set_cons_zero, List.set_cons_succ]
  refine' wpAnyH_take (i := 8) (oi := ⟨_, _, _, _, _, _⟩) (v := _) rfl (by kernel_rfl) (by kernel_rfl) (by kernel_rfl) (fun _ _ _ h => h) (Or.inl ⟨rfl, ?_⟩) hHeld ?_
  rotate_left
  · (intro W' hW; (try dsimp only at hW); obtain ⟨z2, z3, z4⟩ := hW; go_simp; (try with_reducible rfl))
  try simp only [Act.put, List.setIfInBounds_toArray, List.set_cons_zero, List.set_cons_succ]
  refine' wpAnyH_take (i := 9) (oi := ⟨_, _, _, _, _, _⟩) (v := _) rfl (by kernel_rfl) (by kernel_rfl) (by kernel_rfl) (fun _ _ _ h => h) (Or.inl ⟨rfl, ?_⟩) hHeld ?_
  rotate_left
  · (intro W' hW; (try dsimp only at hW); obtain ⟨z2, z3, z4⟩ := hW; go_simp; (try with_reducible rfl))
  try simp only [Act.put, List.setIfInBounds_toArray, List.set_cons_zero, List.set_cons_succ]
  clear hHeld
  refine heldT_one (i := 10) (by kernel_rfl) rfl (fun K' hK => ?_)
  go_simp
  have ku := below_alloc U (.cells #[.int .u64 0, .int .i64 0, .int .i64 0, .int .u32 0, .bool false] 83)
  refine hK.out _ _ ⟨(HV.out.below ku).vol.blk.cell 2, (BG.out.keep ku).cell 0, HK.out _ (K1.out.trans (ku.mono K1.out.size))⟩ ?_
  clear hK ku
  try simp only [List.setIfInBounds_toArray, List.set_cons_zero, List.set_cons_succ]
  refine heldT_one (i := 11) (by kernel_rfl) rfl (fun K' hK => ?_)
  go_simp
  have ku := below_alloc U (.cells #[.int .u64 (fk : Int), .int .i64 (fa : Int), .int .i64 (fn : Int), .int .u32 (fc : Int), .bool fd] 83)
  have bf := Blk.new U (B := 0) 83 #[.int .u64 (fk : Int), .int .i64 (fa : Int), .int .i64 (fn : Int), .int .u32 (fc : Int), .bool fd] (Nat.zero_le _)
  obtain ⟨g1, hg1⟩ : ∃ g, g = U.heap.size := ⟨_, rfl⟩
  obtain ⟨V, hV⟩ : ∃ V, V = U.alloc (.cells #[.int .u64 (fk : Int), .int .i64 (fa : Int), .int .i64 (fn : Int), .int .u32 (fc : Int), .bool fd] 83) := ⟨_, rfl⟩
  rw [← hV] at ku bf ⊢
  rw [← hg1] at bf ⊢
  have HV := hide (HV.out.below ku)
  have BG := hide (BG.out.keep ku)
  have BF := hide bf
  have O1 := hide (O1.out.keep ku)
  have KW := hide (KW.out.trans (ku.mono KW.out.size))
  have K2 := hide (K1.out.trans (ku.mono K1.out.size))
  clear hV hg1 ku bf K1
  have hHeld : (fun W' : World => W'.cell? ⟨v, 2, none⟩ = some (.map (some b)) ∧ W'.cell? ⟨g0, 0, none⟩ = some (.int .u64 (k : Int)) ∧ (Instr.lookup 85 (.map (some b)) (.int .u64 (k : Int)) true).run Try.prog W' = .ok (.tuple #[.agg #[.int .u64 (fk : Int), .int .i64 (fa : Int), .int .i64 (fn : Int), .int .u32 (fc : Int), .bool fd], .bool is]) W') V := ⟨HV.out.vol.blk.cell 2, BG.out.cell 0, HK.out _ K2.out⟩
  refine hK.out _ _ hHeld ?_
  clear hK
  try simp only [List.setIfInBounds_toArray, List.set_cons_zero, List.set_cons_succ]
  refine' wpAnyH_take (i := 12) (oi := ⟨_, _, _, _, _, _⟩) (v := _) rfl (by kernel_rfl) (by kernel_rfl) (by kernel_rfl) (fun _ _ _ h => h) (Or.inl ⟨rfl, ?_⟩) hHeld ?_
  rotate_left
  · (intro W' hW; (try dsimp only at hW); obtain ⟨z2, z3, z4⟩ := hW; go_simp; (try with_reducible rfl))
  try simp only [Act.put, List.setIfInBounds_toArray, List.set_cons_zero, List.set_cons_succ]
  refine wpAnyH_done (by kernel_rfl) ?_ _
  clear hHeld HK K2
  have u4 : V.cell? ⟨g1, 4, none⟩ = some (.bool fd) := BF.out.cell 4
  have y2 : V.cell? ⟨g0, 2, none⟩ = some (.bool dd) := BG.out.cell 2
  cases fd with
  | true =>
    have e2 : R = ((T, L), 9) := HR.out
    have HE2 := hide e2
    clear e2
    go_wp2_with fail
    go_ret
    rw [HE2.out]
    exact putAns_same HV.out KW.out 9
  | false =>
    by_cases h8 : is = true ∧ dd = false
    · obtain ⟨rfl, rfl⟩ := h8
      have e2 : R = ((T, L), 8) := HR.out
      have HE2 := hide e2
      clear e2
      go_wp2_with fail
      go_ret
      rw [HE2.out]
      exact putAns_same HV.out KW.out 8
    have hR3 : R = if 4194304 < a + m then ((T, L), 6) else if (layL room s.data.toList xs L).2 ≠ 0 then ((T, (layL room s.data.toList xs L).1), (layL room s.data.toList xs L).2) else ((takeL ⟨k, a, m, c, dd⟩ T, (layL room s.data.toList xs L).1), 0) := by rw [HR.out, if_neg (by decide), if_neg h8]
    have HR3 := hide hR3
    have hq : is = false ∨ (is = true ∧ dd = true) := by
      cases is with
      | false => exact .inl rfl
      | true => cases dd with
        | true => exact .inr ⟨rfl, rfl⟩
        | false => exact absurd ⟨rfl, rfl⟩ h8
    clear hR3 h8
    rcases hq with rfl | ⟨rfl, hd⟩
    all_goals
      try (rw [hd] at y2; clear hd)
      go_wp2_with fail
      refine (vsize_any HV.out HS.out.1).mono ?_
      rintro e w4 ⟨rfl, k4⟩
      rw [← HA.out.1]
      have HV := hide (HV.out.below k4)
      have BG := hide (BG.out.keep k4)
      have O1 := hide (O1.out.keep k4)
      have KW := hide (KW.out.trans (k4.mono KW.out.size))
      have ha1 : a ≤ 1073741824 := HA.out.2.1
      clear k4 u4 y2
      by_cases h6 : 4194304 < a + m
      · have h6z : (4194304 : Int) < (a : Int) + (m : Int) := by omega
        have e2 : R = ((T, L), 6) := by rw [HR3.out, if_pos h6]
        have HE2 := hide e2
        clear e2 h6
        go_wp2_with fail
        go_ret
        rw [HE2.out]
        exact putAns_same HV.out KW.out 6
      have h6z : ¬ (4194304 : Int) < (a : Int) + (m : Int) := by omega
      obtain ⟨⟨L1, lc⟩, hlc⟩ : ∃ r, r = layL room s.data.toList xs L := ⟨_, rfl⟩
      have hR4 : R = if lc ≠ 0 then ((T, L1), lc) else ((takeL ⟨k, a, m, c, dd⟩ T, L1), 0) := by rw [HR3.out, if_neg h6, ← hlc]
      have HR4 := hide hR4
      have HLC := hide hlc
      clear hR4 hlc h6 HR3
      go_wp2_with fail
      refine heldT_top (fun W' : World => W'.cell? ⟨v, 0, none⟩ = some (.pointer (some ⟨d, 0, none⟩)) ∧ W'.cell? ⟨v, 1, none⟩ = some (.string s)) 11 #[false, false, false, false, false, false, false, false, false, false, false] (by kernel_rfl) (by kernel_rfl) (by kernel_rfl) ?_
      have hHeld : (fun W' : World => W'.cell? ⟨v, 0, none⟩ = some (.pointer (some ⟨d, 0, none⟩)) ∧ W'.cell? ⟨v, 1, none⟩ = some (.string s)) (w4.drewN 1) := ⟨HV.out.vol.blk.cell 0, HV.out.vol.blk.cell 1⟩
      have BG := hide (BG.out.drewN 1)
      have HV := hide (HV.out.below (below_drewN (Below.refl _ _) 1))
      have KW := hide (below_drewN KW.out 1)
      have O1 := hide (O1.out.keep (below_drewN (Below.refl _ _) 1))
      change wpAnyH _ _ _ _ _ _ _ _ (w4.drewN 1)
      generalize w4.drewN 1 = U4 at *
      refine' wpAnyH_take (i := 0) (oi := ⟨_, _, _, _, _, _⟩) (v := _) rfl (by kernel_rfl) (by kernel_rfl) (by kernel_rfl) (fun _ _ _ h => h) (Or.inl ⟨rfl, ?_⟩) hHeld ?_
      rotate_left
      · (intro W' hW; (try dsimp only at hW); obtain ⟨z0, z1⟩ := hW; go_simp; (try with_reducible rfl))
      try simp only [Act.put, List.setIfInBounds_toArray, List.set_cons_zero, List.set_cons_succ]
      refine' wpAnyH_take (i := 1) (oi := ⟨_, _, _, _, _, _⟩) (v := _) rfl (by kernel_rfl) (by kernel_rfl) (by kernel_rfl) (fun _ _ _ h => h) (Or.inl ⟨rfl, ?_⟩) hHeld ?_
      rotate_left
      · (intro W' hW; (try dsimp only at hW); obtain ⟨z0, z1⟩ := hW; go_simp; (try with_reducible rfl))
      try simp only [Act.put, List.setIfInBounds_toArray, List.set_cons_zero, List.set_cons_succ]
      refine' wpAnyH_take (i := 2) (oi := ⟨_, _, _, _, _, _⟩) (v := _) rfl (by kernel_rfl) (by kernel_rfl) (by kernel_rfl) (fun _ _ _ h => h) (Or.inl ⟨rfl, ?_⟩) hHeld ?_
      rotate_left
      · (intro W' hW; (try dsimp only at hW); obtain ⟨z0, z1⟩ := hW; go_simp; (try with_reducible rfl))
      try simp only [Act.put, List.setIfInBounds_toArray, List.set_cons_zero, List.set_cons_succ]
      refine' wpAnyH_take (i := 3) (oi := ⟨_, _, _, _, _, _⟩) (v := _) rfl (by kernel_rfl) (by kernel_rfl) (by kernel_rfl) (fun _ _ _ h => h) (Or.inl ⟨rfl, ?_⟩) hHeld ?_
      rotate_left
      · (intro W' hW; (try dsimp only at hW); obtain ⟨z0, z1⟩ := hW; go_simp; (try with_reducible rfl))
      try simp only [Act.put, List.setIfInBounds_toArray, List.set_cons_zero, List.set_cons_succ]
      refine' wpAnyH_take (i := 4) (oi := ⟨_, _, _, _, _, _⟩) (v := _) rfl (by kernel_rfl) (by kernel_rfl) (by kernel_rfl) (fun _ _ _ h => h) (Or.inl ⟨rfl, ?_⟩) hHeld ?_
      rotate_left
      · (intro W' hW; (try dsimp only at hW); obtain ⟨z0, z1⟩ := hW; go_simp; (try with_reducible rfl))
      try simp only [Act.put, List.setIfInBounds_toArray, List.set_cons_zero, List.set_cons_succ]
      refine' wpAnyH_take (i := 5) (oi := ⟨_, _, _, _, _, _⟩) (v := _) rfl (by kernel_rfl) (by kernel_rfl) (by kernel_rfl) (fun _ _ _ h => h) (Or.inl ⟨rfl, ?_⟩) hHeld ?_
      rotate_left
      · (intro W' hW; (try dsimp only at hW); obtain ⟨z0, z1⟩ := hW; go_simp; (try with_reducible rfl))
      try simp only [Act.put, List.setIfInBounds_toArray, List.set_cons_zero, List.set_cons_succ]
      refine' wpAnyH_take (i := 6) (oi := ⟨_, _, _, _, _, _⟩) (v := _) rfl (by kernel_rfl) (by kernel_rfl) (by kernel_rfl) (fun _ _ _ h => h) (Or.inl ⟨rfl, ?_⟩) hHeld ?_
      rotate_left
      · (intro W' hW; (try dsimp only at hW); obtain ⟨z0, z1⟩ := hW; go_simp; (try with_reducible rfl))
      try simp only [Act.put, List.setIfInBounds_toArray, List.set_cons_zero, List.set_cons_succ]
      refine' wpAnyH_take (i := 7) (oi := ⟨_, _, _, _, _, _⟩) (v := _) rfl (by kernel_rfl) (by kernel_rfl) (by kernel_rfl) (fun _ _ _ h => h) (Or.inl ⟨rfl, ?_⟩) hHeld ?_
      rotate_left
      · (intro W' hW; (try dsimp only at hW); obtain ⟨z0, z1⟩ := hW; go_simp; (try with_reducible rfl))
      try simp only [Act.put, List.setIfInBounds_toArray, List.set_cons_zero, List.set_cons_succ]
      refine' wpAnyH_take (i := 8) (oi := ⟨_, _, _, _, _, _⟩) (v := _) rfl (by kernel_rfl) (by kernel_rfl) (by kernel_rfl) (fun _ _ _ h => h) (Or.inl ⟨rfl, ?_⟩) hHeld ?_
      rotate_left
      · (intro W' hW; (try dsimp only at hW); obtain ⟨z0, z1⟩ := hW; go_simp; (try with_reducible rfl))
      try simp only [Act.put, List.setIfInBounds_toArray, List.set_cons_zero, List.set_cons_succ]
      clear hHeld
      refine heldT_one (i := 9) (by kernel_rfl) rfl (fun K' hK => ?_)
      go_simp
      go_at_call 39
      refine (vlay_any F d room L s A1 m c1 xs U4 HV.out.disk HS.out.1 O1.out HM.out.1.symm HM.out.2.2 (by omega)).mono ?_
      rintro e w5 ⟨rfl, F5, d5, n5⟩
      rw [← HLC.out] at d5 ⊢
      have HV5 := hide (HV.out.disked d5 n5)
      have hnf : ¬ F g0 := fun hq => by have h1 := HLOW.out g0 hq; have h2 := HG0.out; omega
      have BG := hide (BG.out.turn n5.turn hnf)
      have HT : Hid (Turn (fun q => F q ∨ q = b) w w5) := hide ((Turn.of_below _ KW.out).trans (n5.turn.mono (fun q h => .inl h)))
      have HFT : Hid (∀ q, F5 q → F q ∨ w.heap.size ≤ q) := hide (fun q hq => (n5.foot q hq).imp id (fun h => Nat.le_trans KW.out.size h))
      clear d5 n5 hnf HV KW O1
      dsimp only
      have hHeld : (fun W' : World => W'.cell? ⟨v, 0, none⟩ = some (.pointer (some ⟨d, 0, none⟩)) ∧ W'.cell? ⟨v, 1, none⟩ = some (.string s)) w5 := ⟨HV5.out.vol.blk.cell 0, HV5.out.vol.blk.cell 1⟩
      refine hK.out _ _ hHeld ?_
      clear hK
      try simp only [List.setIfInBounds_toArray, List.set_cons_zero, List.set_cons_succ]
      refine' wpAnyH_take (i := 10) (oi := ⟨_, _, _, _, _, _⟩) (v := _) rfl (by kernel_rfl) (by kernel_rfl) (by kernel_rfl) (fun _ _ _ h => h) (Or.inl ⟨rfl, ?_⟩) hHeld ?_
      rotate_left
      · (intro W' hW; (try dsimp only at hW); obtain ⟨z0, z1⟩ := hW; go_simp; (try with_reducible rfl))
      try simp only [Act.put, List.setIfInBounds_toArray, List.set_cons_zero, List.set_cons_succ]
      refine wpAnyH_done (by kernel_rfl) ?_ _
      clear hHeld
      by_cases hc0 : lc = 0
      rotate_left
      · have hc1 : ((lc : Int) != 0) = true := by simp; omega
        have e2 : R = ((T, L1), lc) := by rw [HR4.out, if_pos hc0]
        have HE2 := hide e2
        clear e2 hc0
        go_wp2_with fail
        go_ret
        rw [HE2.out]
        exact ⟨rfl, F5, HV5.out, HT.out, HFT.out⟩
      subst hc0
      have e2 : R = ((takeL ⟨k, a, m, c, dd⟩ T, L1), 0) := by rw [HR4.out, if_neg (by simp)]
      have HE2 := hide e2
      clear e2
      have p0 : w5.cell? ⟨g0, 0, none⟩ = some (.int .u64 (k : Int)) := BG.out.cell 0
      have p1 : w5.cell? ⟨g0, 1, none⟩ = some (.int .u32 (c : Int)) := BG.out.cell 1
      have p2 : w5.cell? ⟨g0, 2, none⟩ = some (.bool dd) := BG.out.cell 2
      have p3 : w5.cell? ⟨g0, 3, none⟩ = some (.slice A n cp) := BG.out.cell 3
      go_wp2_with fail
      refine (placeOf_any k c a m _ A n cp w5).mono ?_
      rintro e w6 ⟨rfl, k6⟩
      have HV6 := hide (HV5.out.below k6)
      have HT6 := hide (HT.out.trans (Turn.of_below _ k6))
      clear k6 p0 p1 p2 p3
      go_wp2_with fail
      refine (vtake_any v d b s T ⟨k, a, m, c, _⟩ w6 HV6.out.vol ⟨HKC.out.1, HKC.out.2, HA.out.2.2, Nat.le_trans HA.out.2.1 (by decide), Nat.le_trans HM.out.2.1 (by decide)⟩ HS.out.2.2).mono ?_
      rintro e w7 ⟨rfl, v7, t7⟩
      have HV7 := hide (HV6.out.stored v7 t7)
      have HT7 := hide (HT6.out.trans (t7.mono (fun q h => .inr h)))
      clear v7 t7
      go_wp2_with fail
      go_ret
      rw [HE2.out]
      exact ⟨rfl, F5, HV7.out, HT7.out, HFT.out⟩
end Go.Proofs.Ytehgjkckhjggbaa
