/- The contract of volume's own find. Condition: fewer than 2 to the 39 bytes. -/
import Derived.Test.YtehgjkckhjggbaaVr14
import Derived.Test.YtehgjkckhjggbaaVr16
import Derived.Test.YtehgjkckhjggbaaVr7
namespace Go.Proofs.Ytehgjkckhjggbaa
open Go.RowKit Go.Maps
/-- Two places held against one another. -/
theorem neq_pl (p q : Pl) (w : World) : (binOp .neq 83 (plV p) (plV q)).run Try.prog w = .ok (.bool (decide (p ≠ q))) w := by
  obtain ⟨p0, p1, p2, p3, p4⟩ := p
  obtain ⟨q0, q1, q2, q3, q4⟩ := q
  have hS : Try.prog.underlying 83 = some (.struct (Try.prog.fieldsOf 83)) := by kernel_rfl
  have hp : Try.prog.stoodInHeld 83 = false := by kernel_rfl
  have u1 := Try.underlying31
  have u2 := Try.underlying3
  have u3 := Try.underlying33
  have u4 := Try.underlying4
  have a1 := Try.isAgg31
  have a2 := Try.isAgg3
  have a3 := Try.isAgg33
  have a4 := Try.isAgg4
  have z1 := Try.sizeOf31
  have z2 := Try.sizeOf3
  have z3 := Try.sizeOf33
  have z4 := Try.sizeOf4
  unfold plV
  rw [run_neq_struct, show (10000 : Nat) = 9999 + 1 from rfl, run_equalIn_struct w 9999 83 _ _ hS hp]
  simp only [Program.fieldsOf, Try.underlying83]
  go_simp
  by_cases h0 : p0 = q0 <;> by_cases h1 : p1 = q1 <;> by_cases h2 : p2 = q2 <;> by_cases h3 : p3 = q3 <;> by_cases h4 : p4 = q4 <;> simp [h0, h1, h2, h3, h4] <;> omega
theorem Try.guard_pl : Try.prog.eqGuardType Try.prog.depth 83 = false := by kernel_rfl
/-- The Data of the needle of a place, if a file's bytes still have just that one there. -/
def findL (b : List Nat) (p : Pl) : Option (List Nat) := if b.length < p.at_ then none else if (ndDec (b.drop p.at_)).2.2 ≠ 0 ∨ plOf (ndDec (b.drop p.at_)) p.at_ ≠ p then none else some (ndDec (b.drop p.at_)).1.2.2.2
def FindAns (w : World) (p : Pl) (r : Option (List Nat)) (e : Ending) (w' : World) : Prop :=
  Below w.heap.size w w' ∧ match r with
  | none => e = .returned (.tuple #[.agg #[.int .u64 0, .int .u32 0, .bool false, .slice none 0 0], .bool false])
  | some data => ∃ s, e = .returned (.tuple #[.agg #[.int .u64 (p.key : Int), .int .u32 (p.cook : Int), .bool p.dead, s], .bool true]) ∧ Own w' w.heap.size s data
/-- The cells of a needle in a block of its own. -/
theorem nd_cells {w : World} {B g : Nat} {k c d s : Value} (h : Blk w B 35 g [k, c, d, s]) : w.cell? ⟨g, 0, none⟩ = some k ∧ w.cell? ⟨g, 1, none⟩ = some c ∧ w.cell? ⟨g, 2, none⟩ = some d ∧ w.cell? ⟨g, 3, none⟩ = some s :=
  ⟨h.cell 0, h.cell 1, h.cell 2, h.cell 3⟩
/-- Where find stands behind its first operations. -/
structure FStart (w W : World) (g0 g1 : Nat) (pk pa pn pc : Nat) (pd : Bool) : Prop where
  bel : Below w.heap.size w W
  e0 : g0 = w.heap.size
  e1 : g1 = w.heap.size + 1
  sz : W.heap.size = w.heap.size + 2
  b0 : Blk W 0 83 g0 [.int .u64 (pk : Int), .int .i64 (pa : Int), .int .i64 (pn : Int), .int .u32 (pc : Int), .bool pd]
  b1 : Blk W 0 35 g1 [.int .u64 0, .int .u32 0, .bool false, .slice none 0 0]
theorem fstart_new (w : World) (pk pa pn pc : Nat) (pd : Bool) : FStart w ((w.alloc (.cells #[.int .u64 (pk : Int), .int .i64 (pa : Int), .int .i64 (pn : Int), .int .u32 (pc : Int), .bool pd] 83)).alloc (.cells #[.int .u64 0, .int .u32 0, .bool false, .slice none 0 0] 35)) w.heap.size (w.heap.size + 1) pk pa pn pc pd := by
  have k1 := below_alloc w (.cells #[.int .u64 (pk : Int), .int .i64 (pa : Int), .int .i64 (pn : Int), .int .u32 (pc : Int), .bool pd] 83)
  have k2 := below_alloc (w.alloc (.cells #[.int .u64 (pk : Int), .int .i64 (pa : Int), .int .i64 (pn : Int), .int .u32 (pc : Int), .bool pd] 83)) (.cells #[.int .u64 0, .int .u32 0, .bool false, .slice none 0 0] 35)
  have b0 := Blk.new w (B := 0) 83 #[.int .u64 (pk : Int), .int .i64 (pa : Int), .int .i64 (pn : Int), .int .u32 (pc : Int), .bool pd] (Nat.zero_le _)
  have b1 := Blk.new (w.alloc (.cells #[.int .u64 (pk : Int), .int .i64 (pa : Int), .int .i64 (pn : Int), .int .u32 (pc : Int), .bool pd] 83)) (B := 0) 35 #[.int .u64 0, .int .u32 0, .bool false, .slice none 0 0] (Nat.zero_le _)
  have s1 : (w.alloc (.cells #[.int .u64 (pk : Int), .int .i64 (pa : Int), .int .i64 (pn : Int), .int .u32 (pc : Int), .bool pd] 83)).heap.size = w.heap.size + 1 := by simp
  rw [s1] at b1
  exact ⟨k1.trans (k2.mono k1.size), rfl, rfl, by simp, b0.keep k2, b1⟩
set_option maxRecDepth 100000 in
set_option maxHeartbeats 1600000 in
theorem find_far (A : Option Addr) (n c : Nat) (p : Pl) (w : World) (hn : n < p.at_) (hat : p.at_ ≤ 1099511627776) :
    Calls Try.prog 51 #[.slice A n c, plV p] w fun e w' => FindAns w p none e w' := by
  obtain ⟨pk, pa, pn, pc, pd⟩ := p
  have hn : n < pa := hn
  have hat : pa ≤ 1099511627776 := hat
  have hz : (n : Int) < (pa : Int) := by omega
  unfold plV
  dsimp only
  have st := fstart_new w pk pa pn pc pd
  go_enter Try.func51, Try.ntmps51
  go_wp2_with fail
  obtain ⟨W, hW⟩ : ∃ W, W = (w.alloc (.cells #[.int .u64 (pk : Int), .int .i64 (pa : Int), .int .i64 (pn : Int), .int .u32 (pc : Int), .bool pd] 83)).alloc (.cells #[.int .u64 0, .int .u32 0, .bool false, .slice none 0 0] 35) := ⟨_, rfl⟩
  rw [← hW] at st ⊢
  obtain ⟨q0, q1, q2, q3⟩ := nd_cells st.b1
  refine bodyPost_ret (v := .tuple #[.agg #[.int .u64 0, .int .u32 0, .bool false, .slice none 0 0], .bool false]) (by simp [results, Try.results51, go_sem, q0, q1, q2, q3]) rfl ⟨st.bel, rfl⟩
set_option maxRecDepth 100000 in
set_option maxHeartbeats 3200000 in
theorem find_nearE (A : Option Addr) (n : Nat) (b : List Nat) (p : Pl) (w : World) (hA : IsB w (.slice A n p.at_) b) (hb : ∀ x ∈ b, x < 256) (hlim : n ≤ 549755813888) (hn : p.at_ ≤ n) (hp : PlFit p) :
    Calls Try.prog 51 #[.slice A n p.at_, plV p] w fun e w' => FindAns w p (findL b p) e w' := by
  obtain ⟨hbl, hnc, hc63⟩ := isB_len hA
  have hlow := hp.low
  obtain ⟨g, off, rfl⟩ := isB_at hA (by omega)
  obtain ⟨pk, pa, pn, pc, pd⟩ := p
  have hn : pa ≤ n := hn
  have hlow : 8 ≤ pa := hlow
  obtain ⟨r, hr⟩ : ∃ r, r = ndDec (b.drop pa) := ⟨_, rfl⟩
  have HF : Hid (findL b ⟨pk, pa, pn, pc, pd⟩ = if r.2.2 ≠ 0 ∨ plOf r pa ≠ ⟨pk, pa, pn, pc, pd⟩ then none else some r.1.2.2.2) := hide (by
    unfold findL
    rw [if_neg (by rw [hbl]; show ¬ n < pa; omega), ← hr])
  have hz : ¬ (n : Int) < (pa : Int) := by omega
  have hz2 : (pa : Int) ≤ (n : Int) := by omega
  skip
  have st := fstart_new w pk pa pn pc pd
  have hit := isB_tail (hA.keep st.bel) pa hn
  have hn0 : n - pa = 0 := Nat.sub_eq_zero_of_le hnc
  rw [if_pos rfl, Nat.sub_self, hn0] at hit
  clear hn0
  have DEC : Hid (Calls Try.prog 89 #[.slice (some ⟨g, off, none⟩) 0 0] ((w.alloc (.cells #[.int .u64 (pk : Int), .int .i64 (pa : Int), .int .i64 (pn : Int), .int .u32 (pc : Int), .bool pd] 83)).alloc (.cells #[.int .u64 0, .int .u32 0, .bool false, .slice none 0 0] 35)) fun e w' => DecAns ((w.alloc (.cells #[.int .u64 (pk : Int), .int .i64 (pa : Int), .int .i64 (pn : Int), .int .u32 (pc : Int), .bool pd] 83)).alloc (.cells #[.int .u64 0, .int .u32 0, .bool false, .slice none 0 0] 35)) (ndDec (b.drop pa)) e w') := hide (nddec_any (some ⟨g, off, none⟩) 0 0 (b.drop pa) _ hit (fun x hx => hb x (List.mem_of_mem_drop hx)) (by omega))
  rw [← hr] at DEC
  obtain ⟨⟨rk, rc, rd, rx⟩, rs, re⟩ := r
  clear hit
  unfold plV
  dsimp only
  have HNN := hide (And.intro hn hlow)
  clear hA hb hlim hbl hp hlow hr
  go_enter Try.func51, Try.ntmps51
  go_wp2_with fail
  skip
  · obtain ⟨W0, hW0⟩ : ∃ W, W = (w.alloc (.cells #[.int .u64 (pk : Int), .int .i64 (pa : Int), .int .i64 (pn : Int), .int .u32 (pc : Int), .bool pd] 83)).alloc (.cells #[.int .u64 0, .int .u32 0, .bool false, .slice none 0 0] 35) := ⟨_, rfl⟩
    rw [← hW0] at DEC st
    have ST := hide st
    rw [← hW0]
    clear hW0 st
    refine DEC.out.mono ?_
    rintro e w1 ⟨s0, rfl, o, k⟩
    obtain ⟨n4, hn4⟩ : ∃ n4, n4 = rx.length := ⟨_, rfl⟩
    obtain ⟨A4, c4, rfl, i4, l4, m4⟩ := o.isB.form hn4.symm
    have O4 := hide o
    have K1 := hide k
    have HN4 := hide hn4
    clear DEC o k i4 hn4
    go_wp2_with fail
    have ka := below_alloc w1 (.cells #[.int .u64 (rk : Int), .int .u32 (rc : Int), .bool rd, .slice A4 n4 c4] 35)
    have b2 := Blk.new w1 (B := 0) 35 #[.int .u64 (rk : Int), .int .u32 (rc : Int), .bool rd, .slice A4 n4 c4] (Nat.zero_le _)
    obtain ⟨g2, hg2⟩ : ∃ g, g = w1.heap.size := ⟨_, rfl⟩
    obtain ⟨W3, hW3⟩ : ∃ W, W = w1.alloc (.cells #[.int .u64 (rk : Int), .int .u32 (rc : Int), .bool rd, .slice A4 n4 c4] 35) := ⟨_, rfl⟩
    rw [← hW3] at ka b2 ⊢
    rw [← hg2] at b2 ⊢
    have KA : Hid (Below W0.heap.size W0 W3) := hide (K1.out.trans (ka.mono K1.out.size))
    have B2 := hide b2
    have B0 := hide (ST.out.b0.keep KA.out)
    have B1 := hide (ST.out.b1.keep KA.out)
    have O4 := hide (O4.out.keep ka)
    have HG2 : Hid (W0.heap.size ≤ g2) := hide (by rw [hg2]; exact K1.out.size)
    have HSZ : Hid (W0.heap.size = w.heap.size + 2 ∧ w.heap.size + 1 < W3.heap.size) := hide ⟨ST.out.sz, by have h1 := ST.out.sz; have h2 := KA.out.size; omega⟩
    have KW : Hid (Below w.heap.size w W3) := hide (ST.out.bel.trans (KA.out.mono ST.out.bel.size))
    have hq0 := B2.out.cell 0
    clear hq0 hW3 hg2 ka b2 K1 KA ST
    by_cases hre : re = 0
    rotate_left
    · have hre2 : ((re : Int) != 0) = true := by simp; omega
      have HR : Hid (findL b ⟨pk, pa, pn, pc, pd⟩ = none) := hide (by rw [HF.out]; exact if_pos (.inl hre))
      clear hre
      refine heldT_top (fun W' => W'.cell? ⟨g2, 0, none⟩ = some (.int .u64 (rk : Int)) ∧ W'.cell? ⟨g2, 1, none⟩ = some (.int .u32 (rc : Int)) ∧ W'.cell? ⟨g2, 2, none⟩ = some (.bool rd) ∧ W'.cell? ⟨g2, 3, none⟩ = some (.slice A4 n4 c4) ∧ W'.cell? ⟨w.heap.size, 0, none⟩ = some (.int .u64 (pk : Int)) ∧ W'.cell? ⟨w.heap.size, 1, none⟩ = some (.int .i64 (pa : Int)) ∧ W'.cell? ⟨w.heap.size, 2, none⟩ = some (.int .i64 (pn : Int)) ∧ W'.cell? ⟨w.heap.size, 3, none⟩ = some (.int .u32 (pc : Int)) ∧ W'.cell? ⟨w.heap.size, 4, none⟩ = some (.bool pd)) 11 #[false, false, false, false, false, false, false, false, false, false, false] (by kernel_rfl) (by kernel_rfl) (by kernel_rfl) ?_
      have hHeld : (fun W' => W'.cell? ⟨g2, 0, none⟩ = some (.int .u64 (rk : Int)) ∧ W'.cell? ⟨g2, 1, none⟩ = some (.int .u32 (rc : Int)) ∧ W'.cell? ⟨g2, 2, none⟩ = some (.bool rd) ∧ W'.cell? ⟨g2, 3, none⟩ = some (.slice A4 n4 c4) ∧ W'.cell? ⟨w.heap.size, 0, none⟩ = some (.int .u64 (pk : Int)) ∧ W'.cell? ⟨w.heap.size, 1, none⟩ = some (.int .i64 (pa : Int)) ∧ W'.cell? ⟨w.heap.size, 2, none⟩ = some (.int .i64 (pn : Int)) ∧ W'.cell? ⟨w.heap.size, 3, none⟩ = some (.int .u32 (pc : Int)) ∧ W'.cell? ⟨w.heap.size, 4, none⟩ = some (.bool pd)) (W3.drewN 1) := ⟨B2.out.cell 0, B2.out.cell 1, B2.out.cell 2, B2.out.cell 3, B0.out.cell 0, B0.out.cell 1, B0.out.cell 2, B0.out.cell 3, B0.out.cell 4⟩
      have B0 := hide (B0.out.drewN 1)
      have B1 := hide (B1.out.drewN 1)
      have B2 := hide (B2.out.drewN 1)
      have O4 := hide (O4.out.drewN 1)
      have KW := hide (below_drewN KW.out 1)
      have HSZ : Hid (W0.heap.size = w.heap.size + 2 ∧ w.heap.size + 1 < (W3.drewN 1).heap.size) := HSZ
      change wpAnyH _ _ _ _ _ _ _ _ (W3.drewN 1)
      generalize W3.drewN 1 = U at *
      refine' wpAnyH_take (i := 0) (oi := ⟨_, _, _, _, _, _⟩) (v := _) rfl (by kernel_rfl) (by kernel_rfl) (by kernel_rfl) (fun _ _ _ h => h) (Or.inl ⟨rfl, ?_⟩) hHeld ?_
      rotate_left
      · (intro W' hW; (try dsimp only at hW); obtain ⟨z0, z1, z2, z3, z4, z5, z6, z7, z8⟩ := hW; go_simp; (try with_reducible rfl))
      try simp only [Act.put, List.setIfInBounds_toArray, List.set_cons_zero, List.set_cons_succ]
      refine' wpAnyH_take (i := 1) (oi := ⟨_, _, _, _, _, _⟩) (v := _) rfl (by kernel_rfl) (by kernel_rfl) (by kernel_rfl) (fun _ _ _ h => h) (Or.inl ⟨rfl, ?_⟩) hHeld ?_
      rotate_left
      · (intro W' hW; (try dsimp only at hW); obtain ⟨z0, z1, z2, z3, z4, z5, z6, z7, z8⟩ := hW; go_simp; (try with_reducible rfl))
      try simp only [Act.put, List.setIfInBounds_toArray, List.set_cons_zero, List.set_cons_succ]
      refine' wpAnyH_take (i := 2) (oi := ⟨_, _, _, _, _, _⟩) (v := _) rfl (by kernel_rfl) (by kernel_rfl) (by kernel_rfl) (fun _ _ _ h => h) (Or.inl ⟨rfl, ?_⟩) hHeld ?_
      rotate_left
      · (intro W' hW; (try dsimp only at hW); obtain ⟨z0, z1, z2, z3, z4, z5, z6, z7, z8⟩ := hW; go_simp; (try with_reducible rfl))
      try simp only [Act.put, List.setIfInBounds_toArray, List.set_cons_zero, List.set_cons_succ]
      refine' wpAnyH_take (i := 3) (oi := ⟨_, _, _, _, _, _⟩) (v := undef) rfl (by kernel_rfl) (by kernel_rfl) (by kernel_rfl) (fun _ _ _ h => h) (Or.inr ⟨rfl, rfl⟩) hHeld ?_
      try simp only [Act.put, List.setIfInBounds_toArray, List.set_cons_zero, List.set_cons_succ]
      refine' wpAnyH_take (i := 4) (oi := ⟨_, _, _, _, _, _⟩) (v := undef) rfl (by kernel_rfl) (by kernel_rfl) (by kernel_rfl) (fun _ _ _ h => h) (Or.inr ⟨rfl, rfl⟩) hHeld ?_
      try simp only [Act.put, List.setIfInBounds_toArray, List.set_cons_zero, List.set_cons_succ]
      refine' wpAnyH_take (i := 5) (oi := ⟨_, _, _, _, _, _⟩) (v := undef) rfl (by kernel_rfl) (by kernel_rfl) (by kernel_rfl) (fun _ _ _ h => h) (Or.inr ⟨rfl, rfl⟩) hHeld ?_
      try simp only [Act.put, List.setIfInBounds_toArray, List.set_cons_zero, List.set_cons_succ]
      refine' wpAnyH_take (i := 6) (oi := ⟨_, _, _, _, _, _⟩) (v := undef) rfl (by kernel_rfl) (by kernel_rfl) (by kernel_rfl) (fun _ _ _ h => h) (Or.inr ⟨rfl, rfl⟩) hHeld ?_
      try simp only [Act.put, List.setIfInBounds_toArray, List.set_cons_zero, List.set_cons_succ]
      refine' wpAnyH_take (i := 7) (oi := ⟨_, _, _, _, _, _⟩) (v := undef) rfl (by kernel_rfl) (by kernel_rfl) (by kernel_rfl) (fun _ _ _ h => h) (Or.inr ⟨rfl, rfl⟩) hHeld ?_
      try simp only [Act.put, List.setIfInBounds_toArray, List.set_cons_zero, List.set_cons_succ]
      refine' wpAnyH_take (i := 8) (oi := ⟨_, _, _, _, _, _⟩) (v := undef) rfl (by kernel_rfl) (by kernel_rfl) (by kernel_rfl) (fun _ _ _ h => h) (Or.inr ⟨rfl, rfl⟩) hHeld ?_
      try simp only [Act.put, List.setIfInBounds_toArray, List.set_cons_zero, List.set_cons_succ]
      refine' wpAnyH_take (i := 9) (oi := ⟨_, _, _, _, _, _⟩) (v := undef) rfl (by kernel_rfl) (by kernel_rfl) (by kernel_rfl) (fun _ _ _ h => h) (Or.inr ⟨rfl, rfl⟩) hHeld ?_
      try simp only [Act.put, List.setIfInBounds_toArray, List.set_cons_zero, List.set_cons_succ]
      refine' wpAnyH_take (i := 10) (oi := ⟨_, _, _, _, _, _⟩) (v := _) rfl (by kernel_rfl) (by kernel_rfl) (by kernel_rfl) (fun _ _ _ h => h) (Or.inl ⟨rfl, ?_⟩) hHeld ?_
      rotate_left
      · (intro W' hW; (try dsimp only at hW); obtain ⟨z0, z1, z2, z3, z4, z5, z6, z7, z8⟩ := hW; go_simp; (try with_reducible rfl))
      try simp only [Act.put, List.setIfInBounds_toArray, List.set_cons_zero, List.set_cons_succ]
      refine wpAnyH_done (by kernel_rfl) ?_ _
      clear hHeld
      have q0 := B1.out.cell 0
      have q1 := B1.out.cell 1
      have q2 := B1.out.cell 2
      have q3 := B1.out.cell 3
      dsimp only [List.getElem?_cons_succ, List.getElem?_cons_zero] at q0 q1 q2 q3
      have f0 := B1.out.frozen 0
      have f1 := B1.out.frozen 1
      have f2 := B1.out.frozen 2
      have f3 := B1.out.frozen 3
      go_wp2_with fail
      obtain ⟨bz, -, -, kz⟩ := put4_ (B1.out) (.int .u64 0) (.int .u32 0) (.bool false) (.slice none 0 0) _ rfl
      obtain ⟨y0, y1, y2, y3⟩ := nd_cells bz
      have kz2 : Below w.heap.size U _ := ((((Below.refl w.heap.size U).setCell (p := ⟨w.heap.size + 1, 0, none⟩) (Nat.le_succ _) (.int .u64 0)).setCell (p := ⟨w.heap.size + 1, 1, none⟩) (Nat.le_succ _) (.int .u32 0)).setCell (p := ⟨w.heap.size + 1, 2, none⟩) (Nat.le_succ _) (.bool false)).setCell (p := ⟨w.heap.size + 1, 3, none⟩) (Nat.le_succ _) (.slice none 0 0)
      obtain ⟨WZ, hWZ⟩ : ∃ W, W = (((U.setCell ⟨w.heap.size + 1, 0, none⟩ (.int .u64 0)).setCell ⟨w.heap.size + 1, 1, none⟩ (.int .u32 0)).setCell ⟨w.heap.size + 1, 2, none⟩ (.bool false)).setCell ⟨w.heap.size + 1, 3, none⟩ (.slice none 0 0) := ⟨_, rfl⟩
      rw [← hWZ] at y0 y1 y2 y3 kz2 ⊢
      rw [HR.out]
      refine bodyPost_ret (v := .tuple #[.agg #[.int .u64 0, .int .u32 0, .bool false, .slice none 0 0], .bool false]) (by simp [results, Try.results51, go_sem, y0, y1, y2, y3]) rfl ⟨KW.out.trans kz2, rfl⟩
    · subst hre
      refine heldT_top (fun W' => W'.cell? ⟨g2, 0, none⟩ = some (.int .u64 (rk : Int)) ∧ W'.cell? ⟨g2, 1, none⟩ = some (.int .u32 (rc : Int)) ∧ W'.cell? ⟨g2, 2, none⟩ = some (.bool rd) ∧ W'.cell? ⟨g2, 3, none⟩ = some (.slice A4 n4 c4) ∧ W'.cell? ⟨w.heap.size, 0, none⟩ = some (.int .u64 (pk : Int)) ∧ W'.cell? ⟨w.heap.size, 1, none⟩ = some (.int .i64 (pa : Int)) ∧ W'.cell? ⟨w.heap.size, 2, none⟩ = some (.int .i64 (pn : Int)) ∧ W'.cell? ⟨w.heap.size, 3, none⟩ = some (.int .u32 (pc : Int)) ∧ W'.cell? ⟨w.heap.size, 4, none⟩ = some (.bool pd)) 11 #[false, false, false, false, false, false, false, false, false, false, false] (by kernel_rfl) (by kernel_rfl) (by kernel_rfl) ?_
      have hHeld : (fun W' => W'.cell? ⟨g2, 0, none⟩ = some (.int .u64 (rk : Int)) ∧ W'.cell? ⟨g2, 1, none⟩ = some (.int .u32 (rc : Int)) ∧ W'.cell? ⟨g2, 2, none⟩ = some (.bool rd) ∧ W'.cell? ⟨g2, 3, none⟩ = some (.slice A4 n4 c4) ∧ W'.cell? ⟨w.heap.size, 0, none⟩ = some (.int .u64 (pk : Int)) ∧ W'.cell? ⟨w.heap.size, 1, none⟩ = some (.int .i64 (pa : Int)) ∧ W'.cell? ⟨w.heap.size, 2, none⟩ = some (.int .i64 (pn : Int)) ∧ W'.cell? ⟨w.heap.size, 3, none⟩ = some (.int .u32 (pc : Int)) ∧ W'.cell? ⟨w.heap.size, 4, none⟩ = some (.bool pd)) (W3.drewN 1) := ⟨B2.out.cell 0, B2.out.cell 1, B2.out.cell 2, B2.out.cell 3, B0.out.cell 0, B0.out.cell 1, B0.out.cell 2, B0.out.cell 3, B0.out.cell 4⟩
      have B0 := hide (B0.out.drewN 1)
      have B1 := hide (B1.out.drewN 1)
      have B2 := hide (B2.out.drewN 1)
      have O4 := hide (O4.out.drewN 1)
      have KW := hide (below_drewN KW.out 1)
      have HSZ : Hid (W0.heap.size = w.heap.size + 2 ∧ w.heap.size + 1 < (W3.drewN 1).heap.size) := HSZ
      change wpAnyH _ _ _ _ _ _ _ _ (W3.drewN 1)
      generalize W3.drewN 1 = U at *
      refine' wpAnyH_take (i := 0) (oi := ⟨_, _, _, _, _, _⟩) (v := _) rfl (by kernel_rfl) (by kernel_rfl) (by kernel_rfl) (fun _ _ _ h => h) (Or.inl ⟨rfl, ?_⟩) hHeld ?_
      rotate_left
      · (intro W' hW; (try dsimp only at hW); obtain ⟨z0, z1, z2, z3, z4, z5, z6, z7, z8⟩ := hW; go_simp; (try with_reducible rfl))
      try simp only [Act.put, List.setIfInBounds_toArray, List.set_cons_zero, List.set_cons_succ]
      refine' wpAnyH_take (i := 1) (oi := ⟨_, _, _, _, _, _⟩) (v := _) rfl (by kernel_rfl) (by kernel_rfl) (by kernel_rfl) (fun _ _ _ h => h) (Or.inl ⟨rfl, ?_⟩) hHeld ?_
      rotate_left
      · (intro W' hW; (try dsimp only at hW); obtain ⟨z0, z1, z2, z3, z4, z5, z6, z7, z8⟩ := hW; go_simp; (try with_reducible rfl))
      try simp only [Act.put, List.setIfInBounds_toArray, List.set_cons_zero, List.set_cons_succ]
      refine' wpAnyH_take (i := 2) (oi := ⟨_, _, _, _, _, _⟩) (v := _) rfl (by kernel_rfl) (by kernel_rfl) (by kernel_rfl) (fun _ _ _ h => h) (Or.inl ⟨rfl, ?_⟩) hHeld ?_
      rotate_left
      · (intro W' hW; (try dsimp only at hW); obtain ⟨z0, z1, z2, z3, z4, z5, z6, z7, z8⟩ := hW; go_simp; (try with_reducible rfl))
      try simp only [Act.put, List.setIfInBounds_toArray, List.set_cons_zero, List.set_cons_succ]
      refine' wpAnyH_take (i := 3) (oi := ⟨_, _, _, _, _, _⟩) (v := _) rfl (by kernel_rfl) (by kernel_rfl) (by kernel_rfl) (fun _ _ _ h => h) (Or.inl ⟨rfl, ?_⟩) hHeld ?_
      rotate_left
      · (intro W' hW; (try dsimp only at hW); obtain ⟨z0, z1, z2, z3, z4, z5, z6, z7, z8⟩ := hW; go_simp; (try with_reducible rfl))
      try simp only [Act.put, List.setIfInBounds_toArray, List.set_cons_zero, List.set_cons_succ]
      refine' wpAnyH_take (i := 4) (oi := ⟨_, _, _, _, _, _⟩) (v := _) rfl (by kernel_rfl) (by kernel_rfl) (by kernel_rfl) (fun _ _ _ h => h) (Or.inl ⟨rfl, ?_⟩) hHeld ?_
      rotate_left
      · (intro W' hW; (try dsimp only at hW); obtain ⟨z0, z1, z2, z3, z4, z5, z6, z7, z8⟩ := hW; go_simp; (try with_reducible rfl))
      try simp only [Act.put, List.setIfInBounds_toArray, List.set_cons_zero, List.set_cons_succ]
      refine' wpAnyH_take (i := 5) (oi := ⟨_, _, _, _, _, _⟩) (v := _) rfl (by kernel_rfl) (by kernel_rfl) (by kernel_rfl) (fun _ _ _ h => h) (Or.inl ⟨rfl, ?_⟩) hHeld ?_
      rotate_left
      · (intro W' hW; (try dsimp only at hW); obtain ⟨z0, z1, z2, z3, z4, z5, z6, z7, z8⟩ := hW; go_simp; (try with_reducible rfl))
      try simp only [Act.put, List.setIfInBounds_toArray, List.set_cons_zero, List.set_cons_succ]
      refine' wpAnyH_take (i := 6) (oi := ⟨_, _, _, _, _, _⟩) (v := _) rfl (by kernel_rfl) (by kernel_rfl) (by kernel_rfl) (fun _ _ _ h => h) (Or.inl ⟨rfl, ?_⟩) hHeld ?_
      rotate_left
      · (intro W' hW; (try dsimp only at hW); obtain ⟨z0, z1, z2, z3, z4, z5, z6, z7, z8⟩ := hW; go_simp; (try with_reducible rfl))
      try simp only [Act.put, List.setIfInBounds_toArray, List.set_cons_zero, List.set_cons_succ]
      refine' wpAnyH_take (i := 8) (oi := ⟨_, _, _, _, _, _⟩) (v := _) rfl (by kernel_rfl) (by kernel_rfl) (by kernel_rfl) (fun _ _ _ h => h) (Or.inl ⟨rfl, ?_⟩) hHeld ?_
      rotate_left
      · (intro W' hW; (try dsimp only at hW); obtain ⟨z0, z1, z2, z3, z4, z5, z6, z7, z8⟩ := hW; go_simp; (try with_reducible rfl))
      try simp only [Act.put, List.setIfInBounds_toArray, List.set_cons_zero, List.set_cons_succ]
      clear hHeld
      refine heldT_one (i := 7) (by kernel_rfl) rfl (fun K' hK => ?_)
      go_simp
      go_at_call 44
      refine (placeOf_any rk rc pa rs rd A4 n4 c4 U).mono ?_
      rintro e u1 ⟨rfl, k⟩
      have B0 := hide (B0.out.keep k)
      have B1 := hide (B1.out.keep k)
      have B2 := hide (B2.out.keep k)
      have O4 := hide (O4.out.keep k)
      have KW := hide (KW.out.trans (k.mono KW.out.size))
      clear k
      have hHeld : (fun W' => W'.cell? ⟨g2, 0, none⟩ = some (.int .u64 (rk : Int)) ∧ W'.cell? ⟨g2, 1, none⟩ = some (.int .u32 (rc : Int)) ∧ W'.cell? ⟨g2, 2, none⟩ = some (.bool rd) ∧ W'.cell? ⟨g2, 3, none⟩ = some (.slice A4 n4 c4) ∧ W'.cell? ⟨w.heap.size, 0, none⟩ = some (.int .u64 (pk : Int)) ∧ W'.cell? ⟨w.heap.size, 1, none⟩ = some (.int .i64 (pa : Int)) ∧ W'.cell? ⟨w.heap.size, 2, none⟩ = some (.int .i64 (pn : Int)) ∧ W'.cell? ⟨w.heap.size, 3, none⟩ = some (.int .u32 (pc : Int)) ∧ W'.cell? ⟨w.heap.size, 4, none⟩ = some (.bool pd)) u1 := ⟨B2.out.cell 0, B2.out.cell 1, B2.out.cell 2, B2.out.cell 3, B0.out.cell 0, B0.out.cell 1, B0.out.cell 2, B0.out.cell 3, B0.out.cell 4⟩
      refine hK.out _ _ hHeld ?_
      clear hK
      try simp only [List.setIfInBounds_toArray, List.set_cons_zero, List.set_cons_succ]
      have hnq : ∀ W', (binOp .neq 83 (plV ⟨rk, pa, rs, rc, rd⟩) (.agg #[.int .u64 (pk : Int), .int .i64 (pa : Int), .int .i64 (pn : Int), .int .u32 (pc : Int), .bool pd])).run Try.prog W' = .ok (.bool (decide ((⟨rk, pa, rs, rc, rd⟩ : Pl) ≠ ⟨pk, pa, pn, pc, pd⟩))) W' := fun W' => neq_pl ⟨rk, pa, rs, rc, rd⟩ ⟨pk, pa, pn, pc, pd⟩ W'
      have hgd := Try.guard_pl
      obtain ⟨nb, hnb⟩ : ∃ nb, nb = decide ((⟨rk, pa, rs, rc, rd⟩ : Pl) ≠ ⟨pk, pa, pn, pc, pd⟩) := ⟨_, rfl⟩
      rw [← hnb] at hnq
      have HNB := hide hnb
      clear hnb
      unfold plV at hnq ⊢
      dsimp only at hnq ⊢
      refine' wpAnyH_take (i := 9) (oi := ⟨_, _, _, _, _, _⟩) (v := _) rfl (by kernel_rfl) (by kernel_rfl) (by kernel_rfl) (fun _ _ _ h => h) (Or.inl ⟨rfl, ?_⟩) hHeld ?_
      rotate_left
      · (intro W' hW; (try dsimp only at hW); obtain ⟨z0, z1, z2, z3, z4, z5, z6, z7, z8⟩ := hW; go_simp; (try with_reducible rfl))
      try simp only [Act.put, List.setIfInBounds_toArray, List.set_cons_zero, List.set_cons_succ]
      refine' wpAnyH_take (i := 10) (oi := ⟨_, _, _, _, _, _⟩) (v := _) rfl (by kernel_rfl) (by kernel_rfl) (by kernel_rfl) (fun _ _ _ h => h) (Or.inl ⟨rfl, ?_⟩) hHeld ?_
      rotate_left
      · (intro W' hW; (try dsimp only at hW); obtain ⟨z0, z1, z2, z3, z4, z5, z6, z7, z8⟩ := hW; go_simp; (try with_reducible rfl))
      try simp only [Act.put, List.setIfInBounds_toArray, List.set_cons_zero, List.set_cons_succ]
      refine wpAnyH_done (by kernel_rfl) ?_ _
      clear hHeld hnq hgd
      cases nb with
      | true =>
        have HR : Hid (findL b ⟨pk, pa, pn, pc, pd⟩ = none) := hide (by rw [HF.out]; exact if_pos (.inr (of_decide_eq_true HNB.out.symm)))
        have q0 := B1.out.cell 0
        have q1 := B1.out.cell 1
        have q2 := B1.out.cell 2
        have q3 := B1.out.cell 3
        dsimp only [List.getElem?_cons_succ, List.getElem?_cons_zero] at q0 q1 q2 q3
        have f0 := B1.out.frozen 0
        have f1 := B1.out.frozen 1
        have f2 := B1.out.frozen 2
        have f3 := B1.out.frozen 3
        go_wp2_with fail
        obtain ⟨bz, -, -, kz⟩ := put4_ (B1.out) (.int .u64 0) (.int .u32 0) (.bool false) (.slice none 0 0) _ rfl
        obtain ⟨y0, y1, y2, y3⟩ := nd_cells bz
        have kz2 : Below w.heap.size u1 _ := ((((Below.refl w.heap.size u1).setCell (p := ⟨w.heap.size + 1, 0, none⟩) (Nat.le_succ _) (.int .u64 0)).setCell (p := ⟨w.heap.size + 1, 1, none⟩) (Nat.le_succ _) (.int .u32 0)).setCell (p := ⟨w.heap.size + 1, 2, none⟩) (Nat.le_succ _) (.bool false)).setCell (p := ⟨w.heap.size + 1, 3, none⟩) (Nat.le_succ _) (.slice none 0 0)
        obtain ⟨WZ, hWZ⟩ : ∃ W, W = (((u1.setCell ⟨w.heap.size + 1, 0, none⟩ (.int .u64 0)).setCell ⟨w.heap.size + 1, 1, none⟩ (.int .u32 0)).setCell ⟨w.heap.size + 1, 2, none⟩ (.bool false)).setCell ⟨w.heap.size + 1, 3, none⟩ (.slice none 0 0) := ⟨_, rfl⟩
        rw [← hWZ] at y0 y1 y2 y3 kz2 ⊢
        rw [HR.out]
        refine bodyPost_ret (v := .tuple #[.agg #[.int .u64 0, .int .u32 0, .bool false, .slice none 0 0], .bool false]) (by simp [results, Try.results51, go_sem, y0, y1, y2, y3]) rfl ⟨KW.out.trans kz2, rfl⟩
      | false =>
        have HR : Hid (findL b ⟨pk, pa, pn, pc, pd⟩ = some rx) := hide (by rw [HF.out]; exact if_neg (fun h => h.elim (fun h => h rfl) (fun h => of_decide_eq_false HNB.out.symm h)))
        have hpe : (⟨rk, pa, rs, rc, rd⟩ : Pl) = ⟨pk, pa, pn, pc, pd⟩ := Decidable.of_not_not (of_decide_eq_false HNB.out.symm)
        have e1 : rk = pk := congrArg Pl.key hpe
        have e2 : rc = pc := congrArg Pl.cook hpe
        have e3 : rd = pd := congrArg Pl.dead hpe
        have HPE := hide (And.intro e1 (And.intro e2 e3))
        clear hpe e1 e2 e3
        have x0 := B2.out.cell 0
        have x1 := B2.out.cell 1
        have x2 := B2.out.cell 2
        have x3 := B2.out.cell 3
        dsimp only [Array.toList, List.getElem?_cons_succ, List.getElem?_cons_zero] at x0 x1 x2 x3
        have q0 := B1.out.cell 0
        have q1 := B1.out.cell 1
        have q2 := B1.out.cell 2
        have q3 := B1.out.cell 3
        dsimp only [List.getElem?_cons_succ, List.getElem?_cons_zero] at q0 q1 q2 q3
        have f0 := B1.out.frozen 0
        have f1 := B1.out.frozen 1
        have f2 := B1.out.frozen 2
        have f3 := B1.out.frozen 3
        go_wp2_with fail
        have y := nd_cells (put4_ B1.out (.int .u64 (rk : Int)) (.int .u32 (rc : Int)) (.bool rd) (.slice A4 n4 c4) _ rfl).1
        have kz2 := ((((Below.refl w.heap.size u1).setCell (p := ⟨w.heap.size + 1, 0, none⟩) (Nat.le_succ _) (.int .u64 (rk : Int))).setCell (p := ⟨w.heap.size + 1, 1, none⟩) (Nat.le_succ _) (.int .u32 (rc : Int))).setCell (p := ⟨w.heap.size + 1, 2, none⟩) (Nat.le_succ _) (.bool rd)).setCell (p := ⟨w.heap.size + 1, 3, none⟩) (Nat.le_succ _) (.slice A4 n4 c4)
        have tz : Turn (fun k => k = w.heap.size + 1) u1 ((((u1.setCell ⟨w.heap.size + 1, 0, none⟩ (.int .u64 (rk : Int))).setCell ⟨w.heap.size + 1, 1, none⟩ (.int .u32 (rc : Int))).setCell ⟨w.heap.size + 1, 2, none⟩ (.bool rd)).setCell ⟨w.heap.size + 1, 3, none⟩ (.slice A4 n4 c4)) := by
          have o : ∀ (W : World) (i : Nat) (v : Value), Turn (fun k => k = w.heap.size + 1) W (W.setCell ⟨w.heap.size + 1, i, none⟩ v) := fun W i v => (Turn.of_grown (grown_set W (w.heap.size + 1) i v)).mono (S' := fun k => k = w.heap.size + 1) (fun i e => Option.some.inj e)
          exact (((o _ _ _).trans (o _ _ _)).trans (o _ _ _)).trans (o _ _ _)
        have OZ := (O4.out.turn tz (fun g hg e => by have h1 := (O4.out.lt g hg).1; have h2 := HSZ.out.1; have h3 : g = w.heap.size + 1 := e; omega)).more (B' := w.heap.size) (by have h2 := HSZ.out.1; omega)
        obtain ⟨WZ, hWZ⟩ : ∃ W, W = (((u1.setCell ⟨w.heap.size + 1, 0, none⟩ (.int .u64 (rk : Int))).setCell ⟨w.heap.size + 1, 1, none⟩ (.int .u32 (rc : Int))).setCell ⟨w.heap.size + 1, 2, none⟩ (.bool rd)).setCell ⟨w.heap.size + 1, 3, none⟩ (.slice A4 n4 c4) := ⟨_, rfl⟩
        rw [← hWZ] at y kz2 OZ ⊢
        obtain ⟨y0, y1, y2, y3⟩ := y
        rw [HR.out]
        refine bodyPost_ret (v := .tuple #[.agg #[.int .u64 (rk : Int), .int .u32 (rc : Int), .bool rd, .slice A4 n4 c4], .bool true]) (by simp [results, Try.results51, go_sem, y0, y1, y2, y3]) rfl ⟨KW.out.trans kz2, _, ?_, OZ⟩
        show Ending.returned _ = _
        rw [HPE.out.1, HPE.out.2.1, HPE.out.2.2]
set_option maxRecDepth 100000 in
set_option maxHeartbeats 3200000 in
theorem find_nearN (A : Option Addr) (n c : Nat) (b : List Nat) (p : Pl) (w : World) (hA : IsB w (.slice A n c) b) (hb : ∀ x ∈ b, x < 256) (hlim : n ≤ 549755813888) (hn : p.at_ ≤ n) (hp : PlFit p) (hcp : ¬ c = p.at_) :
    Calls Try.prog 51 #[.slice A n c, plV p] w fun e w' => FindAns w p (findL b p) e w' := by
  obtain ⟨hbl, hnc, hc63⟩ := isB_len hA
  have hlow := hp.low
  obtain ⟨g, off, rfl⟩ := isB_at hA (by omega)
  obtain ⟨pk, pa, pn, pc, pd⟩ := p
  have hn : pa ≤ n := hn
  have hlow : 8 ≤ pa := hlow
  obtain ⟨r, hr⟩ : ∃ r, r = ndDec (b.drop pa) := ⟨_, rfl⟩
  have HF : Hid (findL b ⟨pk, pa, pn, pc, pd⟩ = if r.2.2 ≠ 0 ∨ plOf r pa ≠ ⟨pk, pa, pn, pc, pd⟩ then none else some r.1.2.2.2) := hide (by
    unfold findL
    rw [if_neg (by rw [hbl]; show ¬ n < pa; omega), ← hr])
  have hz : ¬ (n : Int) < (pa : Int) := by omega
  have hz2 : (pa : Int) ≤ (n : Int) := by omega
  have hz3 : (pa : Int) ≤ (c : Int) := by omega
  have st := fstart_new w pk pa pn pc pd
  have hit := isB_tail (hA.keep st.bel) pa hn
  have hcp : ¬ c = pa := hcp
  rw [if_neg hcp] at hit
  have DEC : Hid (Calls Try.prog 89 #[.slice (some ⟨g, off + pa, none⟩) (n - pa) (c - pa)] ((w.alloc (.cells #[.int .u64 (pk : Int), .int .i64 (pa : Int), .int .i64 (pn : Int), .int .u32 (pc : Int), .bool pd] 83)).alloc (.cells #[.int .u64 0, .int .u32 0, .bool false, .slice none 0 0] 35)) fun e w' => DecAns ((w.alloc (.cells #[.int .u64 (pk : Int), .int .i64 (pa : Int), .int .i64 (pn : Int), .int .u32 (pc : Int), .bool pd] 83)).alloc (.cells #[.int .u64 0, .int .u32 0, .bool false, .slice none 0 0] 35)) (ndDec (b.drop pa)) e w') := hide (nddec_any (some ⟨g, off + pa, none⟩) (n - pa) (c - pa) (b.drop pa) _ hit (fun x hx => hb x (List.mem_of_mem_drop hx)) (by omega))
  rw [← hr] at DEC
  obtain ⟨⟨rk, rc, rd, rx⟩, rs, re⟩ := r
  clear hit
  unfold plV
  dsimp only
  have HNN := hide (And.intro hn hlow)
  clear hA hb hlim hbl hp hlow hr
  go_enter Try.func51, Try.ntmps51
  go_wp2_with fail
  skip
  · obtain ⟨W0, hW0⟩ : ∃ W, W = (w.alloc (.cells #[.int .u64 (pk : Int), .int .i64 (pa : Int), .int .i64 (pn : Int), .int .u32 (pc : Int), .bool pd] 83)).alloc (.cells #[.int .u64 0, .int .u32 0, .bool false, .slice none 0 0] 35) := ⟨_, rfl⟩
    rw [← hW0] at DEC st
    have ST := hide st
    rw [← hW0]
    clear hW0 st
    refine DEC.out.mono ?_
    rintro e w1 ⟨s0, rfl, o, k⟩
    obtain ⟨n4, hn4⟩ : ∃ n4, n4 = rx.length := ⟨_, rfl⟩
    obtain ⟨A4, c4, rfl, i4, l4, m4⟩ := o.isB.form hn4.symm
    have O4 := hide o
    have K1 := hide k
    have HN4 := hide hn4
    clear DEC o k i4 hn4
    go_wp2_with fail
    have ka := below_alloc w1 (.cells #[.int .u64 (rk : Int), .int .u32 (rc : Int), .bool rd, .slice A4 n4 c4] 35)
    have b2 := Blk.new w1 (B := 0) 35 #[.int .u64 (rk : Int), .int .u32 (rc : Int), .bool rd, .slice A4 n4 c4] (Nat.zero_le _)
    obtain ⟨g2, hg2⟩ : ∃ g, g = w1.heap.size := ⟨_, rfl⟩
    obtain ⟨W3, hW3⟩ : ∃ W, W = w1.alloc (.cells #[.int .u64 (rk : Int), .int .u32 (rc : Int), .bool rd, .slice A4 n4 c4] 35) := ⟨_, rfl⟩
    rw [← hW3] at ka b2 ⊢
    rw [← hg2] at b2 ⊢
    have KA : Hid (Below W0.heap.size W0 W3) := hide (K1.out.trans (ka.mono K1.out.size))
    have B2 := hide b2
    have B0 := hide (ST.out.b0.keep KA.out)
    have B1 := hide (ST.out.b1.keep KA.out)
    have O4 := hide (O4.out.keep ka)
    have HG2 : Hid (W0.heap.size ≤ g2) := hide (by rw [hg2]; exact K1.out.size)
    have HSZ : Hid (W0.heap.size = w.heap.size + 2 ∧ w.heap.size + 1 < W3.heap.size) := hide ⟨ST.out.sz, by have h1 := ST.out.sz; have h2 := KA.out.size; omega⟩
    have KW : Hid (Below w.heap.size w W3) := hide (ST.out.bel.trans (KA.out.mono ST.out.bel.size))
    have hq0 := B2.out.cell 0
    clear hq0 hW3 hg2 ka b2 K1 KA ST
    by_cases hre : re = 0
    rotate_left
    · have hre2 : ((re : Int) != 0) = true := by simp; omega
      have HR : Hid (findL b ⟨pk, pa, pn, pc, pd⟩ = none) := hide (by rw [HF.out]; exact if_pos (.inl hre))
      clear hre
      refine heldT_top (fun W' => W'.cell? ⟨g2, 0, none⟩ = some (.int .u64 (rk : Int)) ∧ W'.cell? ⟨g2, 1, none⟩ = some (.int .u32 (rc : Int)) ∧ W'.cell? ⟨g2, 2, none⟩ = some (.bool rd) ∧ W'.cell? ⟨g2, 3, none⟩ = some (.slice A4 n4 c4) ∧ W'.cell? ⟨w.heap.size, 0, none⟩ = some (.int .u64 (pk : Int)) ∧ W'.cell? ⟨w.heap.size, 1, none⟩ = some (.int .i64 (pa : Int)) ∧ W'.cell? ⟨w.heap.size, 2, none⟩ = some (.int .i64 (pn : Int)) ∧ W'.cell? ⟨w.heap.size, 3, none⟩ = some (.int .u32 (pc : Int)) ∧ W'.cell? ⟨w.heap.size, 4, none⟩ = some (.bool pd)) 11 #[false, false, false, false, false, false, false, false, false, false, false] (by kernel_rfl) (by kernel_rfl) (by kernel_rfl) ?_
      have hHeld : (fun W' => W'.cell? ⟨g2, 0, none⟩ = some (.int .u64 (rk : Int)) ∧ W'.cell? ⟨g2, 1, none⟩ = some (.int .u32 (rc : Int)) ∧ W'.cell? ⟨g2, 2, none⟩ = some (.bool rd) ∧ W'.cell? ⟨g2, 3, none⟩ = some (.slice A4 n4 c4) ∧ W'.cell? ⟨w.heap.size, 0, none⟩ = some (.int .u64 (pk : Int)) ∧ W'.cell? ⟨w.heap.size, 1, none⟩ = some (.int .i64 (pa : Int)) ∧ W'.cell? ⟨w.heap.size, 2, none⟩ = some (.int .i64 (pn : Int)) ∧ W'.cell? ⟨w.heap.size, 3, none⟩ = some (.int .u32 (pc : Int)) ∧ W'.cell? ⟨w.heap.size, 4, none⟩ = some (.bool pd)) (W3.drewN 1) := ⟨B2.out.cell 0, B2.out.cell 1, B2.out.cell 2, B2.out.cell 3, B0.out.cell 0, B0.out.cell 1, B0.out.cell 2, B0.out.cell 3, B0.out.cell 4⟩
      have B0 := hide (B0.out.drewN 1)
      have B1 := hide (B1.out.drewN 1)
      have B2 := hide (B2.out.drewN 1)
      have O4 := hide (O4.out.drewN 1)
      have KW := hide (below_drewN KW.out 1)
      have HSZ : Hid (W0.heap.size = w.heap.size + 2 ∧ w.heap.size + 1 < (W3.drewN 1).heap.size) := HSZ
      change wpAnyH _ _ _ _ _ _ _ _ (W3.drewN 1)
      generalize W3.drewN 1 = U at *
      refine' wpAnyH_take (i := 0) (oi := ⟨_, _, _, _, _, _⟩) (v := _) rfl (by kernel_rfl) (by kernel_rfl) (by kernel_rfl) (fun _ _ _ h => h) (Or.inl ⟨rfl, ?_⟩) hHeld ?_
      rotate_left
      · (intro W' hW; (try dsimp only at hW); obtain ⟨z0, z1, z2, z3, z4, z5, z6, z7, z8⟩ := hW; go_simp; (try with_reducible rfl))
      try simp only [Act.put, List.setIfInBounds_toArray, List.set_cons_zero, List.set_cons_succ]
      refine' wpAnyH_take (i := 1) (oi := ⟨_, _, _, _, _, _⟩) (v := _) rfl (by kernel_rfl) (by kernel_rfl) (by kernel_rfl) (fun _ _ _ h => h) (Or.inl ⟨rfl, ?_⟩) hHeld ?_
      rotate_left
      · (intro W' hW; (try dsimp only at hW); obtain ⟨z0, z1, z2, z3, z4, z5, z6, z7, z8⟩ := hW; go_simp; (try with_reducible rfl))
      try simp only [Act.put, List.setIfInBounds_toArray, List.set_cons_zero, List.set_cons_succ]
      refine' wpAnyH_take (i := 2) (oi := ⟨_, _, _, _, _, _⟩) (v := _) rfl (by kernel_rfl) (by kernel_rfl) (by kernel_rfl) (fun _ _ _ h => h) (Or.inl ⟨rfl, ?_⟩) hHeld ?_
      rotate_left
      · (intro W' hW; (try dsimp only at hW); obtain ⟨z0, z1, z2, z3, z4, z5, z6, z7, z8⟩ := hW; go_simp; (try with_reducible rfl))
      try simp only [Act.put, List.setIfInBounds_toArray, List.set_cons_zero, List.set_cons_succ]
      refine' wpAnyH_take (i := 3) (oi := ⟨_, _, _, _, _, _⟩) (v := undef) rfl (by kernel_rfl) (by kernel_rfl) (by kernel_rfl) (fun _ _ _ h => h) (Or.inr ⟨rfl, rfl⟩) hHeld ?_
      try simp only [Act.put, List.setIfInBounds_toArray, List.set_cons_zero, List.set_cons_succ]
      refine' wpAnyH_take (i := 4) (oi := ⟨_, _, _, _, _, _⟩) (v := undef) rfl (by kernel_rfl) (by kernel_rfl) (by kernel_rfl) (fun _ _ _ h => h) (Or.inr ⟨rfl, rfl⟩) hHeld ?_
      try simp only [Act.put, List.setIfInBounds_toArray, List.set_cons_zero, List.set_cons_succ]
      refine' wpAnyH_take (i := 5) (oi := ⟨_, _, _, _, _, _⟩) (v := undef) rfl (by kernel_rfl) (by kernel_rfl) (by kernel_rfl) (fun _ _ _ h => h) (Or.inr ⟨rfl, rfl⟩) hHeld ?_
      try simp only [Act.put, List.setIfInBounds_toArray, List.set_cons_zero, List.set_cons_succ]
      refine' wpAnyH_take (i := 6) (oi := ⟨_, _, _, _, _, _⟩) (v := undef) rfl (by kernel_rfl) (by kernel_rfl) (by kernel_rfl) (fun _ _ _ h => h) (Or.inr ⟨rfl, rfl⟩) hHeld ?_
      try simp only [Act.put, List.setIfInBounds_toArray, List.set_cons_zero, List.set_cons_succ]
      refine' wpAnyH_take (i := 7) (oi := ⟨_, _, _, _, _, _⟩) (v := undef) rfl (by kernel_rfl) (by kernel_rfl) (by kernel_rfl) (fun _ _ _ h => h) (Or.inr ⟨rfl, rfl⟩) hHeld ?_
      try simp only [Act.put, List.setIfInBounds_toArray, List.set_cons_zero, List.set_cons_succ]
      refine' wpAnyH_take (i := 8) (oi := ⟨_, _, _, _, _, _⟩) (v := undef) rfl (by kernel_rfl) (by kernel_rfl) (by kernel_rfl) (fun _ _ _ h => h) (Or.inr ⟨rfl, rfl⟩) hHeld ?_
      try simp only [Act.put, List.setIfInBounds_toArray, List.set_cons_zero, List.set_cons_succ]
      refine' wpAnyH_take (i := 9) (oi := ⟨_, _, _, _, _, _⟩) (v := undef) rfl (by kernel_rfl) (by kernel_rfl) (by kernel_rfl) (fun _ _ _ h => h) (Or.inr ⟨rfl, rfl⟩) hHeld ?_
      try simp only [Act.put, List.setIfInBounds_toArray, List.set_cons_zero, List.set_cons_succ]
      refine' wpAnyH_take (i := 10) (oi := ⟨_, _, _, _, _, _⟩) (v := _) rfl (by kernel_rfl) (by kernel_rfl) (by kernel_rfl) (fun _ _ _ h => h) (Or.inl ⟨rfl, ?_⟩) hHeld ?_
      rotate_left
      · (intro W' hW; (try dsimp only at hW); obtain ⟨z0, z1, z2, z3, z4, z5, z6, z7, z8⟩ := hW; go_simp; (try with_reducible rfl))
      try simp only [Act.put, List.setIfInBounds_toArray, List.set_cons_zero, List.set_cons_succ]
      refine wpAnyH_done (by kernel_rfl) ?_ _
      clear hHeld
      have q0 := B1.out.cell 0
      have q1 := B1.out.cell 1
      have q2 := B1.out.cell 2
      have q3 := B1.out.cell 3
      dsimp only [List.getElem?_cons_succ, List.getElem?_cons_zero] at q0 q1 q2 q3
      have f0 := B1.out.frozen 0
      have f1 := B1.out.frozen 1
      have f2 := B1.out.frozen 2
      have f3 := B1.out.frozen 3
      go_wp2_with fail
      obtain ⟨bz, -, -, kz⟩ := put4_ (B1.out) (.int .u64 0) (.int .u32 0) (.bool false) (.slice none 0 0) _ rfl
      obtain ⟨y0, y1, y2, y3⟩ := nd_cells bz
      have kz2 : Below w.heap.size U _ := ((((Below.refl w.heap.size U).setCell (p := ⟨w.heap.size + 1, 0, none⟩) (Nat.le_succ _) (.int .u64 0)).setCell (p := ⟨w.heap.size + 1, 1, none⟩) (Nat.le_succ _) (.int .u32 0)).setCell (p := ⟨w.heap.size + 1, 2, none⟩) (Nat.le_succ _) (.bool false)).setCell (p := ⟨w.heap.size + 1, 3, none⟩) (Nat.le_succ _) (.slice none 0 0)
      obtain ⟨WZ, hWZ⟩ : ∃ W, W = (((U.setCell ⟨w.heap.size + 1, 0, none⟩ (.int .u64 0)).setCell ⟨w.heap.size + 1, 1, none⟩ (.int .u32 0)).setCell ⟨w.heap.size + 1, 2, none⟩ (.bool false)).setCell ⟨w.heap.size + 1, 3, none⟩ (.slice none 0 0) := ⟨_, rfl⟩
      rw [← hWZ] at y0 y1 y2 y3 kz2 ⊢
      rw [HR.out]
      refine bodyPost_ret (v := .tuple #[.agg #[.int .u64 0, .int .u32 0, .bool false, .slice none 0 0], .bool false]) (by simp [results, Try.results51, go_sem, y0, y1, y2, y3]) rfl ⟨KW.out.trans kz2, rfl⟩
    · subst hre
      refine heldT_top (fun W' => W'.cell? ⟨g2, 0, none⟩ = some (.int .u64 (rk : Int)) ∧ W'.cell? ⟨g2, 1, none⟩ = some (.int .u32 (rc : Int)) ∧ W'.cell? ⟨g2, 2, none⟩ = some (.bool rd) ∧ W'.cell? ⟨g2, 3, none⟩ = some (.slice A4 n4 c4) ∧ W'.cell? ⟨w.heap.size, 0, none⟩ = some (.int .u64 (pk : Int)) ∧ W'.cell? ⟨w.heap.size, 1, none⟩ = some (.int .i64 (pa : Int)) ∧ W'.cell? ⟨w.heap.size, 2, none⟩ = some (.int .i64 (pn : Int)) ∧ W'.cell? ⟨w.heap.size, 3, none⟩ = some (.int .u32 (pc : Int)) ∧ W'.cell? ⟨w.heap.size, 4, none⟩ = some (.bool pd)) 11 #[false, false, false, false, false, false, false, false, false, false, false] (by kernel_rfl) (by kernel_rfl) (by kernel_rfl) ?_
      have hHeld : (fun W' => W'.cell? ⟨g2, 0, none⟩ = some (.int .u64 (rk : Int)) ∧ W'.cell? ⟨g2, 1, none⟩ = some (.int .u32 (rc : Int)) ∧ W'.cell? ⟨g2, 2, none⟩ = some (.bool rd) ∧ W'.cell? ⟨g2, 3, none⟩ = some (.slice A4 n4 c4) ∧ W'.cell? ⟨w.heap.size, 0, none⟩ = some (.int .u64 (pk : Int)) ∧ W'.cell? ⟨w.heap.size, 1, none⟩ = some (.int .i64 (pa : Int)) ∧ W'.cell? ⟨w.heap.size, 2, none⟩ = some (.int .i64 (pn : Int)) ∧ W'.cell? ⟨w.heap.size, 3, none⟩ = some (.int .u32 (pc : Int)) ∧ W'.cell? ⟨w.heap.size, 4, none⟩ = some (.bool pd)) (W3.drewN 1) := ⟨B2.out.cell 0, B2.out.cell 1, B2.out.cell 2, B2.out.cell 3, B0.out.cell 0, B0.out.cell 1, B0.out.cell 2, B0.out.cell 3, B0.out.cell 4⟩
      have B0 := hide (B0.out.drewN 1)
      have B1 := hide (B1.out.drewN 1)
      have B2 := hide (B2.out.drewN 1)
      have O4 := hide (O4.out.drewN 1)
      have KW := hide (below_drewN KW.out 1)
      have HSZ : Hid (W0.heap.size = w.heap.size + 2 ∧ w.heap.size + 1 < (W3.drewN 1).heap.size) := HSZ
      change wpAnyH _ _ _ _ _ _ _ _ (W3.drewN 1)
      generalize W3.drewN 1 = U at *
      refine' wpAnyH_take (i := 0) (oi := ⟨_, _, _, _, _, _⟩) (v := _) rfl (by kernel_rfl) (by kernel_rfl) (by kernel_rfl) (fun _ _ _ h => h) (Or.inl ⟨rfl, ?_⟩) hHeld ?_
      rotate_left
      · (intro W' hW; (try dsimp only at hW); obtain ⟨z0, z1, z2, z3, z4, z5, z6, z7, z8⟩ := hW; go_simp; (try with_reducible rfl))
      try simp only [Act.put, List.setIfInBounds_toArray, List.set_cons_zero, List.set_cons_succ]
      refine' wpAnyH_take (i := 1) (oi := ⟨_, _, _, _, _, _⟩) (v := _) rfl (by kernel_rfl) (by kernel_rfl) (by kernel_rfl) (fun _ _ _ h => h) (Or.inl ⟨rfl, ?_⟩) hHeld ?_
      rotate_left
      · (intro W' hW; (try dsimp only at hW); obtain ⟨z0, z1, z2, z3, z4, z5, z6, z7, z8⟩ := hW; go_simp; (try with_reducible rfl))
      try simp only [Act.put, List.setIfInBounds_toArray, List.set_cons_zero, List.set_cons_succ]
      refine' wpAnyH_take (i := 2) (oi := ⟨_, _, _, _, _, _⟩) (v := _) rfl (by kernel_rfl) (by kernel_rfl) (by kernel_rfl) (fun _ _ _ h => h) (Or.inl ⟨rfl, ?_⟩) hHeld ?_
      rotate_left
      · (intro W' hW; (try dsimp only at hW); obtain ⟨z0, z1, z2, z3, z4, z5, z6, z7, z8⟩ := hW; go_simp; (try with_reducible rfl))
      try simp only [Act.put, List.setIfInBounds_toArray, List.set_cons_zero, List.set_cons_succ]
      refine' wpAnyH_take (i := 3) (oi := ⟨_, _, _, _, _, _⟩) (v := _) rfl (by kernel_rfl) (by kernel_rfl) (by kernel_rfl) (fun _ _ _ h => h) (Or.inl ⟨rfl, ?_⟩) hHeld ?_
      rotate_left
      · (intro W' hW; (try dsimp only at hW); obtain ⟨z0, z1, z2, z3, z4, z5, z6, z7, z8⟩ := hW; go_simp; (try with_reducible rfl))
      try simp only [Act.put, List.setIfInBounds_toArray, List.set_cons_zero, List.set_cons_succ]
      refine' wpAnyH_take (i := 4) (oi := ⟨_, _, _, _, _, _⟩) (v := _) rfl (by kernel_rfl) (by kernel_rfl) (by kernel_rfl) (fun _ _ _ h => h) (Or.inl ⟨rfl, ?_⟩) hHeld ?_
      rotate_left
      · (intro W' hW; (try dsimp only at hW); obtain ⟨z0, z1, z2, z3, z4, z5, z6, z7, z8⟩ := hW; go_simp; (try with_reducible rfl))
      try simp only [Act.put, List.setIfInBounds_toArray, List.set_cons_zero, List.set_cons_succ]
      refine' wpAnyH_take (i := 5) (oi := ⟨_, _, _, _, _, _⟩) (v := _) rfl (by kernel_rfl) (by kernel_rfl) (by kernel_rfl) (fun _ _ _ h => h) (Or.inl ⟨rfl, ?_⟩) hHeld ?_
      rotate_left
      · (intro W' hW; (try dsimp only at hW); obtain ⟨z0, z1, z2, z3, z4, z5, z6, z7, z8⟩ := hW; go_simp; (try with_reducible rfl))
      try simp only [Act.put, List.setIfInBounds_toArray, List.set_cons_zero, List.set_cons_succ]
      refine' wpAnyH_take (i := 6) (oi := ⟨_, _, _, _, _, _⟩) (v := _) rfl (by kernel_rfl) (by kernel_rfl) (by kernel_rfl) (fun _ _ _ h => h) (Or.inl ⟨rfl, ?_⟩) hHeld ?_
      rotate_left
      · (intro W' hW; (try dsimp only at hW); obtain ⟨z0, z1, z2, z3, z4, z5, z6, z7, z8⟩ := hW; go_simp; (try with_reducible rfl))
      try simp only [Act.put, List.setIfInBounds_toArray, List.set_cons_zero, List.set_cons_succ]
      refine' wpAnyH_take (i := 8) (oi := ⟨_, _, _, _, _, _⟩) (v := _) rfl (by kernel_rfl) (by kernel_rfl) (by kernel_rfl) (fun _ _ _ h => h) (Or.inl ⟨rfl, ?_⟩) hHeld ?_
      rotate_left
      · (intro W' hW; (try dsimp only at hW); obtain ⟨z0, z1, z2, z3, z4, z5, z6, z7, z8⟩ := hW; go_simp; (try with_reducible rfl))
      try simp only [Act.put, List.setIfInBounds_toArray, List.set_cons_zero, List.set_cons_succ]
      clear hHeld
      refine heldT_one (i := 7) (by kernel_rfl) rfl (fun K' hK => ?_)
      go_simp
      go_at_call 44
      refine (placeOf_any rk rc pa rs rd A4 n4 c4 U).mono ?_
      rintro e u1 ⟨rfl, k⟩
      have B0 := hide (B0.out.keep k)
      have B1 := hide (B1.out.keep k)
      have B2 := hide (B2.out.keep k)
      have O4 := hide (O4.out.keep k)
      have KW := hide (KW.out.trans (k.mono KW.out.size))
      clear k
      have hHeld : (fun W' => W'.cell? ⟨g2, 0, none⟩ = some (.int .u64 (rk : Int)) ∧ W'.cell? ⟨g2, 1, none⟩ = some (.int .u32 (rc : Int)) ∧ W'.cell? ⟨g2, 2, none⟩ = some (.bool rd) ∧ W'.cell? ⟨g2, 3, none⟩ = some (.slice A4 n4 c4) ∧ W'.cell? ⟨w.heap.size, 0, none⟩ = some (.int .u64 (pk : Int)) ∧ W'.cell? ⟨w.heap.size, 1, none⟩ = some (.int .i64 (pa : Int)) ∧ W'.cell? ⟨w.heap.size, 2, none⟩ = some (.int .i64 (pn : Int)) ∧ W'.cell? ⟨w.heap.size, 3, none⟩ = some (.int .u32 (pc : Int)) ∧ W'.cell? ⟨w.heap.size, 4, none⟩ = some (.bool pd)) u1 := ⟨B2.out.cell 0, B2.out.cell 1, B2.out.cell 2, B2.out.cell 3, B0.out.cell 0, B0.out.cell 1, B0.out.cell 2, B0.out.cell 3, B0.out.cell 4⟩
      refine hK.out _ _ hHeld ?_
      clear hK
      try simp only [List.setIfInBounds_toArray, List.set_cons_zero, List.set_cons_succ]
      have hnq : ∀ W', (binOp .neq 83 (plV ⟨rk, pa, rs, rc, rd⟩) (.agg #[.int .u64 (pk : Int), .int .i64 (pa : Int), .int .i64 (pn : Int), .int .u32 (pc : Int), .bool pd])).run Try.prog W' = .ok (.bool (decide ((⟨rk, pa, rs, rc, rd⟩ : Pl) ≠ ⟨pk, pa, pn, pc, pd⟩))) W' := fun W' => neq_pl ⟨rk, pa, rs, rc, rd⟩ ⟨pk, pa, pn, pc, pd⟩ W'
      have hgd := Try.guard_pl
      obtain ⟨nb, hnb⟩ : ∃ nb, nb = decide ((⟨rk, pa, rs, rc, rd⟩ : Pl) ≠ ⟨pk, pa, pn, pc, pd⟩) := ⟨_, rfl⟩
      rw [← hnb] at hnq
      have HNB := hide hnb
      clear hnb
      unfold plV at hnq ⊢
      dsimp only at hnq ⊢
      refine' wpAnyH_take (i := 9) (oi := ⟨_, _, _, _, _, _⟩) (v := _) rfl (by kernel_rfl) (by kernel_rfl) (by kernel_rfl) (fun _ _ _ h => h) (Or.inl ⟨rfl, ?_⟩) hHeld ?_
      rotate_left
      · (intro W' hW; (try dsimp only at hW); obtain ⟨z0, z1, z2, z3, z4, z5, z6, z7, z8⟩ := hW; go_simp; (try with_reducible rfl))
      try simp only [Act.put, List.setIfInBounds_toArray, List.set_cons_zero, List.set_cons_succ]
      refine' wpAnyH_take (i := 10) (oi := ⟨_, _, _, _, _, _⟩) (v := _) rfl (by kernel_rfl) (by kernel_rfl) (by kernel_rfl) (fun _ _ _ h => h) (Or.inl ⟨rfl, ?_⟩) hHeld ?_
      rotate_left
      · (intro W' hW; (try dsimp only at hW); obtain ⟨z0, z1, z2, z3, z4, z5, z6, z7, z8⟩ := hW; go_simp; (try with_reducible rfl))
      try simp only [Act.put, List.setIfInBounds_toArray, List.set_cons_zero, List.set_cons_succ]
      refine wpAnyH_done (by kernel_rfl) ?_ _
      clear hHeld hnq hgd
      cases nb with
      | true =>
        have HR : Hid (findL b ⟨pk, pa, pn, pc, pd⟩ = none) := hide (by rw [HF.out]; exact if_pos (.inr (of_decide_eq_true HNB.out.symm)))
        have q0 := B1.out.cell 0
        have q1 := B1.out.cell 1
        have q2 := B1.out.cell 2
        have q3 := B1.out.cell 3
        dsimp only [List.getElem?_cons_succ, List.getElem?_cons_zero] at q0 q1 q2 q3
        have f0 := B1.out.frozen 0
        have f1 := B1.out.frozen 1
        have f2 := B1.out.frozen 2
        have f3 := B1.out.frozen 3
        go_wp2_with fail
        obtain ⟨bz, -, -, kz⟩ := put4_ (B1.out) (.int .u64 0) (.int .u32 0) (.bool false) (.slice none 0 0) _ rfl
        obtain ⟨y0, y1, y2, y3⟩ := nd_cells bz
        have kz2 : Below w.heap.size u1 _ := ((((Below.refl w.heap.size u1).setCell (p := ⟨w.heap.size + 1, 0, none⟩) (Nat.le_succ _) (.int .u64 0)).setCell (p := ⟨w.heap.size + 1, 1, none⟩) (Nat.le_succ _) (.int .u32 0)).setCell (p := ⟨w.heap.size + 1, 2, none⟩) (Nat.le_succ _) (.bool false)).setCell (p := ⟨w.heap.size + 1, 3, none⟩) (Nat.le_succ _) (.slice none 0 0)
        obtain ⟨WZ, hWZ⟩ : ∃ W, W = (((u1.setCell ⟨w.heap.size + 1, 0, none⟩ (.int .u64 0)).setCell ⟨w.heap.size + 1, 1, none⟩ (.int .u32 0)).setCell ⟨w.heap.size + 1, 2, none⟩ (.bool false)).setCell ⟨w.heap.size + 1, 3, none⟩ (.slice none 0 0) := ⟨_, rfl⟩
        rw [← hWZ] at y0 y1 y2 y3 kz2 ⊢
        rw [HR.out]
        refine bodyPost_ret (v := .tuple #[.agg #[.int .u64 0, .int .u32 0, .bool false, .slice none 0 0], .bool false]) (by simp [results, Try.results51, go_sem, y0, y1, y2, y3]) rfl ⟨KW.out.trans kz2, rfl⟩
      | false =>
        have HR : Hid (findL b ⟨pk, pa, pn, pc, pd⟩ = some rx) := hide (by rw [HF.out]; exact if_neg (fun h => h.elim (fun h => h rfl) (fun h => of_decide_eq_false HNB.out.symm h)))
        have hpe : (⟨rk, pa, rs, rc, rd⟩ : Pl) = ⟨pk, pa, pn, pc, pd⟩ := Decidable.of_not_not (of_decide_eq_false HNB.out.symm)
        have e1 : rk = pk := congrArg Pl.key hpe
        have e2 : rc = pc := congrArg Pl.cook hpe
        have e3 : rd = pd := congrArg Pl.dead hpe
        have HPE := hide (And.intro e1 (And.intro e2 e3))
        clear hpe e1 e2 e3
        have x0 := B2.out.cell 0
        have x1 := B2.out.cell 1
        have x2 := B2.out.cell 2
        have x3 := B2.out.cell 3
        dsimp only [Array.toList, List.getElem?_cons_succ, List.getElem?_cons_zero] at x0 x1 x2 x3
        have q0 := B1.out.cell 0
        have q1 := B1.out.cell 1
        have q2 := B1.out.cell 2
        have q3 := B1.out.cell 3
        dsimp only [List.getElem?_cons_succ, List.getElem?_cons_zero] at q0 q1 q2 q3
        have f0 := B1.out.frozen 0
        have f1 := B1.out.frozen 1
        have f2 := B1.out.frozen 2
        have f3 := B1.out.frozen 3
        go_wp2_with fail
        have y := nd_cells (put4_ B1.out (.int .u64 (rk : Int)) (.int .u32 (rc : Int)) (.bool rd) (.slice A4 n4 c4) _ rfl).1
        have kz2 := ((((Below.refl w.heap.size u1).setCell (p := ⟨w.heap.size + 1, 0, none⟩) (Nat.le_succ _) (.int .u64 (rk : Int))).setCell (p := ⟨w.heap.size + 1, 1, none⟩) (Nat.le_succ _) (.int .u32 (rc : Int))).setCell (p := ⟨w.heap.size + 1, 2, none⟩) (Nat.le_succ _) (.bool rd)).setCell (p := ⟨w.heap.size + 1, 3, none⟩) (Nat.le_succ _) (.slice A4 n4 c4)
        have tz : Turn (fun k => k = w.heap.size + 1) u1 ((((u1.setCell ⟨w.heap.size + 1, 0, none⟩ (.int .u64 (rk : Int))).setCell ⟨w.heap.size + 1, 1, none⟩ (.int .u32 (rc : Int))).setCell ⟨w.heap.size + 1, 2, none⟩ (.bool rd)).setCell ⟨w.heap.size + 1, 3, none⟩ (.slice A4 n4 c4)) := by
          have o : ∀ (W : World) (i : Nat) (v : Value), Turn (fun k => k = w.heap.size + 1) W (W.setCell ⟨w.heap.size + 1, i, none⟩ v) := fun W i v => (Turn.of_grown (grown_set W (w.heap.size + 1) i v)).mono (S' := fun k => k = w.heap.size + 1) (fun i e => Option.some.inj e)
          exact (((o _ _ _).trans (o _ _ _)).trans (o _ _ _)).trans (o _ _ _)
        have OZ := (O4.out.turn tz (fun g hg e => by have h1 := (O4.out.lt g hg).1; have h2 := HSZ.out.1; have h3 : g = w.heap.size + 1 := e; omega)).more (B' := w.heap.size) (by have h2 := HSZ.out.1; omega)
        obtain ⟨WZ, hWZ⟩ : ∃ W, W = (((u1.setCell ⟨w.heap.size + 1, 0, none⟩ (.int .u64 (rk : Int))).setCell ⟨w.heap.size + 1, 1, none⟩ (.int .u32 (rc : Int))).setCell ⟨w.heap.size + 1, 2, none⟩ (.bool rd)).setCell ⟨w.heap.size + 1, 3, none⟩ (.slice A4 n4 c4) := ⟨_, rfl⟩
        rw [← hWZ] at y kz2 OZ ⊢
        obtain ⟨y0, y1, y2, y3⟩ := y
        rw [HR.out]
        refine bodyPost_ret (v := .tuple #[.agg #[.int .u64 (rk : Int), .int .u32 (rc : Int), .bool rd, .slice A4 n4 c4], .bool true]) (by simp [results, Try.results51, go_sem, y0, y1, y2, y3]) rfl ⟨KW.out.trans kz2, _, ?_, OZ⟩
        show Ending.returned _ = _
        rw [HPE.out.1, HPE.out.2.1, HPE.out.2.2]
theorem vfind_any (A : Option Addr) (n c : Nat) (b : List Nat) (p : Pl) (w : World) (hA : IsB w (.slice A n c) b) (hb : ∀ x ∈ b, x < 256) (hlim : n ≤ 549755813888) (hp : PlFit p) :
    Calls Try.prog 51 #[.slice A n c, plV p] w fun e w' => FindAns w p (findL b p) e w' := by
  by_cases hn : n < p.at_
  · have e : findL b p = none := by unfold findL; rw [if_pos (by rw [(isB_len hA).1]; exact hn)]
    rw [e]
    exact find_far A n c p w hn hp.at_
  · by_cases hcp : c = p.at_
    · subst hcp
      exact find_nearE A n b p w hA hb hlim (by omega) hp
    · exact find_nearN A n c b p w hA hb hlim (by omega) hp hcp
end Go.Proofs.Ytehgjkckhjggbaa
