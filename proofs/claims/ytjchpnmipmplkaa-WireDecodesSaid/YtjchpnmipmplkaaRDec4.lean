/- The contract of the document's own Decode of messages, where its first four numbers are in their bounds. Condition: rows below 2 to the 39. -/
import Derived.Test.YtjchpnmipmplkaaRDec3
namespace Go.Proofs.Ytjchpnmipmplkaa
open Go.RowKit
/-- Numbers of both signs that the call gathers in a slice of its own. -/
def OwnJ (w : World) (B : Nat) (v : Value) (zs : List Int) : Prop := w.ownsRow B 3 1 v zs.length (zs.map fun z => Value.int .i64 z)
theorem OwnJ.nil (w : World) (B : Nat) : OwnJ w B (.slice none 0 0) [] := World.ownsRow_nil _ _ _ _
theorem OwnJ.keep {w w' : World} {B : Nat} {v : Value} {zs : List Int} (h : OwnJ w B v zs) (hb : Below w.heap.size w w') : OwnJ w' B v zs := by
  unfold OwnJ at h ⊢
  refine ⟨h.1, ?_⟩
  rcases h.2 with hn | ⟨g, cap, cur, hv, h1, h2, r⟩
  · exact .inl hn
  · refine .inr ⟨g, cap, cur, hv, h1, ?_, r⟩
    rw [hb.block g ?_]
    · exact h2
    · exact (h.lt g (by rw [hv]; rfl)).2
theorem OwnJ.isI {w : World} {B : Nat} {v : Value} {zs : List Int} (h : OwnJ w B v zs) : IsI w v zs := by
  unfold OwnJ at h
  rcases h.2 with ⟨rfl, hn⟩ | ⟨g, cap, cur, rfl, _, _, c1, c2, _⟩
  · have : zs = [] := List.eq_nil_of_length_eq_zero hn
    subst this
    exact isI_nil w
  · refine ⟨_, _, rfl, fun _ => ⟨g, 0, rfl, fun i hi => ?_⟩, c1, by unfold maxLen at c2; omega⟩
    rw [Nat.zero_add, h.cellAt i (by omega)]
    simp [hi]
theorem OwnJ.set {w : World} {B g i : Nat} {v u : Value} {zs : List Int} (h : OwnJ w B v zs) (hg : g < B) : OwnJ (w.setCell ⟨g, i, none⟩ u) B v zs := ownsRow_setCell_below h hg u
theorem step_append_j {w : World} {ops : Array Oper} {o : Oper} {a : Act} {K : Act → World → Prop} {Q : Exit → Act → World → Prop} {E : Prop} (hgd : o.guard = none) (s x : Operand)
    (ho : o.op = .call { callee := .builtin .append, args := #[s, x], argTypes := #[22, 22] })
    (B : Nat) (v : Value) (zs : List Int) (hs : a.eval s = v) (hown : OwnJ w B v zs)
    (b : Nat) (z : Int) (hx : a.eval x = .slice (some ⟨b, 0, none⟩) 1 1) (hu : w.cell? ⟨b, 0, none⟩ = some (.int .i64 z))
    (hlen : zs.length + 1 ≤ 1099511627776) (hbase : B ≤ w.heap.size)
    (h : ∀ v' w', OwnJ w' B v' (zs ++ [z]) → Below B w w' → K (a.put o.dst v') w') : if Region.wanted o (yielded ops a.tmps) = true then Oper.wp Try.prog o a w K Q else E := by
  have hw : Region.wanted o (yielded ops a.tmps) = true := by simp [Region.wanted, hgd]
  rw [if_pos hw]
  obtain ⟨i0, hi, hz0, hz1, hz2⟩ := info_parts Try.info_int
  refine wp_append_own w s x _ ho B 3 i0 (.int .i64 0) 1 8 Try.underlying22 hi hz0 hz1 hz2 rfl (by decide) v _ _ hs hown ⟨b, 0, none⟩ 1 1 [.int .i64 z] hx rfl ?_ ?_ (by unfold maxLen; omega) (by omega) hbase ?_
  · intro j y hj
    match j, hj with
    | 0, hj => simp at hj; subst hj; simpa [Addr.add] using hu
  · intro y hy; simp at hy; subst hy; rfl
  · intro v' w' h2 h3 _
    exact h v' w' (by unfold OwnJ; simpa using h2) ((Below.refl _ _).grown h3 hbase fun k hk => (hown.lt k hk).1)
/-- Bytes and a block in which no byte lies are apart. -/
theorem isB_apart {w w' : World} {v : Value} {xs : List Nat} {B g : Nat} {e : TypeId} {cs : List Value} (h : IsB w v xs) (hb : Blk w B e g cs) (hcs : ∀ u ∈ cs, ∀ n, u ≠ .int .u8 n) (hg : w.grownBy w' (some g)) : IsB w' v xs := by
  obtain ⟨A, c, e, r, hn⟩ := h
  refine ⟨A, c, e, fun hne => ?_, hn⟩
  obtain ⟨b, off, e, hc⟩ := r hne
  refine ⟨b, off, e, fun i hi => ?_⟩
  refine hg.cell (hc i hi) ?_
  intro e2
  have e2 : b = g := by simpa using e2
  subst e2
  have := hc i hi
  rw [hb.cell] at this
  exact hcs _ (List.mem_of_getElem? this) _ rfl
theorem OwnJ.setMsg {w : World} {B g : Nat} {v : Value} {zs : List Int} (h : OwnJ w B v zs) (hg : g < B) (f t k : Int) (N D : Value) : OwnJ (setMsg w g f t k N D) B v zs :=
  ((((h.set (i := 0) hg).set (i := 1) hg).set (i := 2) hg).set (i := 3) hg).set (i := 4) hg
theorem Blk.below {w w' : World} {B N : Nat} {e : TypeId} {g : Nat} {cs : List Value} (h : Blk w B e g cs) (hb : Below N w w') (hg : g < N) : Blk w' B e g cs := by
  obtain ⟨hB, cur, hh, rfl⟩ := h
  exact ⟨hB, cur, by rw [hb.block g hg]; exact hh, rfl⟩
theorem grown_below {a b c : World} {row : Option Nat} (h : a.grownBy b row) (k : Below a.heap.size b c) : a.grownBy c row :=
  ⟨k.os.trans h.os, k.tape.trans h.tape, k.output.trans h.output, Nat.le_trans h.size k.size, fun i hi hne => (k.block i hi).trans (h.block i hi hne)⟩
set_option maxHeartbeats 3200000 in
theorem rdec3_bad3 (A : Option Addr) (n c : Nat) (b : List Nat) (w : World) (hA : IsB w (.slice A n c) b) (hn : b.length = n) (hb : ∀ x ∈ b, x < 256) (h3 : n ≤ 549755813888) (hc : n ≤ c) (lc : c ≤ 9223372036854775807) (p : List Nat) (dn : Nat) (hd : decL b = (p, dn, 0)) (x y z m : Nat) (r1 : List Nat) (h4 : numsL 4 p = some ([x, y, z, m], r1)) (hx : x ≤ 2147483647) (hy : y ≤ 2147483647) (hz : z ≤ 2147483647) (hm64 : m ≤ 64) (h5 : numsL m r1 = none) :
    Calls Try.prog 15 #[.slice A n c] w fun e w' => ∃ N D, e = .returned (.tuple #[.agg #[.int .i64 ((wdecL b).1.1 : Nat), .int .i64 ((wdecL b).1.2.1 : Nat), .int .i64 ((wdecL b).1.2.2.1 : Nat), N, D], .int .i64 ((wdecL b).2.1 : Nat), .int .i64 ((wdecL b).2.2 : Nat)]) ∧
      IsI w' N (wdecL b).1.2.2.2.1 ∧ IsB w' D (wdecL b).1.2.2.2.2 ∧ Below w.heap.size w w' := by
  have nb : Below w.heap.size w (w.alloc (.cells #[.int .i64 0, .int .i64 0, .int .i64 0, .slice none 0 0, .slice none 0 0] 25)) := (Below.refl _ _).alloc (Nat.le_refl _) _
  have b2 := Blk.new (B := w.heap.size) w 25 #[.int .i64 0, .int .i64 0, .int .i64 0, .slice none 0 0, .slice none 0 0] (Nat.le_refl _)
  obtain ⟨w1, hw1⟩ : ∃ w1, w1 = w.alloc (.cells #[.int .i64 0, .int .i64 0, .int .i64 0, .slice none 0 0, .slice none 0 0] 25) := ⟨_, rfl⟩
  rw [← hw1] at nb b2
  have hdec := rdecode_any A n c b w1 (hA.keep nb) hn hb h3 hc lc
  rw [hd] at hdec
  have HDEC := hide hdec
  have HW1 := hide hw1
  have NB := hide nb
  have B2 := hide b2
  obtain ⟨g2, hg2⟩ : ∃ g2, g2 = w.heap.size := ⟨_, rfl⟩
  rw [← hg2] at B2
  have HG2 := hide hg2
  have hinv := dec_inv hb hd
  have hbp := hinv.2.2.2.2
  have hpl1 := hinv.2.2.1
  have HBP := hide hbp
  obtain ⟨pl, hpl⟩ : ∃ pl, pl = p.length := ⟨_, rfl⟩
  rw [← hpl] at hpl1
  have HPL := hide hpl
  obtain ⟨_, _, _, hb1, hr1⟩ := numsL_inv 4 p _ _ hbp h4
  have HB1 := hide hb1
  obtain ⟨rl, hrl⟩ : ∃ rl, rl = r1.length := ⟨_, rfl⟩
  rw [← hrl, ← hpl] at hr1
  have HRL := hide hrl
  obtain ⟨mm, hm⟩ : ∃ mm, rmsg p = (mm, none) := ⟨(rmsg p).1, by rw [← ref_bad3 hbp h4 h5]⟩
  rw [wdecL_bad hd hm]
  have H4 := hide h4
  have H5 := hide h5
  clear hA hn hb hd nb b2 hw1 hdec hg2 hinv hbp hpl hm h4 hb1 hrl h5
  go_enter Try.func15, Try.ntmps15
  go_wp2_with fail
  rw [← HW1.out, ← HG2.out]
  refine HDEC.out.mono ?_
  rintro e w2 ⟨s2, rfl, o2, k2⟩
  obtain ⟨A2, c2, rfl, i2, _⟩ := o2.isB.form (n := pl) HPL.out.symm
  have BB := hide (B2.out.keep k2)
  have K2 := hide (below_step NB.out k2)
  have LG : Hid (g2 < w2.heap.size) := BB.out.lt
  have I2 := hide i2
  clear o2 k2 i2
  go_wp2_with fail
  refine (rnums_any A2 pl c2 4 p w2 w2 (Below.refl _ _) I2.out HPL.out.symm HBP.out (by decide) (by omega)).mono ?_
  rintro e w3 ⟨k3, hor⟩
  rcases hor with ⟨hu, _⟩ | ⟨us, r, L, R, hu, rfl, oU, iR⟩
  · rw [H4.out] at hu
    cases hu
  rw [H4.out] at hu
  simp only [Option.some.injEq, Prod.mk.injEq] at hu
  obtain ⟨rfl, rfl⟩ := hu
  obtain ⟨A4, c4, rfl, _, hc4⟩ := oU.form (n := 4) rfl
  obtain ⟨lb, rfl, l0⟩ := hc4 0 (by decide)
  obtain ⟨_, e1, l1⟩ := hc4 1 (by decide)
  cases e1
  obtain ⟨_, e1, l2⟩ := hc4 2 (by decide)
  cases e1
  obtain ⟨_, e1, l3⟩ := hc4 3 (by decide)
  cases e1
  have l0 : w3.cell? ⟨lb, 0, none⟩ = some (.int .u64 (x : Int)) := l0
  have l1 : w3.cell? ⟨lb, 1, none⟩ = some (.int .u64 (y : Int)) := l1
  have l2 : w3.cell? ⟨lb, 2, none⟩ = some (.int .u64 (z : Int)) := l2
  have l3 : w3.cell? ⟨lb, 3, none⟩ = some (.int .u64 (m : Int)) := l3
  have B3 := hide (BB.out.keep k3)
  have K3 := hide (below_step K2.out k3)
  have hlb : lb < w3.heap.size := cell_lt l0
  obtain ⟨AR, cR, rfl, iR3, _⟩ := (iR.keep k3).form (n := rl) HRL.out.symm
  have IR := hide iR3
  have G23 : Hid (g2 < w3.heap.size) := B3.out.lt
  have k5 : Below w3.heap.size w3 ((w3.alloc (.cells #[.int .i64 x, .int .i64 y, .int .i64 z, .slice none 0 0, .slice none 0 0] 25)).drew) := ((Below.refl _ _).alloc (Nat.le_refl _) _).drew
  have b11 := Blk.new (B := 0) w3 25 #[.int .i64 x, .int .i64 y, .int .i64 z, .slice none 0 0, .slice none 0 0] (Nat.zero_le _)
  have s5 : ((w3.alloc (.cells #[.int .i64 x, .int .i64 y, .int .i64 z, .slice none 0 0, .slice none 0 0] 25)).drew).heap.size = w3.heap.size + 1 := by simp
  obtain ⟨w5, hw5⟩ : ∃ w5, w5 = ((w3.alloc (.cells #[.int .i64 x, .int .i64 y, .int .i64 z, .slice none 0 0, .slice none 0 0] 25)).drew) := ⟨_, rfl⟩
  have b11' : Blk w5 0 25 w3.heap.size [.int .i64 x, .int .i64 y, .int .i64 z, .slice none 0 0, .slice none 0 0] := by rw [hw5]; exact b11
  rw [← hw5] at k5 s5
  obtain ⟨g11, hg11⟩ : ∃ g11, g11 = w3.heap.size := ⟨_, rfl⟩
  rw [← hg11] at b11' s5
  have HG := hide hg11
  have HW5 := hide hw5
  have K5 := hide k5
  have B11 := hide b11'
  have S5 := hide s5
  clear k3 hc4 oU iR iR3 k5 b11 b11' s5 hw5 hg11
  go_wp2_with fail
  go_region
  go_wp2_with fail
  rw [← HW5.out, ← HG.out]
  clear l0 l1 l2 l3 hlb
  refine (rnums_any AR rl cR m r1 w5 w3 K5.out IR.out HRL.out.symm HB1.out (by omega) (by omega)).mono ?_
  rintro e w6 ⟨k6, hor⟩
  rcases hor with ⟨_, rfl⟩ | ⟨us2, r2, L2, R2, hu, _⟩
  · skip
    have y0 : w6.cell? ⟨g2, 0, none⟩ = some (.int .i64 0) := ((B3.out.keep K5.out).keep k6).cell 0
    have y1 : w6.cell? ⟨g2, 1, none⟩ = some (.int .i64 0) := ((B3.out.keep K5.out).keep k6).cell 1
    have y2 : w6.cell? ⟨g2, 2, none⟩ = some (.int .i64 0) := ((B3.out.keep K5.out).keep k6).cell 2
    have y3 : w6.cell? ⟨g2, 3, none⟩ = some (.slice none 0 0) := ((B3.out.keep K5.out).keep k6).cell 3
    have y4 : w6.cell? ⟨g2, 4, none⟩ = some (.slice none 0 0) := ((B3.out.keep K5.out).keep k6).cell 4
    have z0 := ((B3.out.keep K5.out).keep k6).frozen 0
    have z1 := ((B3.out.keep K5.out).keep k6).frozen 1
    have z2 := ((B3.out.keep K5.out).keep k6).frozen 2
    have z3 := ((B3.out.keep K5.out).keep k6).frozen 3
    have z4 := ((B3.out.keep K5.out).keep k6).frozen 4
    have B6 := hide ((B3.out.keep K5.out).keep k6)
    have K6 := hide (below_step (below_step K3.out K5.out) k6)
    clear k6
    go_wp2_with fail
    obtain ⟨W8, hW8⟩ : ∃ W8, W8 = setMsg w6 g2 0 0 0 (.slice none 0 0) (.slice none 0 0) := ⟨_, rfl⟩
    have gr8 := setMsg_grown w6 g2 0 0 0 (.slice none 0 0) (.slice none 0 0)
    have b8 := setMsg_blk B6.out rfl 0 0 0 (.slice none 0 0) (.slice none 0 0)
    rw [← hW8] at gr8 b8
    unfold setMsg at hW8
    rw [← hW8]
    obtain ⟨q0, q1, q2, q3, q4⟩ := b8.msgAt
    refine bodyPost_ret (v := .tuple #[.agg #[.int .i64 0, .int .i64 0, .int .i64 0, .slice none 0 0, .slice none 0 0], .int .i64 0, .int .i64 3]) (by simp [results, Try.results15, go_sem, q0, q1, q2, q3, q4]) rfl ⟨_, _, rfl, isI_nil _, isB_none _, below_grown K6.out gr8 (Nat.le_refl _) (fun k e => by cases e; exact Nat.le_of_eq HG2.out.symm)⟩
  · rw [H5.out] at hu
    cases hu
set_option maxHeartbeats 3200000 in
theorem rdec3_good (A : Option Addr) (n c : Nat) (b : List Nat) (w : World) (hA : IsB w (.slice A n c) b) (hn : b.length = n) (hb : ∀ x ∈ b, x < 256) (h3 : n ≤ 549755813888) (hc : n ≤ c) (lc : c ≤ 9223372036854775807) (p : List Nat) (dn : Nat) (hd : decL b = (p, dn, 0)) (x y z m : Nat) (r1 : List Nat) (h4 : numsL 4 p = some ([x, y, z, m], r1)) (hx : x ≤ 2147483647) (hy : y ≤ 2147483647) (hz : z ≤ 2147483647) (hm64 : m ≤ 64) (us2 r2 : List Nat) (h5 : numsL m r1 = some (us2, r2)) :
    Calls Try.prog 15 #[.slice A n c] w fun e w' => ∃ N D, e = .returned (.tuple #[.agg #[.int .i64 ((wdecL b).1.1 : Nat), .int .i64 ((wdecL b).1.2.1 : Nat), .int .i64 ((wdecL b).1.2.2.1 : Nat), N, D], .int .i64 ((wdecL b).2.1 : Nat), .int .i64 ((wdecL b).2.2 : Nat)]) ∧
      IsI w' N (wdecL b).1.2.2.2.1 ∧ IsB w' D (wdecL b).1.2.2.2.2 ∧ Below w.heap.size w w' := by
  have nb : Below w.heap.size w (w.alloc (.cells #[.int .i64 0, .int .i64 0, .int .i64 0, .slice none 0 0, .slice none 0 0] 25)) := (Below.refl _ _).alloc (Nat.le_refl _) _
  have b2 := Blk.new (B := w.heap.size) w 25 #[.int .i64 0, .int .i64 0, .int .i64 0, .slice none 0 0, .slice none 0 0] (Nat.le_refl _)
  obtain ⟨w1, hw1⟩ : ∃ w1, w1 = w.alloc (.cells #[.int .i64 0, .int .i64 0, .int .i64 0, .slice none 0 0, .slice none 0 0] 25) := ⟨_, rfl⟩
  rw [← hw1] at nb b2
  have hdec := rdecode_any A n c b w1 (hA.keep nb) hn hb h3 hc lc
  rw [hd] at hdec
  have HDEC := hide hdec
  have HW1 := hide hw1
  have NB := hide nb
  have B2 := hide b2
  obtain ⟨g2, hg2⟩ : ∃ g2, g2 = w.heap.size := ⟨_, rfl⟩
  rw [← hg2] at B2
  have HG2 := hide hg2
  have hinv := dec_inv hb hd
  have hbp := hinv.2.2.2.2
  have hpl1 := hinv.2.2.1
  have HBP := hide hbp
  obtain ⟨pl, hpl⟩ : ∃ pl, pl = p.length := ⟨_, rfl⟩
  rw [← hpl] at hpl1
  have HPL := hide hpl
  obtain ⟨_, _, _, hb1, hr1⟩ := numsL_inv 4 p _ _ hbp h4
  have HB1 := hide hb1
  obtain ⟨rl, hrl⟩ : ∃ rl, rl = r1.length := ⟨_, rfl⟩
  rw [← hrl, ← hpl] at hr1
  have HRL := hide hrl
  obtain ⟨_, hul, hub2, hb2r, hr2⟩ := numsL_inv m r1 us2 r2 hb1 h5
  have HUL := hide hul
  have HUB := hide hub2
  have HB2 := hide hb2r
  obtain ⟨rl2, hrl2⟩ : ∃ rl2, rl2 = r2.length := ⟨_, rfl⟩
  rw [← hrl2, ← hrl] at hr2
  have HRL2 := hide hrl2
  obtain ⟨rf, rt, rk, rz, rd, rn, re, hres⟩ : ∃ rf rt rk rz rd rn re, wdecL b = ((rf, rt, rk, rz, rd), rn, re) := ⟨_, _, _, _, _, _, _, rfl⟩
  rw [hres]
  have HRES := hide hres
  have HD0 := hide hd
  have HR9 : Hid (rl2 ≤ 1048576) := by unfold Hid; omega
  have hm := trivial
  have H4 := hide h4
  have H5 := hide h5
  clear hA hn hb hd nb b2 hw1 hdec hg2 hinv hbp hpl hm h4 hb1 hrl h5 hul hub2 hb2r hrl2 hres
  go_enter Try.func15, Try.ntmps15
  go_wp2_with fail
  rw [← HW1.out, ← HG2.out]
  refine HDEC.out.mono ?_
  rintro e w2 ⟨s2, rfl, o2, k2⟩
  obtain ⟨A2, c2, rfl, i2, _⟩ := o2.isB.form (n := pl) HPL.out.symm
  have BB := hide (B2.out.keep k2)
  have K2 := hide (below_step NB.out k2)
  have LG : Hid (g2 < w2.heap.size) := BB.out.lt
  have I2 := hide i2
  clear o2 k2 i2
  go_wp2_with fail
  refine (rnums_any A2 pl c2 4 p w2 w2 (Below.refl _ _) I2.out HPL.out.symm HBP.out (by decide) (by omega)).mono ?_
  rintro e w3 ⟨k3, hor⟩
  rcases hor with ⟨hu, _⟩ | ⟨us, r, L, R, hu, rfl, oU, iR⟩
  · rw [H4.out] at hu
    cases hu
  rw [H4.out] at hu
  simp only [Option.some.injEq, Prod.mk.injEq] at hu
  obtain ⟨rfl, rfl⟩ := hu
  obtain ⟨A4, c4, rfl, _, hc4⟩ := oU.form (n := 4) rfl
  obtain ⟨lb, rfl, l0⟩ := hc4 0 (by decide)
  obtain ⟨_, e1, l1⟩ := hc4 1 (by decide)
  cases e1
  obtain ⟨_, e1, l2⟩ := hc4 2 (by decide)
  cases e1
  obtain ⟨_, e1, l3⟩ := hc4 3 (by decide)
  cases e1
  have l0 : w3.cell? ⟨lb, 0, none⟩ = some (.int .u64 (x : Int)) := l0
  have l1 : w3.cell? ⟨lb, 1, none⟩ = some (.int .u64 (y : Int)) := l1
  have l2 : w3.cell? ⟨lb, 2, none⟩ = some (.int .u64 (z : Int)) := l2
  have l3 : w3.cell? ⟨lb, 3, none⟩ = some (.int .u64 (m : Int)) := l3
  have B3 := hide (BB.out.keep k3)
  have K3 := hide (below_step K2.out k3)
  have hlb : lb < w3.heap.size := cell_lt l0
  obtain ⟨AR, cR, rfl, iR3, _⟩ := (iR.keep k3).form (n := rl) HRL.out.symm
  have IR := hide iR3
  have G23 : Hid (g2 < w3.heap.size) := B3.out.lt
  have k5 : Below w3.heap.size w3 ((w3.alloc (.cells #[.int .i64 x, .int .i64 y, .int .i64 z, .slice none 0 0, .slice none 0 0] 25)).drew) := ((Below.refl _ _).alloc (Nat.le_refl _) _).drew
  have b11 := Blk.new (B := 0) w3 25 #[.int .i64 x, .int .i64 y, .int .i64 z, .slice none 0 0, .slice none 0 0] (Nat.zero_le _)
  have s5 : ((w3.alloc (.cells #[.int .i64 x, .int .i64 y, .int .i64 z, .slice none 0 0, .slice none 0 0] 25)).drew).heap.size = w3.heap.size + 1 := by simp
  obtain ⟨w5, hw5⟩ : ∃ w5, w5 = ((w3.alloc (.cells #[.int .i64 x, .int .i64 y, .int .i64 z, .slice none 0 0, .slice none 0 0] 25)).drew) := ⟨_, rfl⟩
  have b11' : Blk w5 0 25 w3.heap.size [.int .i64 x, .int .i64 y, .int .i64 z, .slice none 0 0, .slice none 0 0] := by rw [hw5]; exact b11
  rw [← hw5] at k5 s5
  obtain ⟨g11, hg11⟩ : ∃ g11, g11 = w3.heap.size := ⟨_, rfl⟩
  rw [← hg11] at b11' s5
  have HG := hide hg11
  have HW5 := hide hw5
  have K5 := hide k5
  have B11 := hide b11'
  have S5 := hide s5
  clear k3 hc4 oU iR iR3 k5 b11 b11' s5 hw5 hg11
  go_wp2_with fail
  go_region
  go_wp2_with fail
  rw [← HW5.out, ← HG.out]
  clear l0 l1 l2 l3 hlb
  refine (rnums_any AR rl cR m r1 w5 w3 K5.out IR.out HRL.out.symm HB1.out (by omega) (by omega)).mono ?_
  rintro e w6 ⟨k6, hor⟩
  rcases hor with ⟨hu, _⟩ | ⟨us2', r2', L2, R2, hu, rfl, oU, iR2⟩
  · rw [H5.out] at hu
    cases hu
  rw [H5.out] at hu
  simp only [Option.some.injEq, Prod.mk.injEq] at hu
  obtain ⟨rfl, rfl⟩ := hu
  obtain ⟨A6, c6, rfl, _, hc6⟩ := oU.form (n := m) HUL.out
  obtain ⟨A7, c7, rfl, iR3, _⟩ := iR2.form (n := rl2) HRL2.out.symm
  have IR2 := hide iR3
  have HC6 := hide hc6
  have K6 := hide k6
  have LT : Hid (g11 < w5.heap.size) := by unfold Hid; rw [S5.out]; omega
  have OU := hide oU
  clear hc6 iR2 iR3 k6 oU
  go_wp2_with fail
  go_loopw [13] (fun i wr => ∃ (j : Nat) (NV : Value), j ≤ m ∧ i = .int .i64 (j : Int) ∧ Hid (w6.grownBy wr (some g11)) ∧ Hid (Blk wr 0 25 g11 [.int .i64 x, .int .i64 y, .int .i64 z, NV, .slice none 0 0]) ∧
      Hid (OwnJ wr w6.heap.size NV ((us2.take j).map fun u : Nat => zagS (u : Int)))) (fun i _ => m - (intOf i).toNat)
  case atStart => exact ⟨0, _, Nat.zero_le _, rfl, World.grownBy.refl _ _, B11.out.keep K6.out, OwnJ.nil _ _⟩
  case round =>
    obtain ⟨j, NV, hj, rfl, hgr, hbk, hoj⟩ := hrel
    by_cases hlt : j < m
    · obtain ⟨lb2, rfl, cj⟩ := HC6.out j hlt
      have hub : us2.getD j 0 < 18446744073709551616 := by
        have hj2 : j < us2.length := by rw [HUL.out]; exact hlt
        have e : us2.getD j 0 = us2[j] := by simp [hj2]
        rw [e]; exact HUB.out _ (List.getElem_mem hj2)
      have hst : (us2.take (j + 1)).map (fun u : Nat => zagS (u : Int)) = (us2.take j).map (fun u : Nat => zagS (u : Int)) ++ [zagS ((us2.getD j 0 : Nat) : Int)] := by
        have hj2 : j < us2.length := by rw [HUL.out]; exact hlt
        have e : us2.getD j 0 = us2[j] := by simp [hj2]
        rw [List.take_succ_eq_append_getElem hj2, List.map_append, e]
        rfl
      have hlj : ((us2.take j).map (fun u : Nat => zagS (u : Int))).length = j := by rw [List.length_map, List.length_take, HUL.out]; omega
      have hln : ((us2.take j).map (fun u : Nat => zagS (u : Int))).length ≤ 64 := by rw [List.length_map, List.length_take]; omega
      obtain ⟨u, hu⟩ : ∃ u, u = us2.getD j 0 := ⟨_, rfl⟩
      rw [← hu] at cj hub hst
      obtain ⟨zj, hzj⟩ : ∃ zj, zj = (us2.take j).map (fun u : Nat => zagS (u : Int)) := ⟨_, rfl⟩
      rw [← hzj] at hst hln hoj hlj
      have hlb6 : w5.heap.size ≤ lb2 := (OU.out.lt lb2 rfl).1
      have hneb : lb2 ≠ g11 := by have := LT.out; omega
      have cw : wr.cell? ⟨lb2, j, none⟩ = some (.int .u64 (u : Int)) := hgr.out.cell cj (fun e => hneb (by simpa using e))
      have hlw : lb2 < wr.heap.size := cell_lt cw
      have hl11 : g11 < wr.heap.size := hbk.out.lt
      have hl11b : g11 < w6.heap.size := Nat.lt_of_lt_of_le LT.out K6.out.size
      have c3 : wr.cell? ⟨g11, 3, none⟩ = some NV := hbk.out.cell 3
      have f3 := hbk.out.frozen 3
      obtain ⟨hz0, hz1⟩ := zag_wf u hub
      obtain ⟨q, hq⟩ : ∃ q, zagS (u : Int) = q := ⟨_, rfl⟩
      rw [hq] at hst hz0 hz1
      have HQ := hide hq
      have HST := hide hst
      have HLN := hide hln
      have HLJ : Hid ((zj ++ [q]).length = j + 1) := by unfold Hid; rw [List.length_append, hlj]; rfl
      have KA : Below wr.heap.size wr (wr.alloc (.cells #[.int .i64 q] 3)) := (Below.refl _ _).alloc (Nat.le_refl _) _
      have CA : Hid ((wr.alloc (.cells #[.int .i64 q] 3)).cell? ⟨wr.heap.size, 0, none⟩ = some (.int .i64 q)) := by unfold Hid; simp
      have HSB : Hid (w6.heap.size ≤ (wr.alloc (.cells #[.int .i64 q] 3)).heap.size) := Nat.le_trans hgr.out.size KA.size
      have JO := hide (fun W (h : Below wr.heap.size wr W) => hoj.out.keep h)
      have HKA := hide KA
      clear hu hzj hst hq cj hln KA hlj
      go_wp2_with fail
      go_region_law (first
        | (refine step_append_j rfl (.tmp 91) (.tmp 97) rfl w6.heap.size NV zj rfl (JO.out _ ⟨HKA.out.os, HKA.out.tape, HKA.out.output, HKA.out.size, HKA.out.block⟩) wr.heap.size q rfl (by exact CA.out) (by have := HLN.out; omega) (by exact HSB.out) ?_; intro v8 w8 o8 k8; obtain ⟨A8, c8, rfl, _⟩ := o8.isI.form (n := j + 1) (by exact HLJ.out); have k9 : Below w6.heap.size (wr.alloc (.cells #[.int .i64 q] 3)) w8 := (by exact ⟨k8.os, k8.tape, k8.output, k8.size, k8.block⟩); have b8 := (hbk.out.keep HKA.out).below k9 hl11b; have c38 : w8.cell? ⟨g11, 3, none⟩ = some NV := (by exact b8.cell 3); have f38 := b8.frozen 3; have G8 := hide (grown_below (grown_below hgr.out (HKA.out.mono hgr.out.size)) k9); have B8 := hide b8; have O8 := hide o8; clear k8 k9 b8 o8)
        | (go_simp; go_at_call 28; refine (rzag_any (u : Int) _ (by omega) (by omega)).mono ?_; rintro e w7 ⟨rfl, rfl⟩; rw [HQ.out]))
      all_goals
        have B9 := hide (B8.out.stored 3 (.slice A8 (j + 1) c8))
        have O9 := hide (O8.out.set (i := 3) (u := .slice A8 (j + 1) c8) hl11b)
        have G9 := hide (G8.out.trans (grown_set w8 g11 3 (.slice A8 (j + 1) c8)))
        rw [← HST.out] at O9
        clear B8 O8 G8 c38 f38
        go_wp2_with fail
        go_roundw
        case rel => exact ⟨j + 1, _, by omega, by go_num, G9, B9, O9⟩
        case measure => simp [intOf]; omega
    · have hjm : j = m := by omega
      subst hjm
      have htk : us2.take j = us2 := List.take_of_length_le (by rw [HUL.out]; exact Nat.le_refl _)
      rw [htk] at hoj
      have K3r := hide (below_grown (below_step K5.out K6.out) hgr.out (Nat.le_refl _) (fun k e => by cases e; exact Nat.le_of_eq HG.out.symm))
      have hne2 : g2 ≠ g11 := by have := G23.out; have := HG.out; omega
      have B2r := hide (((B3.out.keep K5.out).keep K6.out).kept hgr.out (fun e => hne2 (by simpa using e.symm)))
      clear htk hlt
      go_wp2_with fail
      refine (rnums_any A7 rl2 c7 1 r2 wr w3 K3r.out IR2.out HRL2.out.symm HB2.out (by decide) (by omega)).mono ?_
      rintro e w9 ⟨k9, hor⟩
      have KF := hide (below_step (below_step K3.out K3r.out) k9)
      have K39 := hide (below_step K3r.out k9)
      have BF := hide (B2r.out.keep k9)
      have BM := hide (hbk.out.keep k9)
      have OJ := hide (hoj.out.keep k9)
      clear k9
      have y0 : w9.cell? ⟨g2, 0, none⟩ = some (.int .i64 0) := (BF.out).cell 0
      have y1 : w9.cell? ⟨g2, 1, none⟩ = some (.int .i64 0) := (BF.out).cell 1
      have y2 : w9.cell? ⟨g2, 2, none⟩ = some (.int .i64 0) := (BF.out).cell 2
      have y3 : w9.cell? ⟨g2, 3, none⟩ = some (.slice none 0 0) := (BF.out).cell 3
      have y4 : w9.cell? ⟨g2, 4, none⟩ = some (.slice none 0 0) := (BF.out).cell 4
      have z0 := (BF.out).frozen 0
      have z1 := (BF.out).frozen 1
      have z2 := (BF.out).frozen 2
      have z3 := (BF.out).frozen 3
      have z4 := (BF.out).frozen 4
      rcases hor with ⟨hu1, rfl⟩ | ⟨us3, r3, L3, R3, hu1, rfl, oU3, iR3⟩
      · obtain ⟨mm, hm⟩ : ∃ mm, rmsg p = (mm, none) := ⟨(rmsg p).1, by rw [← ref_bad4 HBP.out H4.out H5.out hu1]⟩
        have hw := wdecL_bad HD0.out hm
        rw [HRES.out] at hw
        simp only [zeroM, Prod.mk.injEq] at hw
        obtain ⟨⟨rfl, rfl, rfl, rfl, rfl⟩, rfl, rfl⟩ := hw
        clear hm hu1 mm
        go_wp2_with fail
        obtain ⟨W8, hW8⟩ : ∃ W8, W8 = setMsg w9 g2 0 0 0 (.slice none 0 0) (.slice none 0 0) := ⟨_, rfl⟩
        have gr8 := setMsg_grown w9 g2 0 0 0 (.slice none 0 0) (.slice none 0 0)
        have b8 := setMsg_blk BF.out rfl 0 0 0 (.slice none 0 0) (.slice none 0 0)
        rw [← hW8] at gr8 b8
        unfold setMsg at hW8
        rw [← hW8]
        obtain ⟨q0, q1, q2, q3, q4⟩ := b8.msgAt
        refine bodyPost_ret (v := .tuple #[.agg #[.int .i64 0, .int .i64 0, .int .i64 0, .slice none 0 0, .slice none 0 0], .int .i64 0, .int .i64 3]) (by simp [results, Try.results15, go_sem, q0, q1, q2, q3, q4]) rfl ⟨_, _, rfl, isI_nil _, isB_none _, below_grown KF.out gr8 (Nat.le_refl _) (fun k e => by cases e; exact Nat.le_of_eq HG2.out.symm)⟩
      · obtain ⟨_, hl3, hub3, hb3r, hr3⟩ := numsL_inv 1 r2 us3 r3 HB2.out hu1
        obtain ⟨d, rfl⟩ : ∃ d, us3 = [d] := by
          match us3, hl3 with
          | [d], _ => exact ⟨d, rfl⟩
        have hd64 : d < 18446744073709551616 := hub3 d (by simp)
        obtain ⟨A9, c9, rfl, _, hc9⟩ := oU3.form (n := 1) rfl
        obtain ⟨ld, rfl, ld0⟩ := hc9 0 (by decide)
        have ld0 : w9.cell? ⟨ld, 0, none⟩ = some (.int .u64 (d : Int)) := ld0
        obtain ⟨rl3, hrl3⟩ : ∃ rl3, rl3 = r3.length := ⟨_, rfl⟩
        rw [← hrl3, ← HRL2.out] at hr3
        have h9 := HR9.out
        have hr39 : rl3 ≤ 549755813888 := by omega
        obtain ⟨A10, c10, rfl, i10, _⟩ := (iR3.keep K39.out).form (n := rl3) hrl3.symm
        have hok : ((d : Int) != (rl3 : Int)) = true ∧ Hid (rmsg p).2.isNone ∨ ((d : Int) != (rl3 : Int)) = false ∧ 1047552 < rl3 ∧ Hid (rmsg p).2.isNone ∨ ((d : Int) != (rl3 : Int)) = false ∧ rl3 ≤ 1047552 ∧ Hid (rmsg p = ((x, y, z, us2.map fun u : Nat => zagS (u : Int), r3), some [])) := by
          by_cases e : d = rl3
          · right
            by_cases e2 : rl3 ≤ 1047552
            · right
              exact ⟨by simp [e], e2, ref_ok HBP.out H4.out H5.out hu1 hx hy hz hm64 (by rw [e, hrl3]) (by rw [← hrl3]; exact e2)⟩
            · left
              refine ⟨by simp [e], by omega, ?_⟩
              unfold Hid
              rw [ref_bad5 HBP.out H4.out H5.out hu1 (by right; rw [← hrl3]; omega)]
              rfl
          · left
            refine ⟨by simp; omega, ?_⟩
            unfold Hid
            rw [ref_bad5 HBP.out H4.out H5.out hu1 (by left; rw [← hrl3]; exact e)]
            rfl
        have I10 := hide i10
        have HRL3 := hide hrl3
        clear hu1 hl3 hub3 hb3r hr3 hc9 oU3 iR3 i10 hrl3 h9
        rcases hok with ⟨hne, hnn⟩ | ⟨hne, hbig, hnn⟩ | ⟨hne, hsm, hmm⟩
        · obtain ⟨mm, hm⟩ : ∃ mm, rmsg p = (mm, none) := ⟨(rmsg p).1, by rw [← Option.isNone_iff_eq_none.1 hnn.out]⟩
          have hw := wdecL_bad HD0.out hm
          rw [HRES.out] at hw
          simp only [zeroM, Prod.mk.injEq] at hw
          obtain ⟨⟨rfl, rfl, rfl, rfl, rfl⟩, rfl, rfl⟩ := hw
          clear hm mm hnn
          go_wp2_with fail
          obtain ⟨W8, hW8⟩ : ∃ W8, W8 = setMsg w9 g2 0 0 0 (.slice none 0 0) (.slice none 0 0) := ⟨_, rfl⟩
          have gr8 := setMsg_grown w9 g2 0 0 0 (.slice none 0 0) (.slice none 0 0)
          have b8 := setMsg_blk BF.out rfl 0 0 0 (.slice none 0 0) (.slice none 0 0)
          rw [← hW8] at gr8 b8
          unfold setMsg at hW8
          rw [← hW8]
          obtain ⟨q0, q1, q2, q3, q4⟩ := b8.msgAt
          refine bodyPost_ret (v := .tuple #[.agg #[.int .i64 0, .int .i64 0, .int .i64 0, .slice none 0 0, .slice none 0 0], .int .i64 0, .int .i64 3]) (by simp [results, Try.results15, go_sem, q0, q1, q2, q3, q4]) rfl ⟨_, _, rfl, isI_nil _, isB_none _, below_grown KF.out gr8 (Nat.le_refl _) (fun k e => by cases e; exact Nat.le_of_eq HG2.out.symm)⟩
        · obtain ⟨mm, hm⟩ : ∃ mm, rmsg p = (mm, none) := ⟨(rmsg p).1, by rw [← Option.isNone_iff_eq_none.1 hnn.out]⟩
          have hw := wdecL_bad HD0.out hm
          rw [HRES.out] at hw
          simp only [zeroM, Prod.mk.injEq] at hw
          obtain ⟨⟨rfl, rfl, rfl, rfl, rfl⟩, rfl, rfl⟩ := hw
          clear hm mm hnn
          go_wp2_with fail
          obtain ⟨W8, hW8⟩ : ∃ W8, W8 = setMsg w9 g2 0 0 0 (.slice none 0 0) (.slice none 0 0) := ⟨_, rfl⟩
          have gr8 := setMsg_grown w9 g2 0 0 0 (.slice none 0 0) (.slice none 0 0)
          have b8 := setMsg_blk BF.out rfl 0 0 0 (.slice none 0 0) (.slice none 0 0)
          rw [← hW8] at gr8 b8
          unfold setMsg at hW8
          rw [← hW8]
          obtain ⟨q0, q1, q2, q3, q4⟩ := b8.msgAt
          refine bodyPost_ret (v := .tuple #[.agg #[.int .i64 0, .int .i64 0, .int .i64 0, .slice none 0 0, .slice none 0 0], .int .i64 0, .int .i64 3]) (by simp [results, Try.results15, go_sem, q0, q1, q2, q3, q4]) rfl ⟨_, _, rfl, isI_nil _, isB_none _, below_grown KF.out gr8 (Nat.le_refl _) (fun k e => by cases e; exact Nat.le_of_eq HG2.out.symm)⟩
        · have hw := wdecL_ok HD0.out hmm.out
          rw [HRES.out] at hw
          simp only [Prod.mk.injEq] at hw
          obtain ⟨⟨rfl, rfl, rfl, rfl, rfl⟩, rfl, rfl⟩ := hw
          obtain ⟨AN, cN, rfl, _⟩ := OJ.out.isI.form (n := j) (by rw [List.length_map]; exact HUL.out)
          have m0 : w9.cell? ⟨g11, 0, none⟩ = some (.int .i64 (rf : Int)) := BM.out.cell 0
          have m1 : w9.cell? ⟨g11, 1, none⟩ = some (.int .i64 (rt : Int)) := BM.out.cell 1
          have m2 : w9.cell? ⟨g11, 2, none⟩ = some (.int .i64 (rk : Int)) := BM.out.cell 2
          have m3 : w9.cell? ⟨g11, 3, none⟩ = some (.slice AN j cN) := BM.out.cell 3
          have m4 : w9.cell? ⟨g11, 4, none⟩ = some (.slice none 0 0) := BM.out.cell 4
          have n4 := BM.out.frozen 4
          have hne3 : ¬ g2 = g11 := hne2
          have hne4 : ¬ g11 = g2 := fun e => hne2 e.symm
          clear hmm
          go_wp2_with fail
          obtain ⟨W8, hW8⟩ : ∃ W8, W8 = setMsg (w9.setCell ⟨g11, 4, none⟩ (.slice A10 rl3 c10)) g2 rf rt rk (.slice AN j cN) (.slice A10 rl3 c10) := ⟨_, rfl⟩
          have gs := grown_set w9 g11 4 (.slice A10 rl3 c10)
          have bf := BF.out.kept gs (fun e => hne2 (by simpa using e.symm))
          have gr8 := setMsg_grown (w9.setCell ⟨g11, 4, none⟩ (.slice A10 rl3 c10)) g2 rf rt rk (.slice AN j cN) (.slice A10 rl3 c10)
          have b8 := setMsg_blk bf rfl rf rt rk (.slice AN j cN) (.slice A10 rl3 c10)
          have i8 := isB_apart (isB_apart I10.out BM.out (by intro u hu n e; subst e; simp at hu) gs) bf (by intro u hu n e; subst e; simp at hu) gr8
          have hg6 : g11 < w6.heap.size := Nat.lt_of_lt_of_le LT.out K6.out.size
          have j8 := (OJ.out.set (i := 4) (u := .slice A10 rl3 c10) hg6).setMsg (g := g2) (by have := G23.out; have := HG.out; omega) rf rt rk (.slice AN j cN) (.slice A10 rl3 c10)
          have k8 := below_grown (below_grown KF.out gs (Nat.le_refl _) (fun k e => by cases e; rw [HG.out]; exact Nat.le_of_lt (by have := G23.out; have := HG2.out; omega))) gr8 (Nat.le_refl _) (fun k e => by cases e; exact Nat.le_of_eq HG2.out.symm)
          rw [← hW8] at b8 i8 j8 k8
          unfold setMsg at hW8
          rw [← hW8]
          obtain ⟨q0, q1, q2, q3, q4⟩ := b8.msgAt
          refine bodyPost_ret (v := .tuple #[.agg #[.int .i64 rf, .int .i64 rt, .int .i64 rk, .slice AN j cN, .slice A10 rl3 c10], .int .i64 (rn : Int), .int .i64 0]) (by simp [results, Try.results15, go_sem, q0, q1, q2, q3, q4]) rfl ⟨_, _, rfl, j8.isI, i8, k8⟩
/-- The contract of the document's own Decode: any bytes begin with a message, or are refused for the first reason of all. -/
theorem rdec3_any (A : Option Addr) (n c : Nat) (b : List Nat) (w : World) (hA : IsB w (.slice A n c) b) (hn : b.length = n) (hb : ∀ x ∈ b, x < 256) (h3 : n ≤ 549755813888) (hc : n ≤ c) (lc : c ≤ 9223372036854775807) :
    Calls Try.prog 15 #[.slice A n c] w fun e w' => ∃ N D, e = .returned (.tuple #[.agg #[.int .i64 ((wdecL b).1.1 : Nat), .int .i64 ((wdecL b).1.2.1 : Nat), .int .i64 ((wdecL b).1.2.2.1 : Nat), N, D], .int .i64 ((wdecL b).2.1 : Nat), .int .i64 ((wdecL b).2.2 : Nat)]) ∧
      IsI w' N (wdecL b).1.2.2.2.1 ∧ IsB w' D (wdecL b).1.2.2.2.2 ∧ Below w.heap.size w w' := by
  rcases hd : decL b with ⟨p, dn, de⟩
  by_cases he : de = 0
  · subst he
    rcases h4 : numsL 4 p with _ | ⟨us, r1⟩
    · exact rdec3_bad1 A n c b w hA hn hb h3 hc lc p dn hd h4
    · have hl := (numsL_inv 4 p us r1 (dec_inv hb hd).2.2.2.2 h4).2.1
      match us, hl with
      | [x, y, z, m], _ =>
        by_cases hbad : 2147483647 < x ∨ x ≤ 2147483647 ∧ (2147483647 < y ∨ y ≤ 2147483647 ∧ (2147483647 < z ∨ z ≤ 2147483647 ∧ 64 < m))
        · exact rdec3_bad2 A n c b w hA hn hb h3 hc lc p dn hd x y z m r1 h4 hbad
        · rcases h5 : numsL m r1 with _ | ⟨us2, r2⟩
          · exact rdec3_bad3 A n c b w hA hn hb h3 hc lc p dn hd x y z m r1 h4 (by omega) (by omega) (by omega) (by omega) h5
          · exact rdec3_good A n c b w hA hn hb h3 hc lc p dn hd x y z m r1 h4 (by omega) (by omega) (by omega) (by omega) us2 r2 h5
  · exact rdec3_err A n c b w hA hn hb h3 hc lc p dn de hd he
end Go.Proofs.Ytjchpnmipmplkaa
