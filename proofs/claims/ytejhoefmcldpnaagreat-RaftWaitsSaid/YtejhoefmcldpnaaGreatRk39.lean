/- The contract of a node's stand in a group of three or five. Condition: the disk takes what is written. The contracts of raft's load, logOf and Open. Condition: the file of the term and the log are as a node wrote them. The contract of raft.Open. Condition: the file of the term and the log are as a node wrote them. What the law's own known() comes to, by lists. It names nothing of the program but the lists. The walk of the law's own known(): one that is alone leads. No condition. -/
import Derived.Test.YtejhoefmcldpnaaGreatRk38
import Derived.Test.YtejhoefmcldpnaaGreatRk4
import Derived.Test.YtejhoefmcldpnaaGreatRk36
import Derived.Test.YtejhoefmcldpnaaGreatRk25
import Derived.Test.YtejhoefmcldpnaaGreatRk24
namespace Go.Proofs.YtejhoefmcldpnaaGreat
open Go.RowKit Go.Maps
theorem RowK.more {w : World} {B B' : Nat} {v : Value} {k : Int} {m : Nat} (h : RowK w B v k m) (hb : B' ≤ B) : RowK w B' v k m := by
  obtain ⟨X, h1, h2, h3⟩ := h
  exact ⟨X, ownsRow_more h1 hb, h2, h3⟩
theorem wrap_pow (id : Nat) (h : id < 5) : IntKind.u64.wrap ((2 : Int) ^ id) = ((2 ^ id : Nat) : Int) := by
  have : ∀ i < 5, IntKind.u64.wrap ((2 : Int) ^ i) = ((2 ^ i : Nat) : Int) := by decide
  exact this id h
theorem ones_pow (id : Nat) (h : id < 5) : 2 ^ id < 32 ∧ ones5 (2 ^ id) = 1 := by
  have : ∀ i < 5, 2 ^ i < 32 ∧ ones5 (2 ^ i) = 1 := by decide
  exact this id h
set_option maxRecDepth 100000 in
set_option maxHeartbeats 3200000 in
theorem stand_many {w : World} {S : Nat → Prop} {r d l room : Nat} {N : Nd} {M : LogL} {L : DiskL} (h : NdS w S r d l room N M L) (draw : Int) (tm : Nat) (hn : 3 ≤ N.n) (h1 : 1 ≤ M.next) (h2 : M.next ≤ 1099511627776) (ht : TermE M ((M.next - 1 : Nat) : Int) tm) (ht9 : N.term + 1 < 9223372036854775807) (hd : (draftL room termK (numsL [N.term + 1, N.id + 1]) L).2 = 0) :
    Calls Tryz.prog 38 #[.pointer (some ⟨r, 0, none⟩), .int .i64 draw] w fun e w' => ∃ v, e = .returned v ∧ RowK w' w.heap.size v 1 (N.n - 1) ∧ ∃ S', NdS w' S' r d l room { N with wait := waitOf draw, term := N.term + 1, vote := (N.id : Int), role := 1, lead := -1, votes := 2 ^ N.id } M (termP (numsL [N.term + 1, N.id + 1]) L) ∧ Next S w S' w' := by
  have HW := hide (wait_anew h draw)
  obtain ⟨hidn, hn5, _⟩ := h.fit
  have hpw := ones_pow N.id (by omega)
  obtain ⟨t1, ht1⟩ : ∃ t, t = N.term + 1 := ⟨_, rfl⟩
  obtain ⟨id, hid⟩ : ∃ k, k = N.id := ⟨_, rfl⟩
  rw [← ht1] at ht9 hd ⊢
  rw [← hid] at hd hidn hpw ⊢
  have HT := hide (And.intro hd (And.intro h1 (And.intro h2 ht)))
  have HP := hide (And.intro hn (And.intro hid (And.intro hpw hn5)))
  have HT1 := hide ht1
  have hid5 : id < 5 := by omega
  obtain ⟨t0, ht0⟩ : ∃ t, t = N.term := ⟨_, rfl⟩
  have ht2 : (t0 : Int) + 1 = (t1 : Int) := by omega
  have htm : ((t0 : Int) == 9223372036854775807) = false := by simp; omega
  have htw : IntKind.i64.wrap ((t0 : Int) + 1) = (t1 : Int) := by rw [ht2, IntKind.wrap_i64]; omega
  have HT0 := hide ht0
  clear h hn h1 h2 ht ht1 hd ht2 ht0 hid hpw hidn hn5
  go_enter Tryz.func38, Tryz.ntmps38
  go_wp2_with fail
  refine HW.out.mono ?_
  rintro e w1 ⟨rfl, d1, n1⟩
  have D1 := hide d1
  have N1 := hide n1
  have q4 : w1.cell? ⟨r, 4, none⟩ = some (.int .i64 (N.term : Int)) := nds_cell d1 4
  have q0 : w1.cell? ⟨r, 0, none⟩ = some (.int .i64 (N.id : Int)) := nds_cell d1 0
  rw [← HT0.out] at q4
  rw [← HP.out.2.1] at q0
  clear d1 n1 HW
  go_wp2_with fail
  refine WaysT.start (fun W' : World => W'.cell? ⟨r, 4, none⟩ = some (.int .i64 (t0 : Int)) ∧ W'.cell? ⟨r, 0, none⟩ = some (.int .i64 (id : Int))) 16 19 #[false, false, false, false, false, false, false, false, false, false, false, false, false, false, false, false, false, false, false] (by kernel_rfl) (by kernel_rfl) (by kernel_rfl) ?_
  have hHeld : (fun W' : World => W'.cell? ⟨r, 4, none⟩ = some (.int .i64 (t0 : Int)) ∧ W'.cell? ⟨r, 0, none⟩ = some (.int .i64 (id : Int))) (w1.drewN 1) := ⟨q4, q0⟩
  have D1 := hide (D1.out.below (below_drewN (Below.refl _ _) 1))
  have N1 := hide (N1.out.trans (Next.of_below S (below_drewN (Below.refl w1.heap.size w1) 1)))
  clear q4 q0
  change WaysT _ _ _ _ _ _ _ _ _ (w1.drewN 1)
  generalize w1.drewN 1 = U at *
  refine' tkT 0 (v := _) rfl hHeld rfl ?_ ?_
  rotate_left
  · (intro W' hW; (try dsimp only at hW); obtain ⟨z2, z3⟩ := hW; go_simp; (try with_reducible rfl))
  try simp only [Act.put, List.setIfInBounds_toArray, List.set_cons_zero, List.set_cons_succ]
  refine' tkT 1 (v := _) rfl hHeld rfl ?_ ?_
  rotate_left
  · (intro W' hW; (try dsimp only at hW); obtain ⟨z2, z3⟩ := hW; go_simp; (try with_reducible rfl))
  try simp only [Act.put, List.setIfInBounds_toArray, List.set_cons_zero, List.set_cons_succ]
  refine' tkT 2 (v := _) rfl hHeld rfl ?_ ?_
  rotate_left
  · (intro W' hW; (try dsimp only at hW); obtain ⟨z2, z3⟩ := hW; go_simp; (try with_reducible rfl))
  try simp only [Act.put, List.setIfInBounds_toArray, List.set_cons_zero, List.set_cons_succ]
  refine' tkT 3 (v := _) rfl hHeld rfl ?_ ?_
  rotate_left
  · (intro W' hW; (try dsimp only at hW); obtain ⟨z2, z3⟩ := hW; go_simp; (try with_reducible rfl))
  try simp only [Act.put, List.setIfInBounds_toArray, List.set_cons_zero, List.set_cons_succ]
  refine' tkT 4 (v := _) rfl hHeld rfl ?_ ?_
  rotate_left
  · (intro W' hW; (try dsimp only at hW); obtain ⟨z2, z3⟩ := hW; go_simp; (try with_reducible rfl))
  try simp only [Act.put, List.setIfInBounds_toArray, List.set_cons_zero, List.set_cons_succ]
  refine' tkT 5 (v := _) rfl hHeld rfl ?_ ?_
  rotate_left
  · (intro W' hW; (try dsimp only at hW); obtain ⟨z2, z3⟩ := hW; go_simp; (try with_reducible rfl))
  try simp only [Act.put, List.setIfInBounds_toArray, List.set_cons_zero, List.set_cons_succ]
  refine' tkT 6 (v := _) rfl hHeld rfl ?_ ?_
  rotate_left
  · (intro W' hW; (try dsimp only at hW); obtain ⟨z2, z3⟩ := hW; go_simp; (try with_reducible rfl))
  try simp only [Act.put, List.setIfInBounds_toArray, List.set_cons_zero, List.set_cons_succ]
  refine' tkT 7 (v := _) rfl hHeld rfl ?_ ?_
  rotate_left
  · (intro W' hW; (try dsimp only at hW); obtain ⟨z2, z3⟩ := hW; go_simp; (try with_reducible rfl))
  try simp only [Act.put, List.setIfInBounds_toArray, List.set_cons_zero, List.set_cons_succ]
  refine' tkT 8 (v := _) rfl hHeld rfl ?_ ?_
  rotate_left
  · (intro W' hW; (try dsimp only at hW); obtain ⟨z2, z3⟩ := hW; go_simp; (try with_reducible rfl))
  try simp only [Act.put, List.setIfInBounds_toArray, List.set_cons_zero, List.set_cons_succ]
  refine' tkT 9 (v := _) rfl hHeld rfl ?_ ?_
  rotate_left
  · (intro W' hW; (try dsimp only at hW); obtain ⟨z2, z3⟩ := hW; go_simp; (try with_reducible rfl))
  try simp only [Act.put, List.setIfInBounds_toArray, List.set_cons_zero, List.set_cons_succ]
  refine' tkT 10 (v := _) rfl hHeld rfl ?_ ?_
  rotate_left
  · (intro W' hW; (try dsimp only at hW); obtain ⟨z2, z3⟩ := hW; go_simp; (try with_reducible rfl))
  try simp only [Act.put, List.setIfInBounds_toArray, List.set_cons_zero, List.set_cons_succ]
  refine' tkT 11 (v := _) rfl hHeld rfl ?_ ?_
  rotate_left
  · (intro W' hW; (try dsimp only at hW); obtain ⟨z2, z3⟩ := hW; go_simp; (try with_reducible rfl))
  try simp only [Act.put, List.setIfInBounds_toArray, List.set_cons_zero, List.set_cons_succ]
  refine' tkT 12 (v := _) rfl hHeld rfl ?_ ?_
  rotate_left
  · (intro W' hW; (try dsimp only at hW); obtain ⟨z2, z3⟩ := hW; go_simp; (try with_reducible rfl))
  try simp only [Act.put, List.setIfInBounds_toArray, List.set_cons_zero, List.set_cons_succ]
  refine' tkT 13 (v := _) rfl hHeld rfl ?_ ?_
  rotate_left
  · (intro W' hW; (try dsimp only at hW); obtain ⟨z2, z3⟩ := hW; go_simp; (try with_reducible rfl))
  try simp only [Act.put, List.setIfInBounds_toArray, List.set_cons_zero, List.set_cons_succ]
  refine' tkT 14 (v := _) rfl hHeld rfl ?_ ?_
  rotate_left
  · (intro W' hW; (try dsimp only at hW); obtain ⟨z2, z3⟩ := hW; go_simp; (try with_reducible rfl))
  try simp only [Act.put, List.setIfInBounds_toArray, List.set_cons_zero, List.set_cons_succ]
  refine' tkT 15 (v := _) rfl hHeld rfl ?_ ?_
  rotate_left
  · (intro W' hW; (try dsimp only at hW); obtain ⟨z2, z3⟩ := hW; go_simp; (try with_reducible rfl))
  try simp only [Act.put, List.setIfInBounds_toArray, List.set_cons_zero, List.set_cons_succ]
  clear hHeld
  refine WaysT.turn (by kernel_rfl) rfl (fun K' hK => ?_)
  go_simp
  go_at_call 52
  refine (rsave_ok D1.out t1 (id + 1) (id : Int) (by omega) (by omega) (by omega) HT.out.1).mono ?_
  rintro e w2 ⟨rfl, S2, d2, n2⟩
  refine hK.out _ _ ?_
  clear hK
  try simp only [List.setIfInBounds_toArray, List.set_cons_zero, List.set_cons_succ]
  have D2 := hide d2
  have N2 := hide (N1.out.trans n2)
  clear d2 n2
  refine WaysT.then (i := 17) rfl (by kernel_rfl) rfl (fun K' hK => ?_)
  go_simp
  refine hK.out _ _ ?_
  clear hK
  try simp only [List.setIfInBounds_toArray, List.set_cons_zero, List.set_cons_succ]
  refine WaysT.then (i := 18) rfl (by kernel_rfl) rfl (fun K' hK => ?_)
  go_simp
  refine hK.out _ _ ?_
  clear hK
  try simp only [List.setIfInBounds_toArray, List.set_cons_zero, List.set_cons_succ]
  refine WaysT.done (by kernel_rfl) ?_
  have x0 : w2.cell? ⟨r, 0, none⟩ = some (.int .i64 (N.id : Int)) := nds_cell D2.out 0
  have x6 : w2.cell? ⟨r, 6, none⟩ = some (.int .i64 (N.role : Int)) := nds_cell D2.out 6
  have x7 : w2.cell? ⟨r, 7, none⟩ = some (.int .i64 N.lead) := nds_cell D2.out 7
  have x11 : w2.cell? ⟨r, 11, none⟩ = some (.int .u64 (N.votes : Int)) := nds_cell D2.out 11
  have f6 := D2.out.blk.frozen 6
  have f7 := D2.out.blk.frozen 7
  have f11 := D2.out.blk.frozen 11
  rw [← HP.out.2.1] at x0
  have hwp := wrap_pow id hid5
  obtain ⟨pw, hpw⟩ : ∃ k, k = 2 ^ id := ⟨_, rfl⟩
  rw [← hpw] at hwp
  have HPW := hide hpw
  clear hpw
  go_wp2_with fail
  go_region
  have S1 := D2.out.set (N' := { N with wait := waitOf draw, term := t1, vote := (id : Int), role := 1 }) 6 (.int .i64 1) rfl D2.out.fit
  have S2' := S1.set (N' := { N with wait := waitOf draw, term := t1, vote := (id : Int), role := 1, lead := -1 }) 7 (.int .i64 (-1)) rfl D2.out.fit
  have S3 := S2'.set (N' := { N with wait := waitOf draw, term := t1, vote := (id : Int), role := 1, lead := -1, votes := pw }) 11 (.int .u64 (pw : Int)) rfl D2.out.fit
  have n3 : Next S2 w2 S2 _ := (set_next (u := .int .i64 1) (i := 6) D2.out.self).trans ((set_next (u := .int .i64 (-1)) (i := 7) S1.self).trans (set_next (u := .int .u64 (pw : Int)) (i := 11) S2'.self))
  obtain ⟨W4, hW4⟩ : ∃ W, W = (((w2.setCell ⟨r, 6, none⟩ (.int .i64 1)).setCell ⟨r, 7, none⟩ (.int .i64 (-1))).setCell ⟨r, 11, none⟩ (.int .u64 (pw : Int))).drew := ⟨_, rfl⟩
  have D4 : NdS W4 S2 r d l room { N with wait := waitOf draw, term := t1, vote := (id : Int), role := 1, lead := -1, votes := pw } M (termP (numsL [t1, id + 1]) L) := by rw [hW4]; exact S3.below (below_drew _)
  have N4 : Next S w S2 W4 := by rw [hW4]; exact N2.out.trans (n3.trans (Next.of_below S2 (below_drew _)))
  rw [← hW4]
  have D4 := hide D4
  have N4 := hide N4
  clear S1 S2' S3 n3 hW4 x0 x6 x7 x11 f6 f7 f11 D2 N2
  have q11 : W4.cell? ⟨r, 11, none⟩ = some (.int .u64 (pw : Int)) := nds_cell D4.out 11
  go_wp2_with fail
  refine (most_any D4.out pw (by rw [HPW.out]; exact HP.out.2.2.1.1)).mono ?_
  rintro e w5 ⟨rfl, rfl⟩
  rw [show decide (N.n < 2 * ones5 pw) = false by rw [HPW.out, HP.out.2.2.1.2]; simp; have := HP.out.1; omega]
  clear q11
  go_wp2_with fail
  refine (others_asks D4.out tm HT.out.2.1 HT.out.2.2.1 HT.out.2.2.2).mono ?_
  rintro e w6 ⟨v, rfl, r6, d6, n6⟩
  have R6 := hide (r6.more N4.out.turn.size)
  have D6 := hide d6
  have N6 := hide (N4.out.trans n6)
  clear r6 d6 n6
  go_wp2_with fail
  go_ret
  rw [HPW.out] at D6
  obtain rfl := HP.out.2.1
  exact ⟨v, rfl, R6.out, S2, D6.out, N6.out⟩
end Go.Proofs.YtejhoefmcldpnaaGreat
namespace Go.Proofs.YtejhoefmcldpnaaGreat
open Go.RowKit Go.Maps
set_option maxRecDepth 100000 in
theorem rend_ok (g : Nat) (A : Option Addr) (c : Nat) (w : World) (hB : RdrB w g A 0 c 0) :
    Calls Tryz.prog 42 #[.pointer (some ⟨g, 0, none⟩)] w fun e w' => e = .returned (.int .i64 0) ∧ Below w.heap.size w w' := by
  have q0 : w.cell? ⟨g, 0, none⟩ = some (.slice A 0 c) := hB.cell 0
  have q1 : w.cell? ⟨g, 1, none⟩ = some (.int .i64 0) := hB.cell 1
  clear hB
  have HG : Hid (Calls Tryz.prog 50 #[.pointer (some ⟨g, 0, none⟩)] w fun e w' => e = .returned (.bool false) ∧ w = w') := by
    refine hide ?_
    go_enter Tryz.func50, Tryz.ntmps50
    go_wp2_with fail
    go_ret
    exact ⟨rfl, rfl⟩
  go_enter Tryz.func42, Tryz.ntmps42
  go_wp2_with fail
  refine HG.out.mono ?_
  rintro e w1 ⟨rfl, rfl⟩
  go_wp2_with fail
  go_ret
  exact ⟨rfl, Below.refl _ _⟩
/-- What a disk says of term and vote: nothing, or what was written. -/
def TermD (L : DiskL) (t v1 : Nat) : Prop := (loadL termK L = ([], 7) ∧ t = 0 ∧ v1 = 0) ∨ loadL termK L = (numsL [t, v1], 0)
set_option maxRecDepth 100000 in
set_option maxHeartbeats 3200000 in
theorem rload_any (F : Nat → Prop) (d room : Nat) (L : DiskL) (n t v1 : Nat) (w : World) (hD : DiskAt w F d room L) (ht : TermD L t v1) (ht9 : t ≤ 9223372036854775807) (hv : v1 ≤ n) (hn : n ≤ 100) :
    Calls Tryz.prog 19 #[.pointer (some ⟨d, 0, none⟩), .int .i64 (n : Int)] w fun e w' => e = .returned (.tuple #[.int .i64 (t : Int), .int .i64 ((v1 : Int) - 1), .int .i64 0]) ∧ Below w.heap.size w w' := by
  have LD := hide (load_any F d room L ⟨#[116, 101, 114, 109]⟩ w hD (by decide))
  rcases ht with ⟨he, rfl, rfl⟩ | he
  · rw [show loadL (⟨#[116, 101, 114, 109]⟩ : ByteArray).data.toList L = _ from he] at LD
    clear hD he
    go_enter Tryz.func19, Tryz.ntmps19
    go_wp2_with fail
    refine LD.out.mono ?_
    rintro e w1 ⟨v, rfl, o1, k1⟩
    have K1 := hide k1
    clear o1 k1 LD
    go_wp2_with fail
    refine bodyPost_ret (v := .tuple #[.int .i64 0, .int .i64 (-1), .int .i64 0]) (by simp [results, Tryz.results19, go_sem]) rfl ?_
    exact ⟨rfl, K1.out⟩
  · rw [show loadL (⟨#[116, 101, 114, 109]⟩ : ByteArray).data.toList L = _ from he] at LD
    clear hD he
    go_enter Tryz.func19, Tryz.ntmps19
    go_wp2_with fail
    refine LD.out.mono ?_
    rintro e w1 ⟨v, rfl, o1, k1⟩
    obtain ⟨m, hm⟩ : ∃ m, m = (numsL [t, v1]).length := ⟨_, rfl⟩
    obtain ⟨A, c, rfl, _⟩ := o1.isB.form hm.symm
    have hlow := own_lowB o1 hm.symm
    have K1 := hide k1
    have HLOW := hide hlow
    have HM := hide hm
    clear o1 k1 hlow hm LD
    go_wp2_with fail
    have kb := below_alloc w1 (.cells #[.slice A m c, .int .i64 0] 91)
    have br := Blk.new w1 (B := 0) 91 #[.slice A m c, .int .i64 0] (Nat.zero_le _)
    obtain ⟨g, hg⟩ : ∃ g, g = w1.heap.size := ⟨_, rfl⟩
    obtain ⟨W, hW⟩ : ∃ W, W = w1.alloc (.cells #[.slice A m c, .int .i64 0] 91) := ⟨_, rfl⟩
    have low2 := HLOW.out.keep kb
    rw [← hW] at kb br low2
    rw [← hg] at br low2
    rw [← hW, ← hg]
    have hnl : numsL [t, v1] = uvl t ++ (uvl v1 ++ []) := rfl
    rw [hnl] at low2
    have hlen := low2.len
    rw [List.length_append] at hlen
    have K2 := hide (K1.out.trans (kb.mono K1.out.size))
    have HGS : Hid (w.heap.size ≤ g) := hide (by rw [hg]; exact K1.out.size)
    have R1 := hide (rdr_num_ok g A m c _ W t (uvl t).length 9223372036854775807 br low2 (fun x hx => (List.mem_append.1 hx).elim (uvl_byte t x) (fun h => uvl_byte v1 x (by simpa using h))) (rvl_back t _ (by omega)) ht9 (by omega) (by omega))
    rw [List.drop_left] at R1
    clear hW hg kb br low2 hnl hlen
    refine R1.out.mono ?_
    rintro e w2 ⟨rfl, A2, c2, hs2, b2, l2, t2⟩
    have hlen2 := l2.len
    rw [List.append_nil] at hlen2
    have R2 := hide (rdr_num_ok g A2 _ c2 _ w2 v1 (uvl v1).length n b2 l2 (fun x hx => uvl_byte v1 x (by simpa using hx)) (rvl_back v1 [] (by omega)) hv (by omega) (by omega))
    have T2 := hide t2
    rw [← hlen2, Nat.sub_self] at R2
    clear b2 l2 t2 hs2 hlen2 R1
    go_wp2_with fail
    refine R2.out.mono ?_
    rintro e w3 ⟨rfl, A3, c3, hs3, b3, l3, t3⟩
    have RE := hide (rend_ok g A3 c3 w3 b3)
    have T3 := hide (T2.out.trans t3)
    clear b3 l3 t3 hs3 R2
    go_wp2_with fail
    refine RE.out.mono ?_
    rintro e w4 ⟨rfl, k4⟩
    have K4 := hide ((K2.out.trans (T3.out.below K2.out.size (fun k e => by rw [e]; exact HGS.out))).trans (k4.mono (Nat.le_trans K2.out.size T3.out.size)))
    clear k4 RE
    go_wp2_with fail
    refine bodyPost_ret (v := .tuple #[.int .i64 (t : Int), .int .i64 ((v1 : Int) - 1), .int .i64 0]) (by simp [results, Tryz.results19, go_sem]) rfl ?_
    exact ⟨rfl, K4.out⟩
/-- Each entry of a log is one of raft's. -/
def AllE (M : LogL) : Prop := ∀ i : Nat, 1 ≤ i → i < M.next → ∃ t dat, HasE M (i : Int) t dat
set_option maxRecDepth 100000 in
set_option maxHeartbeats 3200000 in
theorem rlogOf_any (F : Nat → Prop) (d room : Nat) (L : DiskL) (w : World) (hD : DiskAt w F d room L) (h1 : firstL (openR logK L).log = 1) (hA : AllE (openR logK L).log) :
    Calls Tryz.prog 20 #[.pointer (some ⟨d, 0, none⟩)] w fun e w' => ∃ l, e = .returned (.tuple #[.pointer (some ⟨l, 0, none⟩), .int .i64 0]) ∧ ∃ F' G', Pro w' F' G' d l room logS ⟨(openR logK L).log.segs, (openR logK L).log.next, []⟩ (syncsL logK (openR logK L).log.dirty (openR logK L).disk) ∧ Turn F w w' ∧ (∀ k, F' k → F k ∨ w.heap.size ≤ k) ∧ (∀ k, G' k → w.heap.size ≤ k) := by
  have PO := hide (pro_open logS hD (by decide) (by decide))
  obtain ⟨M, hM⟩ : ∃ M, M = (openR logK L).log := ⟨_, rfl⟩
  obtain ⟨L1, hL1⟩ : ∃ M, M = (openR logK L).disk := ⟨_, rfl⟩
  rw [show logS.data.toList = logK from rfl, ← hM, ← hL1] at PO
  rw [← hM] at h1 hA
  rw [← hM, ← hL1]
  have HA := hide hA
  have H1 := hide h1
  clear hD h1 hA hM hL1
  go_enter Tryz.func20, Tryz.ntmps20
  go_wp2_with fail
  refine PO.out.mono ?_
  rintro e w1 ⟨l, rfl, F1, G1, p1, t1, hf1, hg1⟩
  have P1 := hide p1
  have T1 := hide t1
  have HF1 := hide hf1
  have HG1 := hide hg1
  clear p1 t1 hf1 hg1 PO
  go_wp2_with fail
  refine (pro_bounds P1.out).mono ?_
  rintro e w2 ⟨rfl, k2⟩
  have P2 := hide (P1.out.below k2)
  have T2 := hide (T1.out.trans (Turn.of_below F k2))
  rw [H1.out]
  obtain ⟨nx, hnx⟩ : ∃ n, n = M.next := ⟨_, rfl⟩
  have hnx9 : nx ≤ 1099511627776 := by rw [hnx]; exact P2.out.next_pos
  rw [← hnx]
  have HNX := hide hnx
  clear k2 hnx
  go_wp2_with fail
  go_loopw [8, 9, 10, 11] (fun i _ _ _ wr => ∃ j : Nat, 1 ≤ j ∧ (j ≤ nx ∨ j = 1) ∧ i = .int .i64 (j : Int) ∧ Hid (Pro wr F1 G1 d l room logS M L1) ∧ Hid (Turn F w wr)) (fun i _ _ _ _ => nx - (intOf i).toNat)
  case atStart => exact ⟨1, Nat.le_refl _, .inr rfl, rfl, P2, T2⟩
  case round =>
    obtain ⟨j, hj1, hj2, rfl, HP, HT⟩ := hrel
    by_cases hlt : j < nx
    · have hjz : (j : Int) < (nx : Int) := by omega
      obtain ⟨t, dat, hg, ht9, hb⟩ := HA.out j hj1 (by rw [← HNX.out]; exact hlt)
      have GT := hide (read_get HP.out.read (j : Int))
      rw [hg] at GT
      have HTB := hide (And.intro ht9 hb)
      clear hg ht9 hb
      go_wp2_with fail
      refine GT.out.mono ?_
      rintro e w3 ⟨v, rfl, o3, k3⟩
      obtain ⟨m, hm⟩ : ∃ m, m = (uvl t ++ dat).length := ⟨_, rfl⟩
      obtain ⟨A, c, rfl, _⟩ := o3.isB.form hm.symm
      have hlow := own_lowB o3 hm.symm
      have P3 := hide (HP.out.below k3)
      have T3 := hide (HT.out.trans (Turn.of_below F k3))
      have HLOW := hide hlow
      clear o3 k3 hlow hm GT
      go_wp2_with fail
      have kb := below_alloc w3 (.cells #[.slice A m c, .int .i64 0] 91)
      have br := Blk.new w3 (B := 0) 91 #[.slice A m c, .int .i64 0] (Nat.zero_le _)
      obtain ⟨g, hgg⟩ : ∃ g, g = w3.heap.size := ⟨_, rfl⟩
      obtain ⟨W, hW⟩ : ∃ W, W = w3.alloc (.cells #[.slice A m c, .int .i64 0] 91) := ⟨_, rfl⟩
      have low2 := HLOW.out.keep kb
      rw [← hW] at kb br low2
      rw [← hgg] at br low2
      rw [← hW, ← hgg]
      have LD := hide (rdr_laid_ok g A m c t dat W br low2 HTB.out.2 HTB.out.1)
      have P4 := hide (P3.out.below kb)
      have T4 := hide (T3.out.trans (Turn.of_below F kb))
      have HGG : Hid (g = w3.heap.size ∧ w3.heap.size ≤ W.heap.size) := hide ⟨hgg, kb.size⟩
      clear hW hgg kb br low2
      refine LD.out.mono ?_
      rintro e w5 ⟨A5, n5, c5, rfl, hs5, l5, A6, c6, b6, t6⟩
      have q1 : w5.cell? ⟨g, 1, none⟩ = some (.int .i64 0) := b6.cell 1
      have hwg : w.heap.size ≤ w3.heap.size := T3.out.size
      have hFl := P3.out.low
      have P5 := hide (P4.out.turn t6 (fun k hk e => by have h7 := hFl.1 k hk; have h8 := HGG.out.1; rw [e] at h7; omega) (fun k hk e => by have h7 := hFl.2 k hk; have h8 := HGG.out.1; rw [e] at h7; omega))
      have T5 := hide (T4.out.then t6 (fun k e => .inr (by rw [e, HGG.out.1]; exact hwg)))
      clear hs5 l5 b6 t6 hFl hwg LD
      go_wp2_with fail
      go_roundw
      case rel => exact ⟨j + 1, by omega, .inl (by omega), by go_num, P5, T5⟩
      case measure => simp [intOf]; omega
    · have hjz : ¬ (j : Int) < (nx : Int) := by omega
      go_wp2_with fail
      refine (pro_sync HP.out).mono ?_
      rintro e w3 ⟨rfl, F3, G3, p3, t3, hf3, hg3⟩
      have P3 := hide p3
      have T3 := hide t3
      have HF3 := hide hf3
      have HG3 := hide hg3
      clear p3 t3 hf3 hg3
      go_wp2_with fail
      go_ret2
      refine ⟨l, rfl, F3, G3, P3.out, HT.out.then T3.out (fun k hk => hk.elim (fun h => HF1.out k h) (fun h => .inr (HG1.out k h))), fun k hk => (HF3.out k hk).elim (fun h => HF1.out k h) (fun h => .inr (Nat.le_trans HT.out.size h)), fun k hk => (HG3.out k hk).elim (fun h => HG1.out k h) (fun h => Nat.le_trans HT.out.size h)⟩
end Go.Proofs.YtejhoefmcldpnaaGreat
namespace Go.Proofs.YtejhoefmcldpnaaGreat
open Go.RowKit Go.Maps
def noPeers : List Nat := [0, 0, 0, 0, 0, 0, 0, 0, 0, 0]
/-- A node behind Open. -/
def ndNew (id n t v1 : Nat) (draw : Int) : Nd := ⟨id, n, t, (v1 : Int) - 1, 0, -1, 0, 0, waitOf draw, 0, noPeers⟩
theorem ropen_new (F4 G4 : Nat → Prop) (w4 : World) (d l room id n t : Nat) (vz : Int) (M : LogL) (L1 : DiskL) (p : Pro w4 F4 G4 d l room logS ⟨M.segs, M.next, []⟩ (syncsL logK M.dirty L1)) (h1 : id < n) (h2 : n ≤ 5) :
    NdS (w4.alloc (.cells #[.int .i64 (id : Int), .int .i64 (n : Int), .pointer (some ⟨d, 0, none⟩), .pointer (some ⟨l, 0, none⟩), .int .i64 (t : Int), .int .i64 vz, .int .i64 0, .int .i64 (-1), .int .i64 0, .int .i64 0, .int .i64 0, .int .u64 0, .int .i64 0, .int .i64 0, .int .i64 0, .int .i64 0, .int .i64 0, .int .i64 0, .int .i64 0, .int .i64 0, .int .i64 0, .int .i64 0] 70)) (fun k => (F4 k ∨ G4 k) ∨ k = w4.heap.size) w4.heap.size d l room ⟨id, n, t, vz, 0, -1, 0, 0, 0, 0, noPeers⟩ ⟨M.segs, M.next, []⟩ (syncsL logK M.dirty L1) := by
  have hlow := p.low
  refine ⟨F4, G4, ⟨Blk.new w4 (B := 0) _ _ (Nat.zero_le _), p.below (below_alloc w4 _), fun h => ?_, fun h => ?_, ⟨h1, h2, rfl⟩⟩, fun _ => Iff.rfl⟩
  · have := hlow.1 _ h; omega
  · have := hlow.2 _ h; omega
theorem ropen_next {F F4 G4 : Nat → Prop} {w w3 w4 w5 : World} (K : Below w.heap.size w w3) (t : Turn F w3 w4) (hf : ∀ k, F4 k → F k ∨ w3.heap.size ≤ k) (hg : ∀ k, G4 k → w3.heap.size ≤ k) (kb : Below w4.heap.size w4 w5) : Next F w (fun k => (F4 k ∨ G4 k) ∨ k = w4.heap.size) w5 := by
  have h1 := K.size
  have h2 := t.size
  refine ⟨((Turn.of_below F K).trans t).trans (Turn.of_below F kb), ?_⟩
  rintro k ((h | h) | h)
  · exact (hf k h).elim .inl (fun h => .inr (by omega))
  · exact .inr (Nat.le_trans h1 (hg k h))
  · exact .inr (by omega)
set_option maxRecDepth 100000 in
set_option maxHeartbeats 3200000 in
theorem ropen_any (F : Nat → Prop) (d room : Nat) (L : DiskL) (id n t v1 : Nat) (draw : Int) (w : World) (hD : DiskAt w F d room L) (hn : n = 1 ∨ n = 3 ∨ n = 5) (hid : id < n) (ht : TermD L t v1) (ht9 : t ≤ 9223372036854775807) (hv : v1 ≤ n) (h1 : firstL (openR logK L).log = 1) (hA : AllE (openR logK L).log) :
    Calls Tryz.prog 10 #[.int .i64 (id : Int), .int .i64 (n : Int), .pointer (some ⟨d, 0, none⟩), .int .i64 draw] w fun e w' => ∃ r l, e = .returned (.tuple #[.pointer (some ⟨r, 0, none⟩), .int .i64 0]) ∧ ∃ S', NdS w' S' r d l room (ndNew id n t v1 draw) ⟨(openR logK L).log.segs, (openR logK L).log.next, []⟩ (syncsL logK (openR logK L).log.dirty (openR logK L).disk) ∧ Next F w S' w' := by
  have LD := hide (rload_any F d room L n t v1 w hD ht ht9 hv (by omega))
  have HD := hide hD
  have H1 := hide (And.intro h1 hA)
  have hn5 : n ≤ 5 := by omega
  have hidz : ¬ ((id : Int) < 0) := by omega
  have hidn : ¬ ((n : Int) ≤ (id : Int)) := by omega
  have hnn : ((n : Int) != 1) = false ∨ ((n : Int) != 1) = true ∧ (((n : Int) != 3) = false ∨ ((n : Int) != 3) = true ∧ ((n : Int) != 5) = false) := by
    rcases hn with rfl | rfl | rfl <;> simp
  have HID := hide (And.intro hid hn5)
  have HVW := hide (And.intro hv ht9)
  obtain ⟨vz, hvz⟩ : ∃ z : Int, z = (v1 : Int) - 1 := ⟨_, rfl⟩
  rw [← hvz] at LD
  have HVZ := hide hvz
  clear hD ht ht9 hv h1 hA hn hid hvz
  have main : ∀ _ : Unit, Calls Tryz.prog 10 #[.int .i64 (id : Int), .int .i64 (n : Int), .pointer (some ⟨d, 0, none⟩), .int .i64 draw] w fun e w' => ∃ r l, e = .returned (.tuple #[.pointer (some ⟨r, 0, none⟩), .int .i64 0]) ∧ ∃ S', NdS w' S' r d l room (ndNew id n t v1 draw) ⟨(openR logK L).log.segs, (openR logK L).log.next, []⟩ (syncsL logK (openR logK L).log.dirty (openR logK L).disk) ∧ Next F w S' w' := by
    intro _
    obtain ⟨M, hM⟩ : ∃ M, M = (openR logK L).log := ⟨_, rfl⟩
    obtain ⟨L1, hL1⟩ : ∃ M, M = (openR logK L).disk := ⟨_, rfl⟩
    have HML := hide (And.intro hM hL1)
    rw [← hM, ← hL1]
    clear hM hL1
    rcases hnn with h1 | ⟨h1, h3 | ⟨h3, h5⟩⟩
    all_goals (
      go_enter Tryz.func10, Tryz.ntmps10
      go_wp2_with fail
      refine LD.out.mono ?_
      rintro e w1 ⟨rfl, k1⟩
      have D1 := hide (HD.out.below k1)
      have K1 := hide k1
      clear k1 LD
      go_wp2_with fail
      refine (copy_any F d room L w1 D1.out).mono ?_
      rintro e w2 ⟨d2, Fc, rfl, dc, fc, kc⟩
      have DC := hide dc
      have FC := hide fc
      have K2 := hide kc
      have D2 := hide (D1.out.below kc)
      clear dc fc kc
      go_wp2_with fail
      refine (rlogOf_any Fc d2 room L w2 DC.out H1.out.1 H1.out.2).mono ?_
      rintro e w3 ⟨l3, rfl, F3, G3, _, t3, _, _⟩
      have K3 : Hid (Below w1.heap.size w1 w3) := hide (K2.out.trans (t3.below K2.out.size FC.out))
      have D3 := hide (D1.out.below K3.out)
      clear t3 DC FC K2 D2
      go_wp2_with fail
      refine (rlogOf_any F d room L w3 D3.out H1.out.1 H1.out.2).mono ?_
      rintro e w4 ⟨l, rfl, F4, G4, p4, t4, hf4, hg4⟩
      rw [← HML.out.1, ← HML.out.2] at p4
      have P4 := hide p4
      have T4 := hide t4
      have HF4 := hide hf4
      have HG4 := hide hg4
      clear p4 t4 hf4 hg4
      go_wp2_with fail
      have kb := below_alloc w4 (.cells #[.int .i64 (id : Int), .int .i64 (n : Int), .pointer (some ⟨d, 0, none⟩), .pointer (some ⟨l, 0, none⟩), .int .i64 (t : Int), .int .i64 vz, .int .i64 0, .int .i64 (-1), .int .i64 0, .int .i64 0, .int .i64 0, .int .u64 0, .int .i64 0, .int .i64 0, .int .i64 0, .int .i64 0, .int .i64 0, .int .i64 0, .int .i64 0, .int .i64 0, .int .i64 0, .int .i64 0] 70)
      have br := Blk.new w4 (B := 0) 70 #[.int .i64 (id : Int), .int .i64 (n : Int), .pointer (some ⟨d, 0, none⟩), .pointer (some ⟨l, 0, none⟩), .int .i64 (t : Int), .int .i64 vz, .int .i64 0, .int .i64 (-1), .int .i64 0, .int .i64 0, .int .i64 0, .int .u64 0, .int .i64 0, .int .i64 0, .int .i64 0, .int .i64 0, .int .i64 0, .int .i64 0, .int .i64 0, .int .i64 0, .int .i64 0, .int .i64 0] (Nat.zero_le _)
      have hlow := P4.out.low
      have NN := ropen_new F4 G4 w4 d l room id n t vz M L1 P4.out HID.out.1 HID.out.2
      have nx : Next F w (fun k => (F4 k ∨ G4 k) ∨ k = w4.heap.size) _ := ropen_next (F4 := F4) (G4 := G4) (K1.out.trans (K3.out.mono K1.out.size)) T4.out HF4.out HG4.out kb
      have NX := hide nx
      have HN := hide NN
      clear kb br hlow NN nx
      refine (wait_anew HN.out draw).mono ?_
      rintro e w5 ⟨rfl, d5, n5⟩
      have D5 := hide d5
      have N5 := hide (NX.out.trans n5)
      clear d5 n5
      go_wp2_with fail
      go_ret2
      refine ⟨w4.heap.size, l, rfl, _, ?_, N5.out⟩
      unfold ndNew
      rw [← HVZ.out]
      exact D5.out)
  exact main ()
end Go.Proofs.YtejhoefmcldpnaaGreat
namespace Go.Proofs.YtejhoefmcldpnaaGreat
open Go.RowKit Go.Maps
def kM0 : LogL := ⟨[], 1, []⟩
def kL1 : DiskL := termP [1, 1] []
def kA : (LogL × DiskL) × Nat × Nat := addL 10000 logK [1] kM0 kL1
theorem k_uvl : uvl 1 = [1] := uvl_low (by decide)
theorem k_nums : numsL [1, 1] = [1, 1] := by simp [numsL, k_uvl]
theorem k_draft : (draftL 10000 termK [1, 1] []).2 = 0 := by decide +kernel
theorem k_add : kA.2.2 = 0 ∧ kA.1.1.next = 2 ∧ getE ⟨kA.1.1.segs, kA.1.1.next, []⟩ 1 = ([1], 0) := by decide +kernel
theorem k_open : (openR logK []).log = kM0 ∧ (openR logK []).disk = [] := ⟨rfl, rfl⟩
theorem k_term : TermD [] 0 0 := .inl ⟨loadL_none rfl, rfl, rfl⟩
theorem k_all : AllE kM0 := fun i h1 h2 => by
  have h3 : i < 1 := h2
  omega
theorem k_has : HasE (addE 10000 1 kM0 kL1).1 1 1 [] := by
  refine ⟨?_, by decide, fun x hx => by cases hx⟩
  unfold addE
  rw [k_uvl]
  exact k_add.2.2
end Go.Proofs.YtejhoefmcldpnaaGreat
namespace Go.Proofs.YtejhoefmcldpnaaGreat
open Go.RowKit Go.Maps
/-- The node behind j ticks of its first wait. -/
def kN (j : Nat) : Nd := { ndNew 0 1 0 0 0 with wait := ((10 - j : Nat) : Int) }
/-- .. and behind the tenth one. -/
def kN9 (vt : Nat) : Nd := ⟨0, 1, 1, 0, 2, 0, 1, 0, 3, vt, pairsL 1 5⟩
theorem kN_zero : ndNew 0 1 0 0 0 = kN 0 := rfl
theorem k_ents : ∀ i (hi : i < ([(1, [])] : List (Nat × List Nat)).length), HasE (addE 10000 1 kM0 kL1).1 ((0 + 1 + i : Nat) : Int) (([(1, [])] : List (Nat × List Nat))[i]).1 (([(1, [])] : List (Nat × List Nat))[i]).2 := by
  intro i hi
  have hi0 : i = 0 := by simpa using hi
  subst hi0
  exact k_has
theorem ktick_wait {w : World} {j : Nat} {S : Nat → Prop} {r d l : Nat} (h : NdS w S r d l 10000 (kN j) kM0 []) (hj : j < 9) :
    Calls Tryz.prog 16 #[.pointer (some ⟨r, 0, none⟩), .int .i64 0] w fun e w' => (∃ A n c, e = .returned (.slice A n c)) ∧ NdS w' S r d l 10000 (kN (j + 1)) kM0 [] ∧ Next S w S w' := by
  refine (tick_wait h 0 (10 - j) rfl (by omega) (by omega)).mono ?_
  rintro e w' ⟨rfl, h2, n2⟩
  refine ⟨⟨_, _, _, rfl⟩, ?_, n2⟩
  have e9 : (10 - j - 1 : Nat) = 10 - (j + 1) := by omega
  rw [e9] at h2
  exact h2
theorem ktick_last {w : World} {S : Nat → Prop} {r d l : Nat} (h : NdS w S r d l 10000 (kN 9) kM0 []) :
    Calls Tryz.prog 16 #[.pointer (some ⟨r, 0, none⟩), .int .i64 0] w fun e w' => (∃ A n c, e = .returned (.slice A n c)) ∧ ∃ S' vt, NdS w' S' r d l 10000 (kN9 vt) (addE 10000 1 kM0 kL1).1 (addE 10000 1 kM0 kL1).2 ∧ Next S w S' w' := by
  refine tick_stand h 0 rfl (.inl rfl) (fun w1 h1 n1 => ?_)
  have hL : termP (numsL [1, 1]) [] = kL1 := by rw [k_nums]; rfl
  have h9 := stand_one h1 0 rfl rfl rfl rfl rfl (by decide) (by show (draftL 10000 termK (numsL [1, 1]) []).2 = 0; rw [k_nums]; exact k_draft)
    (by show (addL 10000 logK (uvl 1) kM0 (termP (numsL [1, 1]) [])).2.2 = 0; rw [hL, k_uvl]; exact k_add.1)
    (by show (addE 10000 1 kM0 (termP (numsL [1, 1]) [])).1.next = 2; rw [hL]; unfold addE; rw [k_uvl]; exact k_add.2.1)
    (by show TermE (addE 10000 1 kM0 (termP (numsL [1, 1]) [])).1 1 1; rw [hL]; exact .inl ⟨[], k_has⟩)
  refine h9.mono ?_
  rintro e w2 ⟨rfl, S2, vt, h2, n2⟩
  refine ⟨_, _, _, rfl, ⟨_, _, _, rfl⟩, S2, vt, ?_, n1.trans n2⟩
  have h3 : NdS w2 S2 r d l 10000 (kN9 vt) (addE 10000 1 kM0 (termP (numsL [1, 1]) [])).1 (addE 10000 1 kM0 (termP (numsL [1, 1]) [])).2 := h2
  rw [hL] at h3
  exact h3
set_option maxRecDepth 100000 in
set_option maxHeartbeats 3200000 in
theorem known_any (w : World) : Calls Tryz.prog 8 #[] w fun e w' => e = .returned (.bool true) ∧ Below w.heap.size w w' := by
  go_enter Tryz.func8, Tryz.ntmps8
  go_wp2_with fail
  refine (new_any 10000 w (by decide)).mono ?_
  rintro e w1 ⟨d, F1, rfl, d1, l1, k1⟩
  have D1 := hide d1
  have K1 := hide k1
  have L1 := hide l1
  clear d1 l1 k1
  go_wp2_with fail
  have hop := ropen_any F1 d 10000 [] 0 1 0 0 0 w1 D1.out (.inl rfl) (by decide) k_term (by decide) (by decide) rfl (by rw [k_open.1]; exact k_all)
  rw [k_open.1, k_open.2] at hop
  refine Calls.mono (show Calls Tryz.prog 10 #[.int .i64 0, .int .i64 1, .pointer (some ⟨d, 0, none⟩), .int .i64 0] w1 _ from hop) ?_
  rintro e w2 ⟨r, l, rfl, S2, h2, n2⟩
  have H2 := hide (show NdS w2 S2 r d l 10000 (kN 0) kM0 [] from h2)
  have K2 := hide (K1.out.trans (n2.below K1.out.size L1.out))
  have HS2 := hide (n2.up K1.out.size L1.out)
  clear h2 n2 hop
  go_wp2_with fail
  go_loopw [5] (fun i wr => ∃ (j : Nat) (S : Nat → Prop), j ≤ 10 ∧ i = .int .i64 (j : Int) ∧ Hid (∀ k, S k → w.heap.size ≤ k) ∧ Hid (Below w.heap.size w wr) ∧ (j < 10 → Hid (NdS wr S r d l 10000 (kN j) kM0 [])) ∧ (j = 10 → Hid (∃ vt, NdS wr S r d l 10000 (kN9 vt) (addE 10000 1 kM0 kL1).1 (addE 10000 1 kM0 kL1).2))) (fun i _ => 10 - (intOf i).toNat)
  case atStart => exact ⟨0, S2, by omega, rfl, HS2, K2, fun _ => H2, fun h => by omega⟩
  case round =>
    obtain ⟨j, S, hj, rfl, HS, HK, HA, HB⟩ := hrel
    by_cases hlt : j < 10
    · have hjz : (j : Int) < 10 := by omega
      by_cases h9 : j < 9
      · have TW := hide (ktick_wait (HA hlt).out h9)
        clear HA HB
        go_wp2_with fail
        refine TW.out.mono ?_
        rintro e w3 ⟨⟨A, n, c, rfl⟩, h3, n3⟩
        have H3 := hide h3
        have N3 := hide n3
        clear h3 n3 TW
        go_wp2_with fail
        go_roundw
        case rel => exact ⟨j + 1, S, by omega, by go_num, HS, hide (HK.out.trans (N3.out.below HK.out.size HS.out)), fun _ => H3, fun h => by omega⟩
        case measure => simp [intOf]; omega
      · obtain rfl : j = 9 := by omega
        have TW := hide (ktick_last (HA hlt).out)
        clear HA HB
        go_wp2_with fail
        refine TW.out.mono ?_
        rintro e w3 ⟨⟨A, n, c, rfl⟩, S3, vt, h3, n3⟩
        have H3 : Hid (∃ vt, NdS w3 S3 r d l 10000 (kN9 vt) (addE 10000 1 kM0 kL1).1 (addE 10000 1 kM0 kL1).2) := hide ⟨vt, h3⟩
        have N3 := hide n3
        clear h3 n3 TW
        go_wp2_with fail
        go_roundw
        case rel => exact ⟨10, S3, by omega, by go_num, hide (N3.out.up HK.out.size HS.out), hide (HK.out.trans (N3.out.below HK.out.size HS.out)), fun h => by omega, fun _ => H3⟩
        case measure => simp [intOf]
    · obtain rfl : j = 10 := by omega
      obtain ⟨vt, h9⟩ := (HB rfl).out
      have H9 := hide h9
      clear h9 HA HB
      go_wp2_with fail
      refine (state_any H9.out).mono ?_
      rintro e w3 ⟨rfl, k3⟩
      have H3 := hide (H9.out.below k3)
      have K3 := hide (HK.out.trans (k3.mono HK.out.size))
      clear k3
      go_wp2_with fail
      refine (rtake_any H3.out [(1, [])] 1 0 rfl rfl rfl (by decide) (by decide) k_ents).mono ?_
      rintro e w4 ⟨v, rfl, r4, _, n4⟩
      have K4 := hide (K3.out.trans (n4.below K3.out.size HS.out))
      clear n4
      rcases r4.form with ⟨h0, _⟩ | ⟨g, c, rfl, _, _, hf⟩
      · cases h0
      obtain ⟨A, n, cc, _, c1, _, hn⟩ := hf 0 (by decide)
      have hn0 : n = 0 := hn.symm
      subst hn0
      have c1 : w4.cell? ⟨g, 1, none⟩ = some (.slice A 0 cc) := c1
      clear hf hn r4
      go_wp2_with fail
      go_ret
      exact ⟨rfl, K4.out⟩
end Go.Proofs.YtejhoefmcldpnaaGreat
