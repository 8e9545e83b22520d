/- The contracts of areNumbers and isMeant at a message that asks for votes, whatever it holds. Condition: the widths. The contracts of a node's Hear where a messa -/
import Derived.Test.YtedlibkkeegnaaaGreatRv31
namespace Go.Proofs.YtedlibkkeegnaaaGreat
open Go.RowKit Go.Maps
variable {w w3 w4 w5 : World} {F : Nat -> Prop} {L : DiskL} {M : LogL} {room l d : Nat}
instance (zs : List Int) : Decidable (okN zs) := by unfold okN; infer_instance
set_option maxRecDepth 100000 in
theorem are_any (A : Option Addr) (n c : Nat) (zs : List Int) (w : World) (k : Nat) (hn : zs.length = n) (h : RdI w A zs) (h9 : n <= 1099511627776) :
  Calls Tryz.prog 44 #[.slice A n c, .int .i64 (k : Int)] w fun e w' => e = .returned (.bool (decide (okN zs /\ n = k))) /\ w = w' := by
 have H := hide h;have HN := hide hn;obtain ⟨ans, hans⟩ : ∃ b, b = decide (okN zs /\ n = k) := ⟨_, rfl⟩;rw [<- hans];have HA := hide hans;clear h hn hans;go_enter Tryz.func44, Tryz.ntmps44;go_wp2_with fail
 go_loopw [6, 9] (fun _ i wr => ∃ j : Nat, j <= n /\ i = .int .i64 (j : Int) /\ wr = w /\ Hid (∀ z ∈ zs.take j, 0 <= z /\ z <= 1099511627776)) (fun _ i _ => n - (intOf i).toNat)
 case atStart => exact ⟨0, Nat.zero_le _, rfl, rfl, hide (fun z hz => by simp at hz)⟩
 case round =>
  obtain ⟨j, hj, rfl, rfl, HT⟩ := hrel;by_cases hlt : j < n
  ·have hjx : j < zs.length := by rw [HN.out]; exact hlt
   obtain ⟨b, off, rfl, hcell⟩ := H.out (by intro e; rw [e] at hjx; simp at hjx);have hc0 := hcell j hjx;obtain ⟨z, hz⟩ : ∃ z, z = zs[j] := ⟨_, rfl⟩;rw [show zs.getD j 0 = z by rw [hz]; simp [hjx]] at hc0;have hjz : (j : Int) < (n : Int) := by omega
   have HZ : Hid (z ∈ zs /\ zs.take (j + 1) = zs.take j ++ [z]) := hide ⟨by rw [hz]; exact List.getElem_mem hjx, by rw [hz, List.take_append_getElem hjx]⟩;clear hcell hz hjx;by_cases hz1 : z < 0
   ·have hb : ans = false := by
     rw [HA.out, decide_eq_false];intro hh;have := hh.1 z HZ.out.1;omega
    have HB := hide hb;clear hb;go_wp2_with fail
    go_ret;exact ⟨by rw [HB.out]; rfl, rfl⟩
   ·by_cases hz2 : 1099511627776 < z
    ·have hb : ans = false := by
      rw [HA.out, decide_eq_false];intro hh;have := hh.1 z HZ.out.1;omega
     have HB := hide hb;clear hb;go_wp2_with fail
     go_ret;exact ⟨by rw [HB.out]; rfl, rfl⟩
    ·have HT2 : Hid (∀ y ∈ zs.take (j + 1), 0 <= y /\ y <= 1099511627776) := hide (by
      rw [HZ.out.2];intro y hy;rcases List.mem_append.1 hy with hy | hy
      ·exact HT.out y hy
      ·simp at hy;subst hy;omega)
     go_wp2_with fail
     go_roundw
     case rel => exact ⟨j + 1, by omega, by go_num, trivial, HT2⟩
     case measure => simp [intOf]; omega
  ·obtain rfl : j = n := by omega
   have hok : okN zs := by have := HT.out; rw [List.take_of_length_le (by rw [HN.out]; exact Nat.le_refl _)] at this; exact this
   have hjz : ¬ (j : Int) < (j : Int) := by omega
   by_cases hjk : j = k
   ·have hb : ans = true := by rw [HA.out, decide_eq_true]; exact ⟨hok, hjk⟩
    have hjk2 : ((j : Int) == (k : Int)) = true := by simp; omega
    have HB := hide hb;clear hb hok hjk;go_wp2_with fail
    go_ret;exact ⟨by rw [HB.out]; rfl, rfl⟩
   ·have hb : ans = false := by rw [HA.out, decide_eq_false]; exact fun hh => hjk hh.2
    have hjk2 : ((j : Int) == (k : Int)) = false := by simp; omega
    have HB := hide hb;clear hb hok hjk;go_wp2_with fail
    go_ret;exact ⟨by rw [HB.out]; rfl, rfl⟩
set_option maxRecDepth 100000 in
set_option maxHeartbeats 6400000 in
theorem meant_self {S : Nat -> Prop} {r : Nat} {N : Nd} (h : NdS w S r d l room N M L) (f : Int) (nid : Nat) (A : Option Addr) (n c : Nat) (D : Option Addr) (m dc : Nat) (zs : List Int) (hn : zs.length = n) (hN : RdI w A zs) (hid : nid = N.id) (hf : f = (nid : Int)) :
  Calls Tryz.prog 20 #[.pointer (some ⟨r, 0, none⟩), .agg #[.int .i64 f, .int .i64 (nid : Int), .int .i64 1, .slice A n c, .slice D m dc]] w fun e w' => e = .returned (.bool false) /\ Below w.heap.size w w' := by
 have ka := below_alloc w (.cells #[.int .i64 f, .int .i64 (nid : Int), .int .i64 1, .slice A n c, .slice D m dc] 34);have bg := Blk.new w (B := 0) 34 #[.int .i64 f, .int .i64 (nid : Int), .int .i64 1, .slice A n c, .slice D m dc] (Nat.zero_le _);obtain ⟨q, hq⟩ : ∃ q, q = w.heap.size := ⟨_, rfl⟩;obtain ⟨W, hW⟩ : ∃ W, W = w.alloc (.cells #[.int .i64 f, .int .i64 (nid : Int), .int .i64 1, .slice A n c, .slice D m dc] 34) := ⟨_, rfl⟩;have HN0 := h.below ka;have NN := hN.below ka;rw [<- hW] at ka bg HN0 NN;rw [<- hq] at bg;have x0 : W.cell? ⟨q, 0, none⟩ = some (.int .i64 f) := bg.cell 0;have x1 : W.cell? ⟨q, 1, none⟩ = some (.int .i64 (nid : Int)) := bg.cell 1;have x2 : W.cell? ⟨q, 2, none⟩ = some (.int .i64 1) := bg.cell 2;have x3 : W.cell? ⟨q, 3, none⟩ = some (.slice A n c) := bg.cell 3;have r0 : W.cell? ⟨r, 0, none⟩ = some (.int .i64 (N.id : Int)) := nds_cell HN0 0;have r1 : W.cell? ⟨r, 1, none⟩ = some (.int .i64 (N.n : Int)) := nds_cell HN0 1;obtain ⟨nn, hnn⟩ : ∃ z, z = N.n := ⟨_, rfl⟩;rw [<- hid] at r0;rw [<- hnn] at r1;have hnn2 : (N.n : Int) = (nn : Int) := by rw [hnn]
 have KA := hide ka;have HN2 := hide hn;have hfz : ((f : Int) == (nid : Int)) = true := by simp; exact hf
 clear hf h hN hid hnn hnn2 bg HN0 ka hn;go_enter Tryz.func20, Tryz.ntmps20;go_wp2_with fail
 rw [<- hW, <- hq];clear hW hq;refine heldT_top (fun W' : World => W'.cell? ⟨q, 0, none⟩ = some (.int .i64 f) /\ W'.cell? ⟨q, 1, none⟩ = some (.int .i64 (nid : Int)) /\ W'.cell? ⟨r, 0, none⟩ = some (.int .i64 (nid : Int)) /\ W'.cell? ⟨r, 1, none⟩ = some (.int .i64 (nn : Int))) 30 #[false, false, false, false, false, false, false, false, false, false, false, false, false, false, false, false, false, false, false, false, false, false, false, false, false, false, false, false, false, false] (by kernel_rfl) (by kernel_rfl) (by kernel_rfl) ?_;have hHeld : (fun W' : World => W'.cell? ⟨q, 0, none⟩ = some (.int .i64 f) /\ W'.cell? ⟨q, 1, none⟩ = some (.int .i64 (nid : Int)) /\ W'.cell? ⟨r, 0, none⟩ = some (.int .i64 (nid : Int)) /\ W'.cell? ⟨r, 1, none⟩ = some (.int .i64 (nn : Int))) (W.drewN 1) := ⟨x0, x1, r0, r1⟩;have KU := hide (KA.out.trans ((below_drewN (Below.refl W.heap.size W) 1).mono KA.out.size));have x2' : (W.drewN 1).cell? ⟨q, 2, none⟩ = some (.int .i64 1) := x2;have x3' : (W.drewN 1).cell? ⟨q, 3, none⟩ = some (.slice A n c) := x3;have NU : RdI (W.drewN 1) A zs := NN;clear x0 x1 x2 x3 r0 r1 KA NN;change wpAnyH _ _ _ _ _ _ _ _ (W.drewN 1);generalize W.drewN 1 = U at *
 iterate 17
  first | refine' tkH 0 rfl hHeld rfl ?_ ?_ | refine' tkH 1 rfl hHeld rfl ?_ ?_ | refine' tkH 2 rfl hHeld rfl ?_ ?_ | refine' tkH 3 rfl hHeld rfl ?_ ?_ | refine' tkH 4 rfl hHeld rfl ?_ ?_ | refine' tkH 5 rfl hHeld rfl ?_ ?_ | refine' tkH 6 rfl hHeld rfl ?_ ?_ | refine' tkH 7 rfl hHeld rfl ?_ ?_ | refine' tkH 8 rfl hHeld rfl ?_ ?_ | refine' tkH 9 rfl hHeld rfl ?_ ?_ | refine' tkH 10 rfl hHeld rfl ?_ ?_ | refine' tkH 11 rfl hHeld rfl ?_ ?_ | refine' tkH 12 rfl hHeld rfl ?_ ?_ | refine' tkH 13 rfl hHeld rfl ?_ ?_ | refine' tkH 14 rfl hHeld rfl ?_ ?_ | refine' tkH 15 rfl hHeld rfl ?_ ?_ | refine' tkH 16 rfl hHeld rfl ?_ ?_
  rotate_left
  ·(intro W' hW; (try dsimp only at hW); obtain ⟨z0, z1, z2, z3⟩ := hW; go_simp; (try with_reducible rfl))
  try simp only [Act.put, List.setIfInBounds_toArray, List.set_cons_zero, List.set_cons_succ]
 refine' wpAnyH_take (i := 17) (oi := ⟨_, _, _, _, _, _⟩) (v := undef) rfl (by kernel_rfl) (by kernel_rfl) (by kernel_rfl) (fun _ _ _ h => h) (Or.inr ⟨rfl, rfl⟩) hHeld ?_;try simp only [Act.put, List.setIfInBounds_toArray, List.set_cons_zero, List.set_cons_succ]
 refine' wpAnyH_take (i := 18) (oi := ⟨_, _, _, _, _, _⟩) (v := undef) rfl (by kernel_rfl) (by kernel_rfl) (by kernel_rfl) (fun _ _ _ h => h) (Or.inr ⟨rfl, rfl⟩) hHeld ?_;try simp only [Act.put, List.setIfInBounds_toArray, List.set_cons_zero, List.set_cons_succ]
 refine' wpAnyH_take (i := 19) (oi := ⟨_, _, _, _, _, _⟩) (v := undef) rfl (by kernel_rfl) (by kernel_rfl) (by kernel_rfl) (fun _ _ _ h => h) (Or.inr ⟨rfl, rfl⟩) hHeld ?_;try simp only [Act.put, List.setIfInBounds_toArray, List.set_cons_zero, List.set_cons_succ]
 iterate 2
  first | refine' tkH 20 rfl hHeld rfl ?_ ?_ | refine' tkH 21 rfl hHeld rfl ?_ ?_
  rotate_left
  ·(intro W' hW; (try dsimp only at hW); obtain ⟨z0, z1, z2, z3⟩ := hW; go_simp; (try with_reducible rfl))
  try simp only [Act.put, List.setIfInBounds_toArray, List.set_cons_zero, List.set_cons_succ]
 refine' wpAnyH_take (i := 22) (oi := ⟨_, _, _, _, _, _⟩) (v := undef) rfl (by kernel_rfl) (by kernel_rfl) (by kernel_rfl) (fun _ _ _ h => h) (Or.inr ⟨rfl, rfl⟩) hHeld ?_;try simp only [Act.put, List.setIfInBounds_toArray, List.set_cons_zero, List.set_cons_succ]
 refine' wpAnyH_take (i := 23) (oi := ⟨_, _, _, _, _, _⟩) (v := undef) rfl (by kernel_rfl) (by kernel_rfl) (by kernel_rfl) (fun _ _ _ h => h) (Or.inr ⟨rfl, rfl⟩) hHeld ?_;try simp only [Act.put, List.setIfInBounds_toArray, List.set_cons_zero, List.set_cons_succ]
 refine' wpAnyH_take (i := 24) (oi := ⟨_, _, _, _, _, _⟩) (v := undef) rfl (by kernel_rfl) (by kernel_rfl) (by kernel_rfl) (fun _ _ _ h => h) (Or.inr ⟨rfl, rfl⟩) hHeld ?_;try simp only [Act.put, List.setIfInBounds_toArray, List.set_cons_zero, List.set_cons_succ]
 refine' wpAnyH_take (i := 25) (oi := ⟨_, _, _, _, _, _⟩) (v := undef) rfl (by kernel_rfl) (by kernel_rfl) (by kernel_rfl) (fun _ _ _ h => h) (Or.inr ⟨rfl, rfl⟩) hHeld ?_;try simp only [Act.put, List.setIfInBounds_toArray, List.set_cons_zero, List.set_cons_succ]
 refine' wpAnyH_take (i := 26) (oi := ⟨_, _, _, _, _, _⟩) (v := undef) rfl (by kernel_rfl) (by kernel_rfl) (by kernel_rfl) (fun _ _ _ h => h) (Or.inr ⟨rfl, rfl⟩) hHeld ?_;try simp only [Act.put, List.setIfInBounds_toArray, List.set_cons_zero, List.set_cons_succ]
 refine' wpAnyH_take (i := 27) (oi := ⟨_, _, _, _, _, _⟩) (v := undef) rfl (by kernel_rfl) (by kernel_rfl) (by kernel_rfl) (fun _ _ _ h => h) (Or.inr ⟨rfl, rfl⟩) hHeld ?_;try simp only [Act.put, List.setIfInBounds_toArray, List.set_cons_zero, List.set_cons_succ]
 refine' wpAnyH_take (i := 28) (oi := ⟨_, _, _, _, _, _⟩) (v := undef) rfl (by kernel_rfl) (by kernel_rfl) (by kernel_rfl) (fun _ _ _ h => h) (Or.inr ⟨rfl, rfl⟩) hHeld ?_;try simp only [Act.put, List.setIfInBounds_toArray, List.set_cons_zero, List.set_cons_succ]
 refine' tkH 29 rfl hHeld rfl ?_ ?_;rotate_left
 ·(intro W' hW; (try dsimp only at hW); obtain ⟨z0, z1, z2, z3⟩ := hW; go_simp; (try with_reducible rfl))
 try simp only [Act.put, List.setIfInBounds_toArray, List.set_cons_zero, List.set_cons_succ]
 refine wpAnyH_done (by kernel_rfl) ?_ _;clear hHeld;clear NU;go_wp2_with fail
 go_ret;exact ⟨rfl, KU.out⟩
set_option maxRecDepth 100000 in
set_option maxHeartbeats 6400000 in
theorem meant_low {S : Nat -> Prop} {r : Nat} {N : Nd} (h : NdS w S r d l room N M L) (f : Int) (nid : Nat) (A : Option Addr) (n c : Nat) (D : Option Addr) (m dc : Nat) (zs : List Int) (hn : zs.length = n) (hN : RdI w A zs) (hid : nid = N.id) (hf : f < 0) :
  Calls Tryz.prog 20 #[.pointer (some ⟨r, 0, none⟩), .agg #[.int .i64 f, .int .i64 (nid : Int), .int .i64 1, .slice A n c, .slice D m dc]] w fun e w' => e = .returned (.bool false) /\ Below w.heap.size w w' := by
 have ka := below_alloc w (.cells #[.int .i64 f, .int .i64 (nid : Int), .int .i64 1, .slice A n c, .slice D m dc] 34);have bg := Blk.new w (B := 0) 34 #[.int .i64 f, .int .i64 (nid : Int), .int .i64 1, .slice A n c, .slice D m dc] (Nat.zero_le _);obtain ⟨q, hq⟩ : ∃ q, q = w.heap.size := ⟨_, rfl⟩;obtain ⟨W, hW⟩ : ∃ W, W = w.alloc (.cells #[.int .i64 f, .int .i64 (nid : Int), .int .i64 1, .slice A n c, .slice D m dc] 34) := ⟨_, rfl⟩;have HN0 := h.below ka;have NN := hN.below ka;rw [<- hW] at ka bg HN0 NN;rw [<- hq] at bg;have x0 : W.cell? ⟨q, 0, none⟩ = some (.int .i64 f) := bg.cell 0;have x1 : W.cell? ⟨q, 1, none⟩ = some (.int .i64 (nid : Int)) := bg.cell 1;have x2 : W.cell? ⟨q, 2, none⟩ = some (.int .i64 1) := bg.cell 2;have x3 : W.cell? ⟨q, 3, none⟩ = some (.slice A n c) := bg.cell 3;have r0 : W.cell? ⟨r, 0, none⟩ = some (.int .i64 (N.id : Int)) := nds_cell HN0 0;have r1 : W.cell? ⟨r, 1, none⟩ = some (.int .i64 (N.n : Int)) := nds_cell HN0 1;obtain ⟨nn, hnn⟩ : ∃ z, z = N.n := ⟨_, rfl⟩;rw [<- hid] at r0;rw [<- hnn] at r1;have hnn2 : (N.n : Int) = (nn : Int) := by rw [hnn]
 have KA := hide ka;have HN2 := hide hn;have hfz : ((f : Int) == (nid : Int)) = false := by simp; omega
 have hf4 : decide (f < 0) = true := by simp; exact hf
 clear hf h hN hid hnn hnn2 bg HN0 ka hn;go_enter Tryz.func20, Tryz.ntmps20;go_wp2_with fail
 rw [<- hW, <- hq];clear hW hq;refine heldT_top (fun W' : World => W'.cell? ⟨q, 0, none⟩ = some (.int .i64 f) /\ W'.cell? ⟨q, 1, none⟩ = some (.int .i64 (nid : Int)) /\ W'.cell? ⟨r, 0, none⟩ = some (.int .i64 (nid : Int)) /\ W'.cell? ⟨r, 1, none⟩ = some (.int .i64 (nn : Int))) 30 #[false, false, false, false, false, false, false, false, false, false, false, false, false, false, false, false, false, false, false, false, false, false, false, false, false, false, false, false, false, false] (by kernel_rfl) (by kernel_rfl) (by kernel_rfl) ?_;have hHeld : (fun W' : World => W'.cell? ⟨q, 0, none⟩ = some (.int .i64 f) /\ W'.cell? ⟨q, 1, none⟩ = some (.int .i64 (nid : Int)) /\ W'.cell? ⟨r, 0, none⟩ = some (.int .i64 (nid : Int)) /\ W'.cell? ⟨r, 1, none⟩ = some (.int .i64 (nn : Int))) (W.drewN 1) := ⟨x0, x1, r0, r1⟩;have KU := hide (KA.out.trans ((below_drewN (Below.refl W.heap.size W) 1).mono KA.out.size));have x2' : (W.drewN 1).cell? ⟨q, 2, none⟩ = some (.int .i64 1) := x2;have x3' : (W.drewN 1).cell? ⟨q, 3, none⟩ = some (.slice A n c) := x3;have NU : RdI (W.drewN 1) A zs := NN;clear x0 x1 x2 x3 r0 r1 KA NN;change wpAnyH _ _ _ _ _ _ _ _ (W.drewN 1);generalize W.drewN 1 = U at *
 iterate 22
  first | refine' tkH 0 rfl hHeld rfl ?_ ?_ | refine' tkH 1 rfl hHeld rfl ?_ ?_ | refine' tkH 2 rfl hHeld rfl ?_ ?_ | refine' tkH 3 rfl hHeld rfl ?_ ?_ | refine' tkH 4 rfl hHeld rfl ?_ ?_ | refine' tkH 5 rfl hHeld rfl ?_ ?_ | refine' tkH 6 rfl hHeld rfl ?_ ?_ | refine' tkH 7 rfl hHeld rfl ?_ ?_ | refine' tkH 8 rfl hHeld rfl ?_ ?_ | refine' tkH 9 rfl hHeld rfl ?_ ?_ | refine' tkH 10 rfl hHeld rfl ?_ ?_ | refine' tkH 11 rfl hHeld rfl ?_ ?_ | refine' tkH 12 rfl hHeld rfl ?_ ?_ | refine' tkH 13 rfl hHeld rfl ?_ ?_ | refine' tkH 14 rfl hHeld rfl ?_ ?_ | refine' tkH 15 rfl hHeld rfl ?_ ?_ | refine' tkH 16 rfl hHeld rfl ?_ ?_ | refine' tkH 17 rfl hHeld rfl ?_ ?_ | refine' tkH 18 rfl hHeld rfl ?_ ?_ | refine' tkH 19 rfl hHeld rfl ?_ ?_ | refine' tkH 20 rfl hHeld rfl ?_ ?_ | refine' tkH 21 rfl hHeld rfl ?_ ?_
  rotate_left
  ·(intro W' hW; (try dsimp only at hW); obtain ⟨z0, z1, z2, z3⟩ := hW; go_simp; (try with_reducible rfl))
  try simp only [Act.put, List.setIfInBounds_toArray, List.set_cons_zero, List.set_cons_succ]
 refine' wpAnyH_take (i := 22) (oi := ⟨_, _, _, _, _, _⟩) (v := undef) rfl (by kernel_rfl) (by kernel_rfl) (by kernel_rfl) (fun _ _ _ h => h) (Or.inr ⟨rfl, rfl⟩) hHeld ?_;try simp only [Act.put, List.setIfInBounds_toArray, List.set_cons_zero, List.set_cons_succ]
 refine' wpAnyH_take (i := 23) (oi := ⟨_, _, _, _, _, _⟩) (v := undef) rfl (by kernel_rfl) (by kernel_rfl) (by kernel_rfl) (fun _ _ _ h => h) (Or.inr ⟨rfl, rfl⟩) hHeld ?_;try simp only [Act.put, List.setIfInBounds_toArray, List.set_cons_zero, List.set_cons_succ]
 refine' wpAnyH_take (i := 24) (oi := ⟨_, _, _, _, _, _⟩) (v := undef) rfl (by kernel_rfl) (by kernel_rfl) (by kernel_rfl) (fun _ _ _ h => h) (Or.inr ⟨rfl, rfl⟩) hHeld ?_;try simp only [Act.put, List.setIfInBounds_toArray, List.set_cons_zero, List.set_cons_succ]
 refine' wpAnyH_take (i := 25) (oi := ⟨_, _, _, _, _, _⟩) (v := undef) rfl (by kernel_rfl) (by kernel_rfl) (by kernel_rfl) (fun _ _ _ h => h) (Or.inr ⟨rfl, rfl⟩) hHeld ?_;try simp only [Act.put, List.setIfInBounds_toArray, List.set_cons_zero, List.set_cons_succ]
 refine' wpAnyH_take (i := 26) (oi := ⟨_, _, _, _, _, _⟩) (v := undef) rfl (by kernel_rfl) (by kernel_rfl) (by kernel_rfl) (fun _ _ _ h => h) (Or.inr ⟨rfl, rfl⟩) hHeld ?_;try simp only [Act.put, List.setIfInBounds_toArray, List.set_cons_zero, List.set_cons_succ]
 refine' wpAnyH_take (i := 27) (oi := ⟨_, _, _, _, _, _⟩) (v := undef) rfl (by kernel_rfl) (by kernel_rfl) (by kernel_rfl) (fun _ _ _ h => h) (Or.inr ⟨rfl, rfl⟩) hHeld ?_;try simp only [Act.put, List.setIfInBounds_toArray, List.set_cons_zero, List.set_cons_succ]
 refine' wpAnyH_take (i := 28) (oi := ⟨_, _, _, _, _, _⟩) (v := undef) rfl (by kernel_rfl) (by kernel_rfl) (by kernel_rfl) (fun _ _ _ h => h) (Or.inr ⟨rfl, rfl⟩) hHeld ?_;try simp only [Act.put, List.setIfInBounds_toArray, List.set_cons_zero, List.set_cons_succ]
 refine' tkH 29 rfl hHeld rfl ?_ ?_;rotate_left
 ·(intro W' hW; (try dsimp only at hW); obtain ⟨z0, z1, z2, z3⟩ := hW; go_simp; (try with_reducible rfl))
 try simp only [Act.put, List.setIfInBounds_toArray, List.set_cons_zero, List.set_cons_succ]
 refine wpAnyH_done (by kernel_rfl) ?_ _;clear hHeld;clear NU;go_wp2_with fail
 go_ret;exact ⟨rfl, KU.out⟩
set_option maxRecDepth 100000 in
set_option maxHeartbeats 6400000 in
theorem meant_high {S : Nat -> Prop} {r : Nat} {N : Nd} (h : NdS w S r d l room N M L) (f : Int) (nid : Nat) (A : Option Addr) (n c : Nat) (D : Option Addr) (m dc : Nat) (zs : List Int) (hn : zs.length = n) (hN : RdI w A zs) (hid : nid = N.id) (hf : f ≠ (nid : Int) /\ 0 <= f /\ (N.n : Int) <= f) :
  Calls Tryz.prog 20 #[.pointer (some ⟨r, 0, none⟩), .agg #[.int .i64 f, .int .i64 (nid : Int), .int .i64 1, .slice A n c, .slice D m dc]] w fun e w' => e = .returned (.bool false) /\ Below w.heap.size w w' := by
 have ka := below_alloc w (.cells #[.int .i64 f, .int .i64 (nid : Int), .int .i64 1, .slice A n c, .slice D m dc] 34);have bg := Blk.new w (B := 0) 34 #[.int .i64 f, .int .i64 (nid : Int), .int .i64 1, .slice A n c, .slice D m dc] (Nat.zero_le _);obtain ⟨q, hq⟩ : ∃ q, q = w.heap.size := ⟨_, rfl⟩;obtain ⟨W, hW⟩ : ∃ W, W = w.alloc (.cells #[.int .i64 f, .int .i64 (nid : Int), .int .i64 1, .slice A n c, .slice D m dc] 34) := ⟨_, rfl⟩;have HN0 := h.below ka;have NN := hN.below ka;rw [<- hW] at ka bg HN0 NN;rw [<- hq] at bg;have x0 : W.cell? ⟨q, 0, none⟩ = some (.int .i64 f) := bg.cell 0;have x1 : W.cell? ⟨q, 1, none⟩ = some (.int .i64 (nid : Int)) := bg.cell 1;have x2 : W.cell? ⟨q, 2, none⟩ = some (.int .i64 1) := bg.cell 2;have x3 : W.cell? ⟨q, 3, none⟩ = some (.slice A n c) := bg.cell 3;have r0 : W.cell? ⟨r, 0, none⟩ = some (.int .i64 (N.id : Int)) := nds_cell HN0 0;have r1 : W.cell? ⟨r, 1, none⟩ = some (.int .i64 (N.n : Int)) := nds_cell HN0 1;obtain ⟨nn, hnn⟩ : ∃ z, z = N.n := ⟨_, rfl⟩;rw [<- hid] at r0;rw [<- hnn] at r1;have hnn2 : (N.n : Int) = (nn : Int) := by rw [hnn]
 rw [hnn2] at hf;have KA := hide ka;have HN2 := hide hn;have hfz : ((f : Int) == (nid : Int)) = false := by simp; exact hf.1
 have hf4 : decide (f < 0) = false := by simp; omega
 have hf5 : decide ((nn : Int) <= f) = true := by simp; omega
 clear hf h hN hid hnn hnn2 bg HN0 ka hn;go_enter Tryz.func20, Tryz.ntmps20;go_wp2_with fail
 rw [<- hW, <- hq];clear hW hq;refine heldT_top (fun W' : World => W'.cell? ⟨q, 0, none⟩ = some (.int .i64 f) /\ W'.cell? ⟨q, 1, none⟩ = some (.int .i64 (nid : Int)) /\ W'.cell? ⟨r, 0, none⟩ = some (.int .i64 (nid : Int)) /\ W'.cell? ⟨r, 1, none⟩ = some (.int .i64 (nn : Int))) 30 #[false, false, false, false, false, false, false, false, false, false, false, false, false, false, false, false, false, false, false, false, false, false, false, false, false, false, false, false, false, false] (by kernel_rfl) (by kernel_rfl) (by kernel_rfl) ?_;have hHeld : (fun W' : World => W'.cell? ⟨q, 0, none⟩ = some (.int .i64 f) /\ W'.cell? ⟨q, 1, none⟩ = some (.int .i64 (nid : Int)) /\ W'.cell? ⟨r, 0, none⟩ = some (.int .i64 (nid : Int)) /\ W'.cell? ⟨r, 1, none⟩ = some (.int .i64 (nn : Int))) (W.drewN 1) := ⟨x0, x1, r0, r1⟩;have KU := hide (KA.out.trans ((below_drewN (Below.refl W.heap.size W) 1).mono KA.out.size));have x2' : (W.drewN 1).cell? ⟨q, 2, none⟩ = some (.int .i64 1) := x2;have x3' : (W.drewN 1).cell? ⟨q, 3, none⟩ = some (.slice A n c) := x3;have NU : RdI (W.drewN 1) A zs := NN;clear x0 x1 x2 x3 r0 r1 KA NN;change wpAnyH _ _ _ _ _ _ _ _ (W.drewN 1);generalize W.drewN 1 = U at *
 iterate 30
  first | refine' tkH 0 rfl hHeld rfl ?_ ?_ | refine' tkH 1 rfl hHeld rfl ?_ ?_ | refine' tkH 2 rfl hHeld rfl ?_ ?_ | refine' tkH 3 rfl hHeld rfl ?_ ?_ | refine' tkH 4 rfl hHeld rfl ?_ ?_ | refine' tkH 5 rfl hHeld rfl ?_ ?_ | refine' tkH 6 rfl hHeld rfl ?_ ?_ | refine' tkH 7 rfl hHeld rfl ?_ ?_ | refine' tkH 8 rfl hHeld rfl ?_ ?_ | refine' tkH 9 rfl hHeld rfl ?_ ?_ | refine' tkH 10 rfl hHeld rfl ?_ ?_ | refine' tkH 11 rfl hHeld rfl ?_ ?_ | refine' tkH 12 rfl hHeld rfl ?_ ?_ | refine' tkH 13 rfl hHeld rfl ?_ ?_ | refine' tkH 14 rfl hHeld rfl ?_ ?_ | refine' tkH 15 rfl hHeld rfl ?_ ?_ | refine' tkH 16 rfl hHeld rfl ?_ ?_ | refine' tkH 17 rfl hHeld rfl ?_ ?_ | refine' tkH 18 rfl hHeld rfl ?_ ?_ | refine' tkH 19 rfl hHeld rfl ?_ ?_ | refine' tkH 20 rfl hHeld rfl ?_ ?_ | refine' tkH 21 rfl hHeld rfl ?_ ?_ | refine' tkH 22 rfl hHeld rfl ?_ ?_ | refine' tkH 23 rfl hHeld rfl ?_ ?_ | refine' tkH 24 rfl hHeld rfl ?_ ?_ | refine' tkH 25 rfl hHeld rfl ?_ ?_ | refine' tkH 26 rfl hHeld rfl ?_ ?_ | refine' tkH 27 rfl hHeld rfl ?_ ?_ | refine' tkH 28 rfl hHeld rfl ?_ ?_ | refine' tkH 29 rfl hHeld rfl ?_ ?_
  rotate_left
  ·(intro W' hW; (try dsimp only at hW); obtain ⟨z0, z1, z2, z3⟩ := hW; go_simp; (try with_reducible rfl))
  try simp only [Act.put, List.setIfInBounds_toArray, List.set_cons_zero, List.set_cons_succ]
 refine wpAnyH_done (by kernel_rfl) ?_ _;clear hHeld;clear NU;go_wp2_with fail
 go_ret;exact ⟨rfl, KU.out⟩
set_option maxRecDepth 100000 in
set_option maxHeartbeats 6400000 in
theorem meant_in {S : Nat -> Prop} {r : Nat} {N : Nd} (h : NdS w S r d l room N M L) (f : Int) (nid : Nat) (A : Option Addr) (n c : Nat) (D : Option Addr) (m dc : Nat) (zs : List Int) (hn : zs.length = n) (hN : RdI w A zs) (hn9 : n <= 1099511627776) (hid : nid = N.id) (hf : f ≠ (nid : Int) /\ 0 <= f /\ f < (N.n : Int)) :
  Calls Tryz.prog 20 #[.pointer (some ⟨r, 0, none⟩), .agg #[.int .i64 f, .int .i64 (nid : Int), .int .i64 1, .slice A n c, .slice D m dc]] w fun e w' => e = .returned (.bool (decide (okN zs /\ n = 3))) /\ Below w.heap.size w w' := by
 obtain ⟨ans, hans⟩ : ∃ b, b = decide (okN zs /\ n = 3) := ⟨_, rfl⟩;rw [<- hans];have HANS := hide hans;clear hans;have ka := below_alloc w (.cells #[.int .i64 f, .int .i64 (nid : Int), .int .i64 1, .slice A n c, .slice D m dc] 34);have bg := Blk.new w (B := 0) 34 #[.int .i64 f, .int .i64 (nid : Int), .int .i64 1, .slice A n c, .slice D m dc] (Nat.zero_le _);obtain ⟨q, hq⟩ : ∃ q, q = w.heap.size := ⟨_, rfl⟩;obtain ⟨W, hW⟩ : ∃ W, W = w.alloc (.cells #[.int .i64 f, .int .i64 (nid : Int), .int .i64 1, .slice A n c, .slice D m dc] 34) := ⟨_, rfl⟩;have HN0 := h.below ka;have NN := hN.below ka;rw [<- hW] at ka bg HN0 NN;rw [<- hq] at bg;have x0 : W.cell? ⟨q, 0, none⟩ = some (.int .i64 f) := bg.cell 0;have x1 : W.cell? ⟨q, 1, none⟩ = some (.int .i64 (nid : Int)) := bg.cell 1;have x2 : W.cell? ⟨q, 2, none⟩ = some (.int .i64 1) := bg.cell 2;have x3 : W.cell? ⟨q, 3, none⟩ = some (.slice A n c) := bg.cell 3;have r0 : W.cell? ⟨r, 0, none⟩ = some (.int .i64 (N.id : Int)) := nds_cell HN0 0;have r1 : W.cell? ⟨r, 1, none⟩ = some (.int .i64 (N.n : Int)) := nds_cell HN0 1;obtain ⟨nn, hnn⟩ : ∃ z, z = N.n := ⟨_, rfl⟩;rw [<- hid] at r0;rw [<- hnn] at r1;have hnn2 : (N.n : Int) = (nn : Int) := by rw [hnn]
 rw [hnn2] at hf;have KA := hide ka;have HN2 := hide hn;have hfz : ((f : Int) == (nid : Int)) = false := by simp; exact hf.1
 have hf4 : decide (f < 0) = false := by simp; omega
 have hf5 : decide ((nn : Int) <= f) = false := by simp; omega
 clear hf h hN hid hnn hnn2 bg HN0 ka hn;go_enter Tryz.func20, Tryz.ntmps20;go_wp2_with fail
 rw [<- hW, <- hq];clear hW hq;refine heldT_top (fun W' : World => W'.cell? ⟨q, 0, none⟩ = some (.int .i64 f) /\ W'.cell? ⟨q, 1, none⟩ = some (.int .i64 (nid : Int)) /\ W'.cell? ⟨r, 0, none⟩ = some (.int .i64 (nid : Int)) /\ W'.cell? ⟨r, 1, none⟩ = some (.int .i64 (nn : Int))) 30 #[false, false, false, false, false, false, false, false, false, false, false, false, false, false, false, false, false, false, false, false, false, false, false, false, false, false, false, false, false, false] (by kernel_rfl) (by kernel_rfl) (by kernel_rfl) ?_;have hHeld : (fun W' : World => W'.cell? ⟨q, 0, none⟩ = some (.int .i64 f) /\ W'.cell? ⟨q, 1, none⟩ = some (.int .i64 (nid : Int)) /\ W'.cell? ⟨r, 0, none⟩ = some (.int .i64 (nid : Int)) /\ W'.cell? ⟨r, 1, none⟩ = some (.int .i64 (nn : Int))) (W.drewN 1) := ⟨x0, x1, r0, r1⟩;have KU := hide (KA.out.trans ((below_drewN (Below.refl W.heap.size W) 1).mono KA.out.size));have x2' : (W.drewN 1).cell? ⟨q, 2, none⟩ = some (.int .i64 1) := x2;have x3' : (W.drewN 1).cell? ⟨q, 3, none⟩ = some (.slice A n c) := x3;have NU : RdI (W.drewN 1) A zs := NN;clear x0 x1 x2 x3 r0 r1 KA NN;change wpAnyH _ _ _ _ _ _ _ _ (W.drewN 1);generalize W.drewN 1 = U at *
 iterate 30
  first | refine' tkH 0 rfl hHeld rfl ?_ ?_ | refine' tkH 1 rfl hHeld rfl ?_ ?_ | refine' tkH 2 rfl hHeld rfl ?_ ?_ | refine' tkH 3 rfl hHeld rfl ?_ ?_ | refine' tkH 4 rfl hHeld rfl ?_ ?_ | refine' tkH 5 rfl hHeld rfl ?_ ?_ | refine' tkH 6 rfl hHeld rfl ?_ ?_ | refine' tkH 7 rfl hHeld rfl ?_ ?_ | refine' tkH 8 rfl hHeld rfl ?_ ?_ | refine' tkH 9 rfl hHeld rfl ?_ ?_ | refine' tkH 10 rfl hHeld rfl ?_ ?_ | refine' tkH 11 rfl hHeld rfl ?_ ?_ | refine' tkH 12 rfl hHeld rfl ?_ ?_ | refine' tkH 13 rfl hHeld rfl ?_ ?_ | refine' tkH 14 rfl hHeld rfl ?_ ?_ | refine' tkH 15 rfl hHeld rfl ?_ ?_ | refine' tkH 16 rfl hHeld rfl ?_ ?_ | refine' tkH 17 rfl hHeld rfl ?_ ?_ | refine' tkH 18 rfl hHeld rfl ?_ ?_ | refine' tkH 19 rfl hHeld rfl ?_ ?_ | refine' tkH 20 rfl hHeld rfl ?_ ?_ | refine' tkH 21 rfl hHeld rfl ?_ ?_ | refine' tkH 22 rfl hHeld rfl ?_ ?_ | refine' tkH 23 rfl hHeld rfl ?_ ?_ | refine' tkH 24 rfl hHeld rfl ?_ ?_ | refine' tkH 25 rfl hHeld rfl ?_ ?_ | refine' tkH 26 rfl hHeld rfl ?_ ?_ | refine' tkH 27 rfl hHeld rfl ?_ ?_ | refine' tkH 28 rfl hHeld rfl ?_ ?_ | refine' tkH 29 rfl hHeld rfl ?_ ?_
  rotate_left
  ·(intro W' hW; (try dsimp only at hW); obtain ⟨z0, z1, z2, z3⟩ := hW; go_simp; (try with_reducible rfl))
  try simp only [Act.put, List.setIfInBounds_toArray, List.set_cons_zero, List.set_cons_succ]
 refine wpAnyH_done (by kernel_rfl) ?_ _;clear hHeld;have AR := hide (are_any A n c zs U 3 HN2.out NU hn9);rw [<- HANS.out] at AR;clear NU;go_wp2_with fail
 refine Calls.mono (show Calls Tryz.prog 44 #[.slice A n c, .int .i64 3] U _ from AR.out) ?_;rintro e w1 ⟨rfl, rfl⟩;go_wp2_with fail
 go_ret;exact ⟨rfl, KU.out⟩
set_option maxRecDepth 100000 in
theorem rend_bad (g : Nat) (A : Option Addr) (m c : Nat) (w : World) (hm : 1 <= m) (hB : RdrB w g A m c 0) :
  Calls Tryz.prog 37 #[.pointer (some ⟨g, 0, none⟩)] w fun e w' => e = .returned (.int .i64 3) /\ Turn (fun j => j = g) w w' := by
 have q0 : w.cell? ⟨g, 0, none⟩ = some (.slice A m c) := hB.cell 0;have q1 : w.cell? ⟨g, 1, none⟩ = some (.int .i64 0) := hB.cell 1;have f1 := hB.frozen 1;have hm0 : decide ((0 : Int) < (m : Int)) = true := by simp; omega
 have hm1 : (0 : Int) < (m : Int) := by omega
 have hm2 : decide (0 < m) = true := by simp; omega
 have HB := hide hB;clear hB;have HG : Hid (Calls Tryz.prog 45 #[.pointer (some ⟨g, 0, none⟩)] w fun e w' => e = .returned (.bool true) /\ w = w') := by
  refine hide ?_;go_enter Tryz.func45, Tryz.ntmps45;go_wp2_with fail
  go_ret;exact ⟨rfl, rfl⟩
 go_enter Tryz.func37, Tryz.ntmps37;go_wp2_with fail
 refine HG.out.mono ?_;rintro e w1 ⟨rfl, rfl⟩;go_wp2_with fail
 go_ret;exact ⟨rfl, box_turn0 w g 1 _⟩
set_option maxRecDepth 100000 in
set_option maxHeartbeats 1600000 in
theorem entries_votes (f t : Int) (A : Option Addr) (n c : Nat) (D : Option Addr) (m dc : Nat) (hm : 1 <= m) (w : World) :
  Calls Tryz.prog 21 #[.agg #[.int .i64 f, .int .i64 t, .int .i64 1, .slice A n c, .slice D m dc]] w fun e w' => e = .returned (.tuple #[.slice none 0 0, .int .i64 3]) /\ Below w.heap.size w w' := by
 have ka := below_alloc w (.cells #[.int .i64 f, .int .i64 t, .int .i64 1, .slice A n c, .slice D m dc] 34);have bg := Blk.new w (B := 0) 34 #[.int .i64 f, .int .i64 t, .int .i64 1, .slice A n c, .slice D m dc] (Nat.zero_le _);obtain ⟨q, hq⟩ : ∃ q, q = w.heap.size := ⟨_, rfl⟩;obtain ⟨W, hW⟩ : ∃ W, W = w.alloc (.cells #[.int .i64 f, .int .i64 t, .int .i64 1, .slice A n c, .slice D m dc] 34) := ⟨_, rfl⟩;have x4l : (w.alloc (.cells #[.int .i64 f, .int .i64 t, .int .i64 1, .slice A n c, .slice D m dc] 34)).cell? ⟨w.heap.size, 4, none⟩ = some (.slice D m dc) := bg.cell 4;rw [<- hW] at ka bg;rw [<- hq] at bg;have hqp : q + 1 = W.heap.size := by rw [hW, hq]; simp
 have kb := below_alloc W (.cells #[.slice D m dc, .int .i64 0] 84);have br := Blk.new W (B := 0) 84 #[.slice D m dc, .int .i64 0] (Nat.zero_le _);have b2 := bg.keep kb;obtain ⟨p, hp⟩ : ∃ p, p = W.heap.size := ⟨_, rfl⟩;obtain ⟨V, hV⟩ : ∃ V, V = W.alloc (.cells #[.slice D m dc, .int .i64 0] 84) := ⟨_, rfl⟩;rw [<- hV] at kb br b2;rw [<- hp] at br;have y2 : V.cell? ⟨q, 2, none⟩ = some (.int .i64 1) := b2.cell 2;have RE := hide (rend_bad p D m dc V hm br);have KV := hide (ka.trans (kb.mono ka.size));have HP : Hid (w.heap.size <= p) := hide (by rw [hp]; exact ka.size);clear ka bg kb br b2;go_enter Tryz.func21, Tryz.ntmps21;go_wp2_with fail
 rw [<- hW, <- hV, <- hq, hqp, <- hp];clear hW hq hV hp hqp x4l
 go_loopw [5] (fun l wr => l = .slice none 0 0 /\ wr = V) (fun _ _ => 1)
 case atStart => exact ⟨rfl, rfl⟩
 case round =>
  obtain ⟨rfl, rfl⟩ := hrel;go_wp2_with fail
  refine RE.out.mono ?_;rintro e w2 ⟨rfl, t2⟩;have K2 := hide (KV.out.trans (t2.below KV.out.size (fun k e => by rw [e]; exact HP.out)));clear t2;go_wp2_with fail
  go_ret2;exact ⟨rfl, K2.out⟩
set_option maxRecDepth 100000 in
set_option maxHeartbeats 1600000 in
theorem hear_unmeant {S : Nat -> Prop} {r : Nat} {N : Nd} (h : NdS w S r d l room N M L) (f t k draw : Int) (A : Option Addr) (n c : Nat) (D : Option Addr) (m dc : Nat)
  (hm : ∀ W, Below w.heap.size w W -> Calls Tryz.prog 20 #[.pointer (some ⟨r, 0, none⟩), .agg #[.int .i64 f, .int .i64 t, .int .i64 k, .slice A n c, .slice D m dc]] W fun e w' => e = .returned (.bool false) /\ Below W.heap.size W w') :
  Calls Tryz.prog 8 #[.pointer (some ⟨r, 0, none⟩), .agg #[.int .i64 f, .int .i64 t, .int .i64 k, .slice A n c, .slice D m dc], .int .i64 draw] w fun e w' => e = .returned (.slice none 0 0) /\ Below w.heap.size w w' := by
 have ka := below_alloc w (.cells #[.int .i64 f, .int .i64 t, .int .i64 k, .slice A n c, .slice D m dc] 34);have bg := Blk.new w (B := 0) 34 #[.int .i64 f, .int .i64 t, .int .i64 k, .slice A n c, .slice D m dc] (Nat.zero_le _);obtain ⟨q, hq⟩ : ∃ q, q = w.heap.size := ⟨_, rfl⟩;obtain ⟨W, hW⟩ : ∃ W, W = w.alloc (.cells #[.int .i64 f, .int .i64 t, .int .i64 k, .slice A n c, .slice D m dc] 34) := ⟨_, rfl⟩;rw [<- hW] at ka bg;rw [<- hq] at bg;have ST := hide (stopped_no (h.below ka));have ME := hide (hm W ka);have x0 : W.cell? ⟨q, 0, none⟩ = some (.int .i64 f) := bg.cell 0;have x1 : W.cell? ⟨q, 1, none⟩ = some (.int .i64 t) := bg.cell 1;have x2 : W.cell? ⟨q, 2, none⟩ = some (.int .i64 k) := bg.cell 2;have x3 : W.cell? ⟨q, 3, none⟩ = some (.slice A n c) := bg.cell 3;have x4 : W.cell? ⟨q, 4, none⟩ = some (.slice D m dc) := bg.cell 4;have KA := hide ka;clear h hm ka bg;go_enter Tryz.func8, Tryz.ntmps8;go_wp2_with fail
 rw [<- hW, <- hq];clear hW hq;refine ST.out.mono ?_;rintro e w0 ⟨rfl, rfl⟩;clear ST;go_wp2_with fail
 refine ME.out.mono ?_;rintro e w1 ⟨rfl, k1⟩;have K1 := hide (KA.out.trans (k1.mono KA.out.size));clear k1 ME;go_wp2_with fail
 go_ret;exact ⟨rfl, K1.out⟩
set_option maxRecDepth 100000 in
set_option maxHeartbeats 6400000 in
theorem hear_data {S : Nat -> Prop} {r : Nat} {N : Nd} (h : NdS w S r d l room N M L) (f t draw : Int) (A : Option Addr) (n c : Nat) (D : Option Addr) (m dc : Nat) (hm1 : 1 <= m)
  (hm : ∀ W, Below w.heap.size w W -> Calls Tryz.prog 20 #[.pointer (some ⟨r, 0, none⟩), .agg #[.int .i64 f, .int .i64 t, .int .i64 1, .slice A n c, .slice D m dc]] W fun e w' => e = .returned (.bool true) /\ Below W.heap.size W w') :
  Calls Tryz.prog 8 #[.pointer (some ⟨r, 0, none⟩), .agg #[.int .i64 f, .int .i64 t, .int .i64 1, .slice A n c, .slice D m dc], .int .i64 draw] w fun e w' => e = .returned (.slice none 0 0) /\ Below w.heap.size w w' := by
 have ka := below_alloc w (.cells #[.int .i64 f, .int .i64 t, .int .i64 1, .slice A n c, .slice D m dc] 34);have bg := Blk.new w (B := 0) 34 #[.int .i64 f, .int .i64 t, .int .i64 1, .slice A n c, .slice D m dc] (Nat.zero_le _);obtain ⟨q, hq⟩ : ∃ q, q = w.heap.size := ⟨_, rfl⟩;obtain ⟨W, hW⟩ : ∃ W, W = w.alloc (.cells #[.int .i64 f, .int .i64 t, .int .i64 1, .slice A n c, .slice D m dc] 34) := ⟨_, rfl⟩;rw [<- hW] at ka bg;rw [<- hq] at bg;have ST := hide (stopped_no (h.below ka));have ME := hide (hm W ka);have x0 : W.cell? ⟨q, 0, none⟩ = some (.int .i64 f) := bg.cell 0;have x1 : W.cell? ⟨q, 1, none⟩ = some (.int .i64 t) := bg.cell 1;have x2 : W.cell? ⟨q, 2, none⟩ = some (.int .i64 1) := bg.cell 2;have x3 : W.cell? ⟨q, 3, none⟩ = some (.slice A n c) := bg.cell 3;have x4 : W.cell? ⟨q, 4, none⟩ = some (.slice D m dc) := bg.cell 4;have KA := hide ka;have BG := hide bg;clear h hm ka bg;go_enter Tryz.func8, Tryz.ntmps8;go_wp2_with fail
 rw [<- hW, <- hq];clear hW hq;refine ST.out.mono ?_;rintro e w0 ⟨rfl, rfl⟩;clear ST;go_wp2_with fail
 refine ME.out.mono ?_;rintro e w1 ⟨rfl, k1⟩;have B1 := BG.out.keep k1;have y0 : w1.cell? ⟨q, 0, none⟩ = some (.int .i64 f) := B1.cell 0;have y1 : w1.cell? ⟨q, 1, none⟩ = some (.int .i64 t) := B1.cell 1;have y2 : w1.cell? ⟨q, 2, none⟩ = some (.int .i64 1) := B1.cell 2;have y3 : w1.cell? ⟨q, 3, none⟩ = some (.slice A n c) := B1.cell 3;have y4 : w1.cell? ⟨q, 4, none⟩ = some (.slice D m dc) := B1.cell 4;have K1 := hide (KA.out.trans (k1.mono KA.out.size));have BG := hide B1;have EN := hide (entries_votes f t A n c D m dc hm1 w1);clear k1 ME x0 x1 x2 x3 x4 B1;go_wp2_with fail
 refine EN.out.mono ?_;rintro e w2 ⟨rfl, k2⟩;have K2 := hide (K1.out.trans (k2.mono K1.out.size));have B2 := BG.out.keep k2;clear y0 y1 y2 y3 y4;have y3 : w2.cell? ⟨q, 3, none⟩ = some (.slice A n c) := B2.cell 3;clear k2 K1 EN B2;go_wp2_with fail
 refine heldT_top (fun W' : World => W'.cell? ⟨q, 3, none⟩ = some (.slice A n c)) 22 #[false, false, false, false, false, false, false, false, false, false, false, false, false, false, false, false, false, false, false, false, false, false] (by kernel_rfl) (by kernel_rfl) (by kernel_rfl) ?_;have hHeld : (fun W' : World => W'.cell? ⟨q, 3, none⟩ = some (.slice A n c)) (w2.drewN 1) := y3;have K2 := hide (K2.out.trans ((below_drewN (Below.refl w2.heap.size w2) 1).mono K2.out.size));clear y3;change wpAnyH _ _ _ _ _ _ _ _ (w2.drewN 1);generalize w2.drewN 1 = U at *
 iterate 3
  first | refine' tkH 0 rfl hHeld rfl ?_ ?_ | refine' tkH 1 rfl hHeld rfl ?_ ?_ | refine' tkH 2 rfl hHeld rfl ?_ ?_
  rotate_left
  ·(intro W' hW; (try dsimp only at hW); obtain z3' := hW; go_simp; (try with_reducible rfl))
  try simp only [Act.put, List.setIfInBounds_toArray, List.set_cons_zero, List.set_cons_succ]
 refine' wpAnyH_take (i := 3) (oi := ⟨_, _, _, _, _, _⟩) (v := undef) rfl (by kernel_rfl) (by kernel_rfl) (by kernel_rfl) (fun _ _ _ h => h) (Or.inr ⟨rfl, rfl⟩) hHeld ?_;try simp only [Act.put, List.setIfInBounds_toArray, List.set_cons_zero, List.set_cons_succ]
 refine' wpAnyH_take (i := 4) (oi := ⟨_, _, _, _, _, _⟩) (v := undef) rfl (by kernel_rfl) (by kernel_rfl) (by kernel_rfl) (fun _ _ _ h => h) (Or.inr ⟨rfl, rfl⟩) hHeld ?_;try simp only [Act.put, List.setIfInBounds_toArray, List.set_cons_zero, List.set_cons_succ]
 refine' wpAnyH_take (i := 5) (oi := ⟨_, _, _, _, _, _⟩) (v := undef) rfl (by kernel_rfl) (by kernel_rfl) (by kernel_rfl) (fun _ _ _ h => h) (Or.inr ⟨rfl, rfl⟩) hHeld ?_;try simp only [Act.put, List.setIfInBounds_toArray, List.set_cons_zero, List.set_cons_succ]
 refine' wpAnyH_take (i := 6) (oi := ⟨_, _, _, _, _, _⟩) (v := undef) rfl (by kernel_rfl) (by kernel_rfl) (by kernel_rfl) (fun _ _ _ h => h) (Or.inr ⟨rfl, rfl⟩) hHeld ?_;try simp only [Act.put, List.setIfInBounds_toArray, List.set_cons_zero, List.set_cons_succ]
 refine' wpAnyH_take (i := 7) (oi := ⟨_, _, _, _, _, _⟩) (v := undef) rfl (by kernel_rfl) (by kernel_rfl) (by kernel_rfl) (fun _ _ _ h => h) (Or.inr ⟨rfl, rfl⟩) hHeld ?_;try simp only [Act.put, List.setIfInBounds_toArray, List.set_cons_zero, List.set_cons_succ]
 refine' wpAnyH_take (i := 8) (oi := ⟨_, _, _, _, _, _⟩) (v := undef) rfl (by kernel_rfl) (by kernel_rfl) (by kernel_rfl) (fun _ _ _ h => h) (Or.inr ⟨rfl, rfl⟩) hHeld ?_;try simp only [Act.put, List.setIfInBounds_toArray, List.set_cons_zero, List.set_cons_succ]
 refine' wpAnyH_take (i := 9) (oi := ⟨_, _, _, _, _, _⟩) (v := undef) rfl (by kernel_rfl) (by kernel_rfl) (by kernel_rfl) (fun _ _ _ h => h) (Or.inr ⟨rfl, rfl⟩) hHeld ?_;try simp only [Act.put, List.setIfInBounds_toArray, List.set_cons_zero, List.set_cons_succ]
 refine' wpAnyH_take (i := 10) (oi := ⟨_, _, _, _, _, _⟩) (v := undef) rfl (by kernel_rfl) (by kernel_rfl) (by kernel_rfl) (fun _ _ _ h => h) (Or.inr ⟨rfl, rfl⟩) hHeld ?_;try simp only [Act.put, List.setIfInBounds_toArray, List.set_cons_zero, List.set_cons_succ]
 refine' wpAnyH_take (i := 11) (oi := ⟨_, _, _, _, _, _⟩) (v := undef) rfl (by kernel_rfl) (by kernel_rfl) (by kernel_rfl) (fun _ _ _ h => h) (Or.inr ⟨rfl, rfl⟩) hHeld ?_;try simp only [Act.put, List.setIfInBounds_toArray, List.set_cons_zero, List.set_cons_succ]
 refine' wpAnyH_take (i := 12) (oi := ⟨_, _, _, _, _, _⟩) (v := undef) rfl (by kernel_rfl) (by kernel_rfl) (by kernel_rfl) (fun _ _ _ h => h) (Or.inr ⟨rfl, rfl⟩) hHeld ?_;try simp only [Act.put, List.setIfInBounds_toArray, List.set_cons_zero, List.set_cons_succ]
 refine' wpAnyH_take (i := 13) (oi := ⟨_, _, _, _, _, _⟩) (v := undef) rfl (by kernel_rfl) (by kernel_rfl) (by kernel_rfl) (fun _ _ _ h => h) (Or.inr ⟨rfl, rfl⟩) hHeld ?_;try simp only [Act.put, List.setIfInBounds_toArray, List.set_cons_zero, List.set_cons_succ]
 refine' wpAnyH_take (i := 14) (oi := ⟨_, _, _, _, _, _⟩) (v := undef) rfl (by kernel_rfl) (by kernel_rfl) (by kernel_rfl) (fun _ _ _ h => h) (Or.inr ⟨rfl, rfl⟩) hHeld ?_;try simp only [Act.put, List.setIfInBounds_toArray, List.set_cons_zero, List.set_cons_succ]
 refine' wpAnyH_take (i := 15) (oi := ⟨_, _, _, _, _, _⟩) (v := undef) rfl (by kernel_rfl) (by kernel_rfl) (by kernel_rfl) (fun _ _ _ h => h) (Or.inr ⟨rfl, rfl⟩) hHeld ?_;try simp only [Act.put, List.setIfInBounds_toArray, List.set_cons_zero, List.set_cons_succ]
 refine' wpAnyH_take (i := 16) (oi := ⟨_, _, _, _, _, _⟩) (v := undef) rfl (by kernel_rfl) (by kernel_rfl) (by kernel_rfl) (fun _ _ _ h => h) (Or.inr ⟨rfl, rfl⟩) hHeld ?_;try simp only [Act.put, List.setIfInBounds_toArray, List.set_cons_zero, List.set_cons_succ]
 refine' wpAnyH_take (i := 17) (oi := ⟨_, _, _, _, _, _⟩) (v := undef) rfl (by kernel_rfl) (by kernel_rfl) (by kernel_rfl) (fun _ _ _ h => h) (Or.inr ⟨rfl, rfl⟩) hHeld ?_;try simp only [Act.put, List.setIfInBounds_toArray, List.set_cons_zero, List.set_cons_succ]
 refine' wpAnyH_take (i := 18) (oi := ⟨_, _, _, _, _, _⟩) (v := undef) rfl (by kernel_rfl) (by kernel_rfl) (by kernel_rfl) (fun _ _ _ h => h) (Or.inr ⟨rfl, rfl⟩) hHeld ?_;try simp only [Act.put, List.setIfInBounds_toArray, List.set_cons_zero, List.set_cons_succ]
 refine' wpAnyH_take (i := 19) (oi := ⟨_, _, _, _, _, _⟩) (v := undef) rfl (by kernel_rfl) (by kernel_rfl) (by kernel_rfl) (fun _ _ _ h => h) (Or.inr ⟨rfl, rfl⟩) hHeld ?_;try simp only [Act.put, List.setIfInBounds_toArray, List.set_cons_zero, List.set_cons_succ]
 refine' wpAnyH_take (i := 20) (oi := ⟨_, _, _, _, _, _⟩) (v := undef) rfl (by kernel_rfl) (by kernel_rfl) (by kernel_rfl) (fun _ _ _ h => h) (Or.inr ⟨rfl, rfl⟩) hHeld ?_;try simp only [Act.put, List.setIfInBounds_toArray, List.set_cons_zero, List.set_cons_succ]
 refine' tkH 21 rfl hHeld rfl ?_ ?_;rotate_left
 ·(intro W' hW; (try dsimp only at hW); obtain z3' := hW; go_simp; (try with_reducible rfl))
 try simp only [Act.put, List.setIfInBounds_toArray, List.set_cons_zero, List.set_cons_succ]
 refine wpAnyH_done (by kernel_rfl) ?_ _;clear hHeld;go_wp2_with fail
 go_ret;exact ⟨rfl, K2.out⟩
def oneD (p : List Nat) : DiskL := [(termK, (frameL p, (frameL p).length))]
theorem termK_ne : termK ≠ tildeL termK := tilde_ne termK
theorem termP_nil (p : List Nat) : termP p [] = oneD p := rfl
theorem termP_one (p q : List Nat) : termP p (oneD q) = oneD p := by
 unfold termP oneD;rw [del_other_one termK_ne];unfold putK delK;simp [insK]
theorem draft_nil {p : List Nat} (hp : p.length <= 1000) (hr : 10000 <= room) : (draftL room termK p []).2 = 0 := by
 refine draft_fit termK_len (by simp [delK]) ?_;have : usedL (delK (tildeL termK) ([] : DiskL)) = 0 := rfl;omega
theorem draft_one {p q : List Nat} (hp : p.length <= 1000) (hq : q.length <= 1000) (hr : 10000 <= room) : (draftL room termK p (oneD q)).2 = 0 := by
 have e : delK (tildeL termK) (oneD q) = oneD q := del_other_one termK_ne _;refine draft_fit termK_len (by rw [e]; simp [oneD]) ?_;rw [e];have : usedL (oneD q) = 8 + q.length := by
  unfold usedL oneD;simp [sumK, frame_len]
 omega
theorem term_one (t v1 : Nat) (h : t < 18446744073709551616) (h2 : v1 < 18446744073709551616) : TermD (oneD (numsL [t, v1])) t v1 := by
 refine .inr (load_one _ ?_);have := numsL_len [t, v1] (by intro z hz; simp at hz; omega);have : (numsL [t, v1]).length <= 20 := this;omega
theorem crash_oneD (z : Nat) (p : List Nat) : crashD z (oneD p) = oneD p := crash_whole z termK (frameL p)
theorem crash_nilD (z : Nat) : crashD z [] = [] := rfl
theorem open_oneD (p : List Nat) : (openR logK (oneD p)).log = ⟨[], 1, []⟩ /\ (openR logK (oneD p)).disk = oneD p := by
 have hn : numL logK termK = none := rfl;have e : openR logK (oneD p) = ⟨false, ⟨[], 1, []⟩, oneD p⟩ := by
  unfold openR oneD;simp only [List.map_cons, List.map_nil, List.foldl_cons, List.foldl_nil];unfold openStep;rw [hn]
 rw [e];exact ⟨rfl, rfl⟩
def noPeers : List Nat := [0, 0, 0, 0, 0, 0, 0, 0, 0, 0]
def ndNew (id n t v1 : Nat) (draw : Int) : Nd := ⟨id, n, t, (v1 : Int) - 1, 0, -1, 0, 0, waitOf draw, 0, noPeers⟩
theorem ropen_new (F4 G4 : Nat -> Prop) (w4 : World) (d l room id n t : Nat) (vz : Int) (M : LogL) (L1 : DiskL) (p : Pro w4 F4 G4 d l room logS ⟨M.segs, M.next, []⟩ (syncsL logK M.dirty L1)) (h1 : id < n) (h2 : n <= 5) :
  NdS (w4.alloc (.cells #[.int .i64 (id : Int), .int .i64 (n : Int), .pointer (some ⟨d, 0, none⟩), .pointer (some ⟨l, 0, none⟩), .int .i64 (t : Int), .int .i64 vz, .int .i64 0, .int .i64 (-1), .int .i64 0, .int .i64 0, .int .i64 0, .int .u64 0, .int .i64 0, .int .i64 0, .int .i64 0, .int .i64 0, .int .i64 0, .int .i64 0, .int .i64 0, .int .i64 0, .int .i64 0, .int .i64 0] 64)) (fun k => (F4 k \/ G4 k) \/ k = w4.heap.size) w4.heap.size d l room ⟨id, n, t, vz, 0, -1, 0, 0, 0, 0, noPeers⟩ ⟨M.segs, M.next, []⟩ (syncsL logK M.dirty L1) := by
 have hlow := p.low;refine ⟨F4, G4, ⟨Blk.new w4 (B := 0) _ _ (Nat.zero_le _), p.below (below_alloc w4 _), fun h => ?_, fun h => ?_, ⟨h1, h2, rfl⟩⟩, fun _ => Iff.rfl⟩
 ·have := hlow.1 _ h; omega
 ·have := hlow.2 _ h; omega
theorem ropen_next {F4 G4 : Nat -> Prop} (K : Below w.heap.size w w3) (t : Turn F w3 w4) (hf : ∀ k, F4 k -> F k \/ w3.heap.size <= k) (hg : ∀ k, G4 k -> w3.heap.size <= k) (kb : Below w4.heap.size w4 w5) : Next F w (fun k => (F4 k \/ G4 k) \/ k = w4.heap.size) w5 := by
 have h1 := K.size;have h2 := t.size;refine ⟨((Turn.of_below F K).trans t).trans (Turn.of_below F kb), ?_⟩;rintro k ((h | h) | h)
 ·exact (hf k h).elim .inl (fun h => .inr (by omega))
 ·exact .inr (Nat.le_trans h1 (hg k h))
 ·exact .inr (by omega)
set_option maxRecDepth 100000 in
set_option maxHeartbeats 3200000 in
theorem ropen_any (F : Nat -> Prop) (d room : Nat) (L : DiskL) (id n t v1 : Nat) (draw : Int) (w : World) (hD : DiskAt w F d room L) (hn : n = 1 \/ n = 3 \/ n = 5) (hid : id < n) (ht : TermD L t v1) (ht9 : t <= 9223372036854775807) (hv : v1 <= n) (h1 : firstL (openR logK L).log = 1) (hA : AllE (openR logK L).log) :
  Calls Tryz.prog 7 #[.int .i64 (id : Int), .int .i64 (n : Int), .pointer (some ⟨d, 0, none⟩), .int .i64 draw] w fun e w' => ∃ r l, e = .returned (.tuple #[.pointer (some ⟨r, 0, none⟩), .int .i64 0]) /\ ∃ S', NdS w' S' r d l room (ndNew id n t v1 draw) ⟨(openR logK L).log.segs, (openR logK L).log.next, []⟩ (syncsL logK (openR logK L).log.dirty (openR logK L).disk) /\ Next F w S' w' := by
 have LD := hide (rload_any F d room L n t v1 w hD ht ht9 hv (by omega));have HD := hide hD;have H1 := hide (And.intro h1 hA);have hn5 : n <= 5 := by omega
 have hidz : ¬ ((id : Int) < 0) := by omega
 have hidn : ¬ ((n : Int) <= (id : Int)) := by omega
 have hnn : ((n : Int) != 1) = false \/ ((n : Int) != 1) = true /\ (((n : Int) != 3) = false \/ ((n : Int) != 3) = true /\ ((n : Int) != 5) = false) := by
  rcases hn with rfl | rfl | rfl <;> simp
 have HID := hide (And.intro hid hn5);have HVW := hide (And.intro hv ht9);obtain ⟨vz, hvz⟩ : ∃ z : Int, z = (v1 : Int) - 1 := ⟨_, rfl⟩;rw [<- hvz] at LD;have HVZ := hide hvz;clear hD ht ht9 hv h1 hA hn hid hvz;have main : ∀ _ : Unit, Calls Tryz.prog 7 #[.int .i64 (id : Int), .int .i64 (n : Int), .pointer (some ⟨d, 0, none⟩), .int .i64 draw] w fun e w' => ∃ r l, e = .returned (.tuple #[.pointer (some ⟨r, 0, none⟩), .int .i64 0]) /\ ∃ S', NdS w' S' r d l room (ndNew id n t v1 draw) ⟨(openR logK L).log.segs, (openR logK L).log.next, []⟩ (syncsL logK (openR logK L).log.dirty (openR logK L).disk) /\ Next F w S' w' := by
  intro _;obtain ⟨M, hM⟩ : ∃ M, M = (openR logK L).log := ⟨_, rfl⟩;obtain ⟨L1, hL1⟩ : ∃ M, M = (openR logK L).disk := ⟨_, rfl⟩;have HML := hide (And.intro hM hL1);rw [<- hM, <- hL1];clear hM hL1;rcases hnn with h1 | ⟨h1, h3 | ⟨h3, h5⟩⟩
  all_goals (
   go_enter Tryz.func7, Tryz.ntmps7;go_wp2_with fail
   refine LD.out.mono ?_;rintro e w1 ⟨rfl, k1⟩;have D1 := hide (HD.out.below k1);have K1 := hide k1;clear k1 LD;go_wp2_with fail
   refine (copy_any F d room L w1 D1.out).mono ?_;rintro e w2 ⟨d2, Fc, rfl, dc, fc, kc⟩;have DC := hide dc;have FC := hide fc;have K2 := hide kc;have D2 := hide (D1.out.below kc);clear dc fc kc;go_wp2_with fail
   refine (rlogOf_any Fc d2 room L w2 DC.out H1.out.1 H1.out.2).mono ?_;rintro e w3 ⟨l3, rfl, F3, G3, _, t3, _, _⟩;have K3 : Hid (Below w1.heap.size w1 w3) := hide (K2.out.trans (t3.below K2.out.size FC.out));have D3 := hide (D1.out.below K3.out);clear t3 DC FC K2 D2;go_wp2_with fail
   refine (rlogOf_any F d room L w3 D3.out H1.out.1 H1.out.2).mono ?_;rintro e w4 ⟨l, rfl, F4, G4, p4, t4, hf4, hg4⟩;rw [<- HML.out.1, <- HML.out.2] at p4;have P4 := hide p4;have T4 := hide t4;have HF4 := hide hf4;have HG4 := hide hg4;clear p4 t4 hf4 hg4;go_wp2_with fail
   have kb := below_alloc w4 (.cells #[.int .i64 (id : Int), .int .i64 (n : Int), .pointer (some ⟨d, 0, none⟩), .pointer (some ⟨l, 0, none⟩), .int .i64 (t : Int), .int .i64 vz, .int .i64 0, .int .i64 (-1), .int .i64 0, .int .i64 0, .int .i64 0, .int .u64 0, .int .i64 0, .int .i64 0, .int .i64 0, .int .i64 0, .int .i64 0, .int .i64 0, .int .i64 0, .int .i64 0, .int .i64 0, .int .i64 0] 64);have br := Blk.new w4 (B := 0) 64 #[.int .i64 (id : Int), .int .i64 (n : Int), .pointer (some ⟨d, 0, none⟩), .pointer (some ⟨l, 0, none⟩), .int .i64 (t : Int), .int .i64 vz, .int .i64 0, .int .i64 (-1), .int .i64 0, .int .i64 0, .int .i64 0, .int .u64 0, .int .i64 0, .int .i64 0, .int .i64 0, .int .i64 0, .int .i64 0, .int .i64 0, .int .i64 0, .int .i64 0, .int .i64 0, .int .i64 0] (Nat.zero_le _);have hlow := P4.out.low;have NN := ropen_new F4 G4 w4 d l room id n t vz M L1 P4.out HID.out.1 HID.out.2;have nx : Next F w (fun k => (F4 k \/ G4 k) \/ k = w4.heap.size) _ := ropen_next (F4 := F4) (G4 := G4) (K1.out.trans (K3.out.mono K1.out.size)) T4.out HF4.out HG4.out kb;have NX := hide nx;have HN := hide NN;clear kb br hlow NN nx;refine (wait_anew HN.out draw).mono ?_;rintro e w5 ⟨rfl, d5, n5⟩;have D5 := hide d5;have N5 := hide (NX.out.trans n5);clear d5 n5;go_wp2_with fail
   go_ret2;refine ⟨w4.heap.size, l, rfl, _, ?_, N5.out⟩;unfold ndNew;rw [<- HVZ.out];exact D5.out)
 exact main ()
end Go.Proofs.YtedlibkkeegnaaaGreat
