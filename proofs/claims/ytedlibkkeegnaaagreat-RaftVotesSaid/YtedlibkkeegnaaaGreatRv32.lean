/- The contracts of isMeant, entriesOf, answer for a message whose numbers lie anywhere in a block. Condition: as each says. The contracts of isAsNew at an empty l -/
import Derived.Test.YtedlibkkeegnaaaGreatRv31
namespace Go.Proofs.YtedlibkkeegnaaaGreat
open Go.RowKit Go.Maps
variable {w w' : World} {L : DiskL} {M : LogL} {room l d g : Nat}
def OneT (w : World) (v : Value) (id f k : Int) (g n c : Nat) : Prop := ∃ b, v = .slice (some ⟨b, 0, none⟩) 1 1 /\ Blk w 0 34 b [.int .i64 id, .int .i64 f, .int .i64 k, .slice (some ⟨g, 0, none⟩) n c, .slice none 0 0]
def NumsO (w : World) (g o : Nat) (zs : List Int) : Prop := ∀ i (h : i < zs.length), w.cell? ⟨g, o + i, none⟩ = some (.int .i64 zs[i])
theorem NumsO.turn {S : Nat -> Prop} {o : Nat} {zs : List Int} (h : NumsO w g o zs) (t : Turn S w w') (hg : ¬ S g) : NumsO w' g o zs := fun i hi => by
 have h1 := h i hi;have hb := t.block g (cell_lt h1) hg;rw [<- h1];exact World.cell?_of_block hb
theorem NumsO.keep {o : Nat} {zs : List Int} (h : NumsO w g o zs) (k : Below w.heap.size w w') : NumsO w' g o zs := fun i hi => (k.cell (cell_lt (h i hi))).trans (h i hi)
set_option maxRecDepth 100000 in
theorem are_okO (g o c : Nat) (zs : List Int) (w : World) (n : Nat) (hn : zs.length = n) (hc : n <= c) (h : NumsO w g o zs) (hz : okN zs) (h9 : n <= 100) :
  Calls Tryz.prog 44 #[.slice (some ⟨g, o, none⟩) n c, .int .i64 (n : Int)] w fun e w' => e = .returned (.bool true) /\ w = w' := by
 have H := hide h;have HN := hide hn;have HZ := hide hz;clear h hn hz;go_enter Tryz.func44, Tryz.ntmps44;go_wp2_with fail
 go_loopw [6, 9] (fun _ i wr => ∃ j : Nat, j <= n /\ i = .int .i64 (j : Int) /\ wr = w) (fun _ i _ => n - (intOf i).toNat)
 case atStart => exact ⟨0, Nat.zero_le _, rfl, rfl⟩
 case round =>
  obtain ⟨j, hj, rfl, rfl⟩ := hrel;by_cases hlt : j < n
  ·have hjx : j < zs.length := by rw [HN.out]; exact hlt
   have hc0 := H.out j hjx;obtain ⟨z, hz⟩ : ∃ z, z = zs[j] := ⟨_, rfl⟩;obtain ⟨hz1, hz2⟩ := HZ.out z (by rw [hz]; exact List.getElem_mem hjx);rw [<- hz] at hc0;have hz3 : ¬ z < 0 := by omega
   have hz4 : ¬ 1099511627776 < z := by omega
   have hjz : (j : Int) < (n : Int) := by omega
   clear hz hjx;go_wp2_with fail
   go_roundw
   case rel => exact ⟨j + 1, by omega, by go_num, trivial⟩
   case measure => simp [intOf]; omega
  ·obtain rfl : j = n := by omega
   have hjz : ¬ (j : Int) < (j : Int) := by omega
   go_wp2_with fail
   go_ret;exact ⟨rfl, rfl⟩
def msgO (f t k : Int) (g o n c : Nat) (D : Option Addr) (m dc : Nat) : Value := .agg #[.int .i64 f, .int .i64 t, .int .i64 k, .slice (some ⟨g, o, none⟩) n c, .slice D m dc]
set_option maxRecDepth 100000 in
set_option maxHeartbeats 6400000 in
theorem meant_okO {S : Nat -> Prop} {r : Nat} {N : Nd} (h : NdS w S r d l room N M L) (f t k : Int) (g o n c : Nat) (D : Option Addr) (m dc : Nat) (zs : List Int) (hn : zs.length = n) (hc : n <= c) (hN : NumsO w g o zs) (hz : okN zs) (ht : t = (N.id : Int)) (hf1 : f ≠ (N.id : Int)) (hf2 : 0 <= f) (hf3 : f < (N.n : Int)) (hk : kindN k zs) :
  Calls Tryz.prog 20 #[.pointer (some ⟨r, 0, none⟩), msgO f t k g o n c D m dc] w fun e w' => e = .returned (.bool true) /\ Below w.heap.size w w' := by
 have ka := below_alloc w (.cells #[.int .i64 f, .int .i64 t, .int .i64 k, .slice (some ⟨g, o, none⟩) n c, .slice D m dc] 34);have bg := Blk.new w (B := 0) 34 #[.int .i64 f, .int .i64 t, .int .i64 k, .slice (some ⟨g, o, none⟩) n c, .slice D m dc] (Nat.zero_le _);obtain ⟨q, hq⟩ : ∃ q, q = w.heap.size := ⟨_, rfl⟩;obtain ⟨W, hW⟩ : ∃ W, W = w.alloc (.cells #[.int .i64 f, .int .i64 t, .int .i64 k, .slice (some ⟨g, o, none⟩) n c, .slice D m dc] 34) := ⟨_, rfl⟩;have HN0 := h.below ka;have NN := hN.keep ka;rw [<- hW] at ka bg HN0 NN;rw [<- hq] at bg;have x0 : W.cell? ⟨q, 0, none⟩ = some (.int .i64 f) := bg.cell 0;have x1 : W.cell? ⟨q, 1, none⟩ = some (.int .i64 t) := bg.cell 1;have x2 : W.cell? ⟨q, 2, none⟩ = some (.int .i64 k) := bg.cell 2;have x3 : W.cell? ⟨q, 3, none⟩ = some (.slice (some ⟨g, o, none⟩) n c) := bg.cell 3;have r0 : W.cell? ⟨r, 0, none⟩ = some (.int .i64 (N.id : Int)) := nds_cell HN0 0;have r1 : W.cell? ⟨r, 1, none⟩ = some (.int .i64 (N.n : Int)) := nds_cell HN0 1;obtain ⟨nid, hid⟩ : ∃ z, z = N.id := ⟨_, rfl⟩;obtain ⟨nn, hnn⟩ : ∃ z, z = N.n := ⟨_, rfl⟩;rw [<- hid] at r0 ht hf1;rw [<- hnn] at r1 hf3;subst ht;have hfz : ((f : Int) == (nid : Int)) = false := by simp; exact hf1
 have hf4 : decide (f < 0) = false := by simp; omega
 have hf5 : decide ((nn : Int) <= f) = false := by simp; omega
 have KA := hide ka;have HZ := hide hz;have HN2 := hide hn;clear h hN hz hid hnn hf1 bg HN0 hf2 hf3 ka hn;unfold msgO;go_enter Tryz.func20, Tryz.ntmps20;go_wp2_with fail
 rw [<- hW, <- hq];clear hW hq;refine heldT_top (fun W' : World => W'.cell? ⟨q, 0, none⟩ = some (.int .i64 f) /\ W'.cell? ⟨q, 1, none⟩ = some (.int .i64 (nid : Int)) /\ W'.cell? ⟨r, 0, none⟩ = some (.int .i64 (nid : Int)) /\ W'.cell? ⟨r, 1, none⟩ = some (.int .i64 (nn : Int))) 30 #[false, false, false, false, false, false, false, false, false, false, false, false, false, false, false, false, false, false, false, false, false, false, false, false, false, false, false, false, false, false] (by kernel_rfl) (by kernel_rfl) (by kernel_rfl) ?_;have hHeld : (fun W' : World => W'.cell? ⟨q, 0, none⟩ = some (.int .i64 f) /\ W'.cell? ⟨q, 1, none⟩ = some (.int .i64 (nid : Int)) /\ W'.cell? ⟨r, 0, none⟩ = some (.int .i64 (nid : Int)) /\ W'.cell? ⟨r, 1, none⟩ = some (.int .i64 (nn : Int))) (W.drewN 1) := ⟨x0, x1, r0, r1⟩;have KU := hide (KA.out.trans ((below_drewN (Below.refl W.heap.size W) 1).mono KA.out.size));have x2' : (W.drewN 1).cell? ⟨q, 2, none⟩ = some (.int .i64 k) := x2;have x3' : (W.drewN 1).cell? ⟨q, 3, none⟩ = some (.slice (some ⟨g, o, none⟩) n c) := x3;have NU : NumsO (W.drewN 1) g o zs := NN;clear x0 x1 x2 x3 r0 r1 KA NN;change wpAnyH _ _ _ _ _ _ _ _ (W.drewN 1);generalize W.drewN 1 = U at *
 iterate 30
  first | refine' tkH 0 rfl hHeld rfl ?_ ?_ | refine' tkH 1 rfl hHeld rfl ?_ ?_ | refine' tkH 2 rfl hHeld rfl ?_ ?_ | refine' tkH 3 rfl hHeld rfl ?_ ?_ | refine' tkH 4 rfl hHeld rfl ?_ ?_ | refine' tkH 5 rfl hHeld rfl ?_ ?_ | refine' tkH 6 rfl hHeld rfl ?_ ?_ | refine' tkH 7 rfl hHeld rfl ?_ ?_ | refine' tkH 8 rfl hHeld rfl ?_ ?_ | refine' tkH 9 rfl hHeld rfl ?_ ?_ | refine' tkH 10 rfl hHeld rfl ?_ ?_ | refine' tkH 11 rfl hHeld rfl ?_ ?_ | refine' tkH 12 rfl hHeld rfl ?_ ?_ | refine' tkH 13 rfl hHeld rfl ?_ ?_ | refine' tkH 14 rfl hHeld rfl ?_ ?_ | refine' tkH 15 rfl hHeld rfl ?_ ?_ | refine' tkH 16 rfl hHeld rfl ?_ ?_ | refine' tkH 17 rfl hHeld rfl ?_ ?_ | refine' tkH 18 rfl hHeld rfl ?_ ?_ | refine' tkH 19 rfl hHeld rfl ?_ ?_ | refine' tkH 20 rfl hHeld rfl ?_ ?_ | refine' tkH 21 rfl hHeld rfl ?_ ?_ | refine' tkH 22 rfl hHeld rfl ?_ ?_ | refine' tkH 23 rfl hHeld rfl ?_ ?_ | refine' tkH 24 rfl hHeld rfl ?_ ?_ | refine' tkH 25 rfl hHeld rfl ?_ ?_ | refine' tkH 26 rfl hHeld rfl ?_ ?_ | refine' tkH 27 rfl hHeld rfl ?_ ?_ | refine' tkH 28 rfl hHeld rfl ?_ ?_ | refine' tkH 29 rfl hHeld rfl ?_ ?_
  rotate_left
  ·(intro W' hW; (try dsimp only at hW); obtain ⟨z0, z1, z2, z3⟩ := hW; go_simp; (try with_reducible rfl))
  try simp only [Act.put, List.setIfInBounds_toArray, List.set_cons_zero, List.set_cons_succ]
 refine wpAnyH_done (by kernel_rfl) ?_ _;clear hHeld;have AR := hide (fun hn9 => are_okO g o c zs U n HN2.out hc NU HZ.out hn9);have HNU := hide NU;clear NU HZ;rcases hk with ⟨rfl, hl⟩ | ⟨rfl, hl, h1⟩ | ⟨rfl, hl⟩ | ⟨rfl, hl, h1⟩
 ·obtain rfl : n = 3 := by have := HN2.out; omega
  have ARE := hide (AR.out (by decide));clear hl AR HN2;go_wp2_with fail
  refine Calls.mono (show Calls Tryz.prog 44 #[.slice (some ⟨g, o, none⟩) 3 c, .int .i64 3] U _ from ARE.out) ?_;rintro e w1 ⟨rfl, rfl⟩;go_wp2_with fail
  go_ret;exact ⟨rfl, KU.out⟩
 ·obtain rfl : n = 2 := by have := HN2.out; omega
  have ARE := hide (AR.out (by decide));have c1 := HNU.out 1 (by omega);rw [show zs[1]'(by omega) = zs.getD 1 0 by simp [hl]] at c1;obtain ⟨z1, hz1⟩ : ∃ z, z = zs.getD 1 0 := ⟨_, rfl⟩;rw [<- hz1] at c1 h1;clear hl AR HN2 hz1;go_wp2_with fail
  refine Calls.mono (show Calls Tryz.prog 44 #[.slice (some ⟨g, o, none⟩) 2 c, .int .i64 2] U _ from ARE.out) ?_;rintro e w1 ⟨rfl, rfl⟩;go_wp2_with fail
  go_ret;exact ⟨rfl, KU.out⟩
 ·obtain rfl : n = 4 := by have := HN2.out; omega
  have ARE := hide (AR.out (by decide));clear hl AR HN2;go_wp2_with fail
  refine Calls.mono (show Calls Tryz.prog 44 #[.slice (some ⟨g, o, none⟩) 4 c, .int .i64 4] U _ from ARE.out) ?_;rintro e w1 ⟨rfl, rfl⟩;go_wp2_with fail
  go_ret;exact ⟨rfl, KU.out⟩
 ·obtain rfl : n = 3 := by have := HN2.out; omega
  have ARE := hide (AR.out (by decide));have c1 := HNU.out 1 (by omega);rw [show zs[1]'(by omega) = zs.getD 1 0 by simp [hl]] at c1;obtain ⟨z1, hz1⟩ : ∃ z, z = zs.getD 1 0 := ⟨_, rfl⟩;rw [<- hz1] at c1 h1;clear hl AR HN2 hz1;go_wp2_with fail
  refine Calls.mono (show Calls Tryz.prog 44 #[.slice (some ⟨g, o, none⟩) 3 c, .int .i64 3] U _ from ARE.out) ?_;rintro e w1 ⟨rfl, rfl⟩;go_wp2_with fail
  go_ret;exact ⟨rfl, KU.out⟩
set_option maxRecDepth 100000 in
set_option maxHeartbeats 1600000 in
theorem entries_noneO (f t k : Int) (g o n c : Nat) (D : Option Addr) (dc : Nat) (w : World) :
  Calls Tryz.prog 21 #[msgO f t k g o n c D 0 dc] w fun e w' => e = .returned (.tuple #[.slice none 0 0, .int .i64 0]) /\ Below w.heap.size w w' := by
 have ka := below_alloc w (.cells #[.int .i64 f, .int .i64 t, .int .i64 k, .slice (some ⟨g, o, none⟩) n c, .slice D 0 dc] 34);have bg := Blk.new w (B := 0) 34 #[.int .i64 f, .int .i64 t, .int .i64 k, .slice (some ⟨g, o, none⟩) n c, .slice D 0 dc] (Nat.zero_le _);obtain ⟨q, hq⟩ : ∃ q, q = w.heap.size := ⟨_, rfl⟩;obtain ⟨W, hW⟩ : ∃ W, W = w.alloc (.cells #[.int .i64 f, .int .i64 t, .int .i64 k, .slice (some ⟨g, o, none⟩) n c, .slice D 0 dc] 34) := ⟨_, rfl⟩;have x4l : (w.alloc (.cells #[.int .i64 f, .int .i64 t, .int .i64 k, .slice (some ⟨g, o, none⟩) n c, .slice D 0 dc] 34)).cell? ⟨w.heap.size, 4, none⟩ = some (.slice D 0 dc) := bg.cell 4;rw [<- hW] at ka bg;rw [<- hq] at bg;have hqp : q + 1 = W.heap.size := by rw [hW, hq]; simp
 have kb := below_alloc W (.cells #[.slice D 0 dc, .int .i64 0] 84);have br := Blk.new W (B := 0) 84 #[.slice D 0 dc, .int .i64 0] (Nat.zero_le _);have b2 := bg.keep kb;obtain ⟨p, hp⟩ : ∃ p, p = W.heap.size := ⟨_, rfl⟩;obtain ⟨V, hV⟩ : ∃ V, V = W.alloc (.cells #[.slice D 0 dc, .int .i64 0] 84) := ⟨_, rfl⟩;rw [<- hV] at kb br b2;rw [<- hp] at br;have y2 : V.cell? ⟨q, 2, none⟩ = some (.int .i64 k) := b2.cell 2;have GN := hide (goes_no p D dc V br);have RE := hide (rend_ok p D dc V br);have KV := hide (ka.trans (kb.mono ka.size));clear ka bg kb br b2;unfold msgO;go_enter Tryz.func21, Tryz.ntmps21;go_wp2_with fail
 rw [<- hW, <- hV, <- hq, hqp, <- hp];clear hW hq hV hp hqp x4l
 go_loopw [5] (fun l wr => l = .slice none 0 0 /\ wr = V) (fun _ _ => 1)
 case atStart => exact ⟨rfl, rfl⟩
 case round =>
  obtain ⟨rfl, rfl⟩ := hrel;by_cases hk : k = 3
  ·have hk3 : ((k : Int) == 3) = true := by simp; exact hk
   clear hk;go_wp2_with fail
   refine GN.out.mono ?_;rintro e w1 ⟨rfl, rfl⟩;go_wp2_with fail
   refine RE.out.mono ?_;rintro e w2 ⟨rfl, k2⟩;have K2 := hide (KV.out.trans (k2.mono KV.out.size));clear k2;go_wp2_with fail
   go_ret2;exact ⟨rfl, K2.out⟩
  ·have hk3 : ((k : Int) == 3) = false := by simp; exact hk
   clear hk;go_wp2_with fail
   refine RE.out.mono ?_;rintro e w2 ⟨rfl, k2⟩;have K2 := hide (KV.out.trans (k2.mono KV.out.size));clear k2;go_wp2_with fail
   go_ret2;exact ⟨rfl, K2.out⟩
set_option maxRecDepth 100000 in
theorem answer_anyO {S : Nat -> Prop} {r : Nat} {N : Nd} (h : NdS w S r d l room N M L) (f t k k2 : Int) (g o n c : Nat) (D : Option Addr) (m dc : Nat) (ga na ca : Nat) :
  Calls Tryz.prog 49 #[.pointer (some ⟨r, 0, none⟩), msgO f t k g o n c D m dc, .int .i64 k2, .slice (some ⟨ga, 0, none⟩) na ca] w fun e w' => ∃ v, e = .returned v /\ OneT w' v (N.id : Int) f k2 ga na ca /\ Below w.heap.size w w' := by
 have ka := below_alloc w (.cells #[.int .i64 f, .int .i64 t, .int .i64 k, .slice (some ⟨g, o, none⟩) n c, .slice D m dc] 34);have bg := Blk.new w (B := 0) 34 #[.int .i64 f, .int .i64 t, .int .i64 k, .slice (some ⟨g, o, none⟩) n c, .slice D m dc] (Nat.zero_le _);have x0 : (w.alloc (.cells #[.int .i64 f, .int .i64 t, .int .i64 k, .slice (some ⟨g, o, none⟩) n c, .slice D m dc] 34)).cell? ⟨w.heap.size, 0, none⟩ = some (.int .i64 f) := bg.cell 0;have MA := hide (message_any (h.below ka) f k2 (some ⟨ga, 0, none⟩) na ca);have KA := hide ka;obtain ⟨nid, hid⟩ : ∃ z, z = N.id := ⟨_, rfl⟩;rw [<- hid] at MA ⊢;clear h bg ka hid;unfold msgO;go_enter Tryz.func49, Tryz.ntmps49;go_wp2_with fail
 refine MA.out.mono ?_;rintro e w1 ⟨rfl, k1⟩;have K1 := hide (KA.out.trans (k1.mono KA.out.size));clear k1 MA x0;go_wp2_with fail
 go_ret;have b1 := Blk.new w1 (B := 0) 34 #[.int .i64 (nid : Int), .int .i64 f, .int .i64 k2, .slice (some ⟨ga, 0, none⟩) na ca, .slice none 0 0] (Nat.zero_le _);exact ⟨_, rfl, ⟨w1.heap.size, rfl, b1⟩, K1.out.trans ((below_alloc w1 _).mono K1.out.size)⟩
set_option maxRecDepth 100000 in
theorem asnew_start {S : Nat -> Prop} {r : Nat} {N : Nd} (h : NdS w S r d l room N M L) (hM : M.next = 1) (ht : TermE M 0 0) (z1 z2 : Int) (h1 : 0 <= z1) (h2 : 0 <= z2) :
  Calls Tryz.prog 48 #[.pointer (some ⟨r, 0, none⟩), .int .i64 z1, .int .i64 z2] w fun e w' => e = .returned (.bool true) /\ Below w.heap.size w w' := by
 have HL : Hid (∀ W, NdS W S r d l room N M L -> Calls Tryz.prog 31 #[.pointer (some ⟨r, 0, none⟩)] W fun e w' => e = .returned (.int .i64 0) /\ Below W.heap.size W w') := hide (fun W hw => by
  have hla := last_any hw (by omega) (by omega);rw [hM] at hla;exact hla)
 have HT := hide ht;have H := hide h;have L1 := hide (HL.out w h);clear h ht hM;go_enter Tryz.func48, Tryz.ntmps48;go_wp2_with fail
 refine L1.out.mono ?_;rintro e w1 ⟨rfl, k1⟩;have H1 := hide (H.out.below k1);have K1 := hide k1;have T1 := hide (termOf_any (H.out.below k1) 0 0 HT.out);clear k1 L1;go_wp2_with fail
 refine T1.out.mono ?_;rintro e w2 ⟨rfl, k2⟩;have K2 := hide (K1.out.trans (k2.mono K1.out.size));have L2 := hide (HL.out w2 (H1.out.below k2));clear k2 T1;by_cases hp : 0 < z2
 ·go_wp2_with fail
  go_ret;exact ⟨rfl, K2.out⟩
 ·have hz : z2 = 0 := by omega
  subst hz;go_wp2_with fail
  refine L2.out.mono ?_;rintro e w3 ⟨rfl, k3⟩;have K3 := hide (K2.out.trans (k3.mono K2.out.size));clear k3;go_wp2_with fail
  go_ret;exact ⟨rfl, K3.out⟩
end Go.Proofs.YtedlibkkeegnaaaGreat
