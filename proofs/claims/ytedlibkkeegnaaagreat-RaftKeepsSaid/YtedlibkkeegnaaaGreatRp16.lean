/- The contract of a segment's lay. Condition: fewer than 2 to the 40 bytes, fewer than 2 to the 30 entries. The contract of the program's scan. Condition: fewer t -/
import Derived.Test.YtedlibkkeegnaaaGreatRp15
import Derived.Deep.RegionLaw
namespace Go.Proofs.YtedlibkkeegnaaaGreat
open Go.RowKit Go.Maps
variable {w w' W : World} {G : Nat -> Prop} {B g i : Nat}
theorem cell_kept {r : Option Nat} {y : Value} (h : w.grownBy w' r) (hr : r ≠ some g) (hc : w.cell? ⟨g, i, none⟩ = some y) : w'.cell? ⟨g, i, none⟩ = some y := by
 rw [World.cell?_of_block (h.block g (cell_lt hc) (fun e => hr e.symm))];exact hc
theorem frozen_kept {r : Option Nat} (h : w.grownBy w' r) (hg : g < w.heap.size) (hr : r ≠ some g) (hc : w.frozen? ⟨g, i, none⟩ = false) : w'.frozen? ⟨g, i, none⟩ = false := by
 rw [World.frozen?_of_block (h.block g hg (fun e => hr e.symm))];exact hc
theorem cell_two_0 (w : World) (x y : Value) (t : TypeId) : (w.alloc (.cells #[x, y] t)).cell? ⟨w.heap.size, 0, none⟩ = some x := by rw [cell_of_row _ _ _ _ _ (0, 0) (heap_alloc_new w _)]; rfl
theorem cell_two_1 (w : World) (x y : Value) (t : TypeId) : (w.alloc (.cells #[x, y] t)).cell? ⟨w.heap.size, 1, none⟩ = some y := by rw [cell_of_row _ _ _ _ _ (0, 0) (heap_alloc_new w _)]; rfl
set_option maxRecDepth 100000 in
set_option maxHeartbeats 1600000 in
theorem play_any (w : World) (G : Nat -> Prop) (g o : Nat) (v y : Value) (f k : Nat) (es : List (List Nat)) (u : Value) (p : List Nat)
  (h1 : w.cell? ⟨g, o + 1, none⟩ = some v) (h2 : w.cell? ⟨g, o + 2, none⟩ = some y) (hfz : ∀ j, w.frozen? ⟨g, j, none⟩ = false) (hne : v.ownBlock ≠ some g)
  (hE : SegE G w v f es) (hu : RowU G w u p) (hk : k = (recL (f + es.length) p).length) (hl : (recsL f es).length + k <= 1099511627776) (hlen : es.length < 1073741824) :
  Calls Tryz.prog 112 #[.pointer (some ⟨g, o, none⟩), u, .int .i64 (k : Int)] w fun e w' => e = .returned (.tuple #[]) /\ ∃ v' w1 h0, w' = (w1.setCell ⟨g, o + 1, none⟩ v').setCell ⟨g, o + 2, none⟩ (.bool true) /\
   SegE (fun q => G q \/ q = h0) w1 v' f (es ++ [p]) /\ w.heap.size <= h0 /\ Turn (fun q => some q = v.ownBlock) w w1 /\ (v'.ownBlock = v.ownBlock \/ v'.ownBlock = some h0) := by
 have hgl : g < w.heap.size := cell_lt h1;obtain ⟨A, c, rfl, hlc, hc63, _, _⟩ := hE.form;obtain ⟨A1, c1, rfl, hI, _, _⟩ := hu.1.form (n := p.length) rfl;obtain ⟨m, hm⟩ : ∃ m, m = p.length := ⟨_, rfl⟩;rw [<- hm] at hu hI ⊢;obtain ⟨n, hn⟩ : ∃ n, n = es.length := ⟨_, rfl⟩;rw [<- hn] at h1 hE hne hlc hlen ⊢;obtain ⟨z, hz⟩ : ∃ z, z = (recsL f es).length := ⟨_, rfl⟩;have hf1 := hfz (o + 1);have hf2 := hfz (o + 2);have hzk : (z : Int) + (k : Int) = ((z + k : Nat) : Int) := by omega
 obtain ⟨t, ht⟩ : ∃ t, t = z + k := ⟨_, rfl⟩;rw [<- ht] at hzk;have HT : Hid (t = (recsL f es).length + (recL (f + es.length) p).length) := hide (by rw [ht, hz, hk]);have htb : t <= 1099511627776 := by rw [ht, hz]; exact hl
 have hwt : IntKind.i64.wrap (t : Int) = (t : Int) := by rw [IntKind.wrap_i64]; omega
 have HSZ := psize_any w.drew G g o _ f es h1 hE (by omega);rw [<- hz] at HSZ;have HS := hide HSZ;have HE := hide hE;have HU := hide hu;have HNE := hide hne;have HN := hide hn;have HL := hide hlen;have HFZ := hide hfz;have HGL := hide hgl;clear HSZ hE hu hI hn ht hz hk hl hm hfz hgl;go_enter Tryz.func112, Tryz.ntmps112;go_wp2_with fail
 refine Ways.start (fun W => W.cell? ⟨g, o + 1, none⟩ = some (.slice A n c) /\ W.cell? ⟨g, o + 2, none⟩ = some y) 15 16 #[false, false, false, false, false, false, false, false, false, false, false, false, false, false, false, false] (by kernel_rfl) (by kernel_rfl) (by kernel_rfl) ?_;have hHeld : w.drew.cell? ⟨g, o + 1, none⟩ = some (.slice A n c) /\ w.drew.cell? ⟨g, o + 2, none⟩ = some y := ⟨h1, h2⟩
 iterate 8
  first | refine' tkW 0 rfl hHeld rfl ?_ ?_ | refine' tkW 1 rfl hHeld rfl ?_ ?_ | refine' tkW 2 rfl hHeld rfl ?_ ?_ | refine' tkW 3 rfl hHeld rfl ?_ ?_ | refine' tkW 4 rfl hHeld rfl ?_ ?_ | refine' tkW 5 rfl hHeld rfl ?_ ?_ | refine' tkW 6 rfl hHeld rfl ?_ ?_ | refine' tkW 8 rfl hHeld rfl ?_ ?_
  rotate_left
  ·(intro W hW; (try dsimp only at hW); go_simp; (try with_reducible rfl))
  try simp only [Act.put, List.setIfInBounds_toArray, List.set_cons_zero, List.set_cons_succ]
 refine Ways.one (i := 7) (by kernel_rfl) rfl (fun K hK => ?_);go_simp;go_at_call 90;refine HS.out.mono ?_;rintro e w1 ⟨rfl, d, rfl⟩;refine hK.out _ _ ⟨h1, h2⟩ ?_;clear hK hHeld;have hHeld : (w.drew.drewN d).cell? ⟨g, o + 1, none⟩ = some (.slice A n c) /\ (w.drew.drewN d).cell? ⟨g, o + 2, none⟩ = some y := ⟨h1, h2⟩
 (try simp only [List.setIfInBounds_toArray, List.set_cons_zero, List.set_cons_succ])
 iterate 2
  first | refine' tkW 9 rfl hHeld rfl ?_ ?_ | refine' tkW 10 rfl hHeld rfl ?_ ?_
  rotate_left
  ·(intro W hW; (try dsimp only at hW); go_simp; (try with_reducible rfl))
  try simp only [Act.put, List.setIfInBounds_toArray, List.set_cons_zero, List.set_cons_succ]
 refine Ways.one (i := 11) (by kernel_rfl) rfl (fun K hK => ?_);go_simp;obtain ⟨w2, hw2⟩ : ∃ z, z = (w.drewN (1 + d)).alloc (.cells #[.slice A1 m c1, .int .i64 (t : Int)] 121) := ⟨_, rfl⟩;have kA := below_alloc w (.cells #[.slice A1 m c1, .int .i64 (t : Int)] 121);have KA : Hid (Below w.heap.size w w2) := hide (by rw [hw2]; exact ⟨kA.os, kA.tape, kA.output, kA.size, kA.block⟩);have e0 : w2.cell? ⟨w.heap.size, 0, none⟩ = some (.slice A1 m c1) := by rw [hw2]; exact cell_two_0 _ _ _ _
 have e1 : w2.cell? ⟨w.heap.size, 1, none⟩ = some (.int .i64 (t : Int)) := by rw [hw2]; exact cell_two_1 _ _ _ _
 have x1 : w2.cell? ⟨g, o + 1, none⟩ = some (.slice A n c) := (KA.out.cell (p := ⟨g, o + 1, none⟩) HGL.out).trans h1;have x2 : w2.cell? ⟨g, o + 2, none⟩ = some y := (KA.out.cell (p := ⟨g, o + 2, none⟩) HGL.out).trans h2;rw [<- hw2];clear hw2 kA;refine hK.out _ _ ⟨x1, x2⟩ ?_;clear hK hHeld
 (try simp only [List.setIfInBounds_toArray, List.set_cons_zero, List.set_cons_succ])
 refine Ways.one (i := 12) (by kernel_rfl) rfl (fun K hK => ?_);rw [HT.out] at e1;refine step_append_ent rfl (.tmp 10) (.tmp 17) rfl G (.slice A n c) f es (by rfl) (HE.out.turn (Turn.of_below (fun _ => False) KA.out) (fun _ _ => id) (fun _ _ _ => id)) w.heap.size (.slice A1 m c1) p (by rfl) e0 e1 (HU.out.turn (Turn.of_below (fun _ => False) KA.out) (fun _ _ _ => id)) (by rw [<- HN.out]; have := HL.out; omega) ?_;intro v6 w6 h6 g6 hv6;have y1 := cell_kept g6 HNE.out x1;have y2 := cell_kept g6 HNE.out x2;have hg2 : g < w2.heap.size := cell_lt x1;have fz1 := frozen_kept (i := o + 1) g6 hg2 HNE.out (by rw [World.frozen?_of_block (KA.out.block g HGL.out)]; exact hf1);have fz2 := frozen_kept (i := o + 2) g6 hg2 HNE.out (by rw [World.frozen?_of_block (KA.out.block g HGL.out)]; exact hf2);obtain ⟨A6, c6, rfl, -, -, -, -⟩ := h6.form;obtain ⟨n6, hn6⟩ : ∃ n6, n6 = (es ++ [p]).length := ⟨_, rfl⟩;rw [<- hn6] at h6 hv6 ⊢;have H6 := hide h6;have G6 := hide g6;have V6 := hide hv6;clear hn6 h6 g6 hv6 e0 e1 x1 x2;refine hK.out _ _ ⟨y1, y2⟩ ?_;clear hK
 (try simp only [Act.put, List.setIfInBounds_toArray, List.set_cons_zero, List.set_cons_succ])
 refine Ways.one (i := 13) (by kernel_rfl) rfl (fun K hK => ?_);go_simp;refine hK.out _ _ ⟨y1, y2⟩ ?_;clear hK
 (try simp only [List.setIfInBounds_toArray, List.set_cons_zero, List.set_cons_succ])
 refine Ways.one (i := 14) (by kernel_rfl) rfl (fun K hK => ?_);go_simp;refine hK.out _ _ ⟨y1, y2⟩ ?_;clear hK
 (try simp only [List.setIfInBounds_toArray, List.set_cons_zero, List.set_cons_succ])
 refine Ways.last (by kernel_rfl) rfl (by kernel_rfl) (fun K hK => ?_);go_simp;refine hK.out _ _ ?_;clear hK;have z2 : (w6.setCell ⟨g, o + 1, none⟩ (.slice A6 n6 c6)).cell? ⟨g, o + 2, none⟩ = some y := by
  rw [World.cell?_setCell_other _ _ _ _ (by intro e; have := congrArg Addr.off e; simp at this)];exact y2
 go_wp2_with fail
 go_end0;refine ⟨rfl, _, w6, w2.heap.size, rfl, H6.out, KA.out.size, (Turn.of_below _ KA.out).trans (Turn.of_grown G6.out), V6.out⟩
theorem rec_of_dec {xs dp : List Nat} {dn t rk : Nat} (hb : ∀ x ∈ xs, x < 256) (h : decL xs = (dp, dn, 0)) (hr : rvl 0 0 dp = (t, rk, 0)) : dn = (recL t (dp.drop rk)).length := by
 obtain ⟨_, h8, hpl, _, hpb⟩ := dec_inv hb h;obtain ⟨u, hu, _, hx, _⟩ := rvl_inv dp 0 0 t rk hpb (by omega) hr;have hut : u = t := by omega
 subst hut;rw [Nat.sub_zero] at hx;unfold recL;rw [<- hx, frame_len];omega
theorem SegE.own {v : Value} {f : Nat} {es : List (List Nat)} (h : SegE G w v f es) : ∀ g, v.ownBlock = some g -> G g := by
 obtain ⟨_, _, _, h3, _⟩ := h;exact h3
theorem below_set (h : Below B w w') (b i : Nat) (x : Value) (hb : B <= b) : Below B w (w'.setCell ⟨b, i, none⟩ x) := h.setCell (p := ⟨b, i, none⟩) hb x
theorem SegE.other {v : Value} {f : Nat} {es : List (List Nat)} (h : SegE G w v f es) (b i : Nat) (x : Value) (hb : ¬ G b) : SegE G (w.setCell ⟨b, i, none⟩ x) v f es := by
 have t : Turn (fun q => q = b) w (w.setCell ⟨b, i, none⟩ x) := (Turn.of_grown (grown_set w b i x)).mono (fun q e => Option.some.inj e);have h3 : ∀ g, v.ownBlock = some g -> G g := by obtain ⟨_, _, _, h3, _⟩ := h; exact h3
 exact h.turn t (fun q hq e => hb (e ▸ h3 q hq)) (fun q _ hq e => hb (e ▸ hq))
theorem pseg_store {w0 : World} {b4 f : Nat} {v x0 x1 x2 : Value} {es : List (List Nat)} (P : Blk W 0 119 b4 [x0, x1, x2]) (hS : SegE G W v f es) (hb : ¬ G b4) (hB : w0.heap.size <= b4) (y0 y2 : Value) :
  Blk (((W.setCell ⟨b4, 0, none⟩ y0).setCell ⟨b4, 1, none⟩ v).setCell ⟨b4, 2, none⟩ y2) 0 119 b4 [y0, v, y2] /\ SegE G (((W.setCell ⟨b4, 0, none⟩ y0).setCell ⟨b4, 1, none⟩ v).setCell ⟨b4, 2, none⟩ y2) v f es /\ Below w0.heap.size W (((W.setCell ⟨b4, 0, none⟩ y0).setCell ⟨b4, 1, none⟩ v).setCell ⟨b4, 2, none⟩ y2) :=
 ⟨((P.stored 0 y0).stored 1 v).stored 2 y2, ((hS.other b4 0 y0 hb).other b4 1 v hb).other b4 2 y2 hb, (((Below.refl w0.heap.size W).setCell (p := ⟨b4, 0, none⟩) hB y0).setCell (p := ⟨b4, 1, none⟩) hB v).setCell (p := ⟨b4, 2, none⟩) hB y2⟩
set_option maxRecDepth 100000 in
set_option maxHeartbeats 6400000 in
theorem pscan_any (A : Option Addr) (n c : Nat) (xs : List Nat) (i : Nat) (w : World) (hA : IsB w (.slice A n c) xs) (hn : xs.length = n) (hb : ∀ x ∈ xs, x < 256) (h3 : n <= 1073741824) (hi : i <= 1099511627776) :
  Calls Tryz.prog 88 #[.int .i64 (i : Int), .slice A n c] w fun e w' => ∃ v, e = .returned (.agg #[.int .i64 (i : Int), v, .bool true]) /\ SegE (fun g => w.heap.size <= g) w' v i (segL xs i).1 /\ Below w.heap.size w w' := by
 have HA := hide hA;have HN := hide hn;have HB := hide hb;obtain ⟨hcn, hcm⟩ := hA.caps;clear hA hn hb;go_enter Tryz.func88, Tryz.ntmps88;go_wp2_with fail
 have m4 := Blk.new (B := 0) w 119 #[.int .i64 0, .slice none 0 0, .bool false] (Nat.zero_le _);have ka := below_alloc w (.cells #[.int .i64 0, .slice none 0 0, .bool false] 119);obtain ⟨W0, hW0⟩ : ∃ W0, W0 = w.alloc (.cells #[.int .i64 0, .slice none 0 0, .bool false] 119) := ⟨_, rfl⟩;have hz0 : W0.heap.size = w.heap.size + 1 := by rw [hW0]; simp
 rw [<- hW0] at m4 ka ⊢;have m7 := Blk.new (B := 0) W0 119 #[.int .i64 (i : Int), .slice none 0 0, .bool true] (Nat.zero_le _);have kb := below_alloc W0 (.cells #[.int .i64 (i : Int), .slice none 0 0, .bool true] 119);have m4 := m4.turn (Turn.of_below (fun _ => False) kb) id;rw [hz0] at m7;obtain ⟨W1, hW1⟩ : ∃ W1, W1 = W0.alloc (.cells #[.int .i64 (i : Int), .slice none 0 0, .bool true] 119) := ⟨_, rfl⟩;rw [<- hW1] at m4 m7 kb ⊢;have hz1 : W1.heap.size = w.heap.size + 2 := by rw [hW1]; simp [hz0]
 have K1 := hide (below_step ka kb);have Z1 := hide hz1;have M4 := hide m4;have M7 := hide m7;obtain ⟨b4, h4⟩ : ∃ b, b = w.heap.size := ⟨_, rfl⟩;obtain ⟨b7, h7⟩ : ∃ b, b = w.heap.size + 1 := ⟨_, rfl⟩;rw [<- h7] at M7 ⊢;rw [<- h4] at M4 ⊢;have H4 := hide h4;have H7 := hide h7;have n47 : ¬ b4 = b7 := by omega
 have n74 : ¬ b7 = b4 := by omega
 clear m4 ka hz0 m7 kb hz1 h4 h7 hW0 hW1
 go_loopw [6] (fun g wr => ∃ (k : Nat) (vL : Value) (acc : List (List Nat)), k <= n /\ g = .int .i64 (k : Int) /\ Hid (Blk wr 0 119 b4 [.int .i64 0, .slice none 0 0, .bool false]) /\ Hid (Blk wr 0 119 b7 [.int .i64 (i : Int), vL, .bool true]) /\
   Hid (SegE (fun g => w.heap.size <= g /\ g ≠ b4 /\ g ≠ b7) wr vL i acc) /\ Hid (SofarG xs i k acc) /\ Hid ((recsL i acc).length = k) /\ Hid (Below w.heap.size w wr)) (fun g _ => n - (intOf g).toNat)
 case atStart => exact ⟨0, _, [], Nat.zero_le _, rfl, M4.out, M7.out, SegE.nil _ _ _, SofarG.start xs i, hide rfl, K1.out⟩
 case round =>
  clear M4 M7 K1 Z1;obtain ⟨k, vL, acc, hk, rfl, P4, P7, hH, hS, hRk, hbel⟩ := hrel;obtain ⟨AL, cL, rfl, hL1, hL2, hL3, _⟩ := hH.out.form;obtain ⟨na, hna⟩ : ∃ na, na = acc.length := ⟨_, rfl⟩;rw [<- hna] at P7 hH;obtain ⟨fr, hfr⟩ : ∃ fr, fr = true := ⟨_, rfl⟩;rw [<- hfr] at P7;have HFR := hide hfr;have HNA := hide hna;clear hna hfr;have r70 : wr.cell? ⟨b7, 0, none⟩ = some (.int .i64 (i : Int)) := P7.out.cell 0;have r71 : wr.cell? ⟨b7, 1, none⟩ = some (.slice AL na cL) := P7.out.cell 1;have r72 : wr.cell? ⟨b7, 2, none⟩ = some (.bool fr) := P7.out.cell 2;have r40 : wr.cell? ⟨b4, 0, none⟩ = some (.int .i64 0) := P4.out.cell 0;have r41 : wr.cell? ⟨b4, 1, none⟩ = some (.slice none 0 0) := P4.out.cell 1;have r42 : wr.cell? ⟨b4, 2, none⟩ = some (.bool false) := P4.out.cell 2;have f40 := P4.out.frozen 0;have f41 := P4.out.frozen 1;have f42 := P4.out.frozen 2;by_cases hlt : k < n
  ·obtain ⟨g0, off, rfl⟩ := HA.out.at_ (by omega);have HI := hide (HA.out.drop k (n - k) (c - k) rfl rfl hk);have hc0 : ¬ c = k := by omega
   have hc1 : n - k <= c - k := by omega
   have HL : Hid ((xs.drop k).length = n - k) := by unfold Hid; rw [List.length_drop, HN.out]
   have hsm := (decL_le (xs.drop k)).2;have HBD : Hid (∀ x ∈ xs.drop k, x < 256) := fun x hx => HB.out x (List.mem_of_mem_drop hx)
   have hkx : k < xs.length := by rw [HN.out]; exact hlt
   obtain ⟨de, hde⟩ : ∃ de, de = (decL (xs.drop k)).2.2 := ⟨_, rfl⟩;obtain ⟨dn, hdn⟩ : ∃ dn, dn = (decL (xs.drop k)).2.1 := ⟨_, rfl⟩;obtain ⟨dp, hdp⟩ : ∃ dp, dp = (decL (xs.drop k)).1 := ⟨_, rfl⟩;rw [<- hde] at hsm;have hdec := decode_any (some ⟨g0, off + k, none⟩) (n - k) (c - k) (xs.drop k);rw [<- hde, <- hdn, <- hdp] at hdec;by_cases he : de = 0
   ·have hd0 : decL (xs.drop k) = (dp, dn, 0) := by rw [hdp, hdn, <- he, hde]
    obtain ⟨_, hdn8, hdpl, hdnl, hdpb⟩ := dec_inv HBD.out hd0;rw [HL.out] at hdnl;obtain ⟨m, hm⟩ : ∃ m, m = dp.length := ⟨_, rfl⟩;rw [<- hm] at hdn8 hdpl;have hrle := rvl_le dp 0 0 (by omega) (by decide);have hrin := rvl_in hdpb;obtain ⟨rv, hrv⟩ : ∃ rv, rv = (rvl 0 0 dp).1 := ⟨_, rfl⟩;obtain ⟨rk, hrk⟩ : ∃ rk, rk = (rvl 0 0 dp).2.1 := ⟨_, rfl⟩;obtain ⟨re, hre⟩ : ∃ re, re = (rvl 0 0 dp).2.2 := ⟨_, rfl⟩;rw [<- hrv, <- hrk, <- hre] at hrle;rw [<- hrk, <- hre, <- hm] at hrin;obtain ⟨hrl1, hrl2, hrl3⟩ := hrle;have hna2 := hS.out.2.2.2;rw [<- HNA.out] at hna2;obtain ⟨t, ht⟩ : ∃ t, t = i + na := ⟨_, rfl⟩;have HPB := hide hdpb;have HM := hide hm;have hrd := fun (W : World) (AA : Option Addr) (CC : Nat) (hI : IsB W (.slice AA m CC) dp) => uread_any AA m CC dp W hI.rd HM.out HPB.out (by omega)
    rw [<- hrv, <- hrk, <- hre] at hrd;have HRD := hide hrd;have HDEC := hide hdec;have hu : IntKind.u64.wrap (t : Int) = (t : Int) := by rw [IntKind.wrap_u64]; omega
    have HPN := hide (fun (W : World) (h0 : W.cell? ⟨b7, 0, none⟩ = some (.int .i64 (i : Int))) (h1 : W.cell? ⟨b7, 1, none⟩ = some (.slice AL na cL)) => pnext_any W b7 0 i na cL AL h0 h1 hi (by omega));rw [<- ht] at HPN;have HT := hide ht;by_cases hgood : re = 0 /\ rv = t
    ·obtain ⟨hg1, hg2⟩ := hgood;have HNX := hide (hS.out.next hkx (by rw [<- hde]; exact he) (by rw [<- hdp, <- hre]; exact hg1) (by rw [<- hdp, <- hrv, <- HNA.out, <- ht]; exact hg2));rw [<- hdp, <- hrk, <- hdn] at HNX;have HRL := hide (rec_of_dec (t := t) (rk := rk) HBD.out hd0 (Prod.ext (by rw [<- hrv]; exact hg2) (Prod.ext (by rw [<- hrk]) (by rw [<- hre]; exact hg1))));have hrkm := hrin hg1;have hz1 : ((re : Int) != 0) = false := by simp [hg1]
     have hz2 : ((rv : Int) != (t : Int)) = false := by simp; omega
     have hm1 : 1 <= m := by
      rcases dp with _ | ⟨x, r⟩
      ·rw [rvl_nil] at hre;rw [hre] at hg1;exact absurd hg1 (by decide)
      ·rw [hm]; simp
     have hdn64 : dn <= n := by omega
     have hkn : k + dn <= n := by omega
     have HD8 := hide hdn8;have hna3 : na + 1 <= 1073741824 := by omega
     clear hde hdn hdp hdec hkx hd0 hrv hrk hre hrin ht hrd hm hdn8 hdpb hg1 hg2;subst he;go_wp2_with fail
     refine (HDEC.out _ (HI.out.keep hbel.out) HL.out HBD.out (by omega) hc1 (by omega)).mono ?_;rintro e w1 ⟨s1, rfl, o1, k1⟩;obtain ⟨g1, c1, rfl⟩ := own_some o1 HM.out.symm hm1;have i1 := o1.isB;obtain ⟨hmc1, _⟩ := i1.caps;have I1 := hide i1;have RP0 := hide ((o1.rowU (G := fun g => w.heap.size <= g /\ g ≠ b4 /\ g ≠ b7) (fun g h1 h2 => ⟨Nat.le_trans hbel.out.size h1, (fun e => by have h9 : b4 < wr.heap.size := cell_lt r40; omega), fun e => by have h9 : b7 < wr.heap.size := cell_lt r70; omega⟩)).tail rk (m - rk) (c1 - rk) _ (isB_tail i1 rk hrkm));have Q4 := hide (P4.out.keep k1);have Q7 := hide (P7.out.keep k1);have HH := hide (hH.out.turn (S := fun _ => False) (Turn.of_below _ k1) (fun _ _ => id) (fun _ _ _ => id));have K1 := hide (below_step hbel.out k1);clear o1 k1 i1 r70 r71 r72 r40 r41 r42 f40 f41 f42;have r70 : w1.cell? ⟨b7, 0, none⟩ = some (.int .i64 (i : Int)) := Q7.out.cell 0;have r71 : w1.cell? ⟨b7, 1, none⟩ = some (.slice AL na cL) := Q7.out.cell 1;have r72 : w1.cell? ⟨b7, 2, none⟩ = some (.bool fr) := Q7.out.cell 2;have r40 : w1.cell? ⟨b4, 0, none⟩ = some (.int .i64 0) := Q4.out.cell 0;have r41 : w1.cell? ⟨b4, 1, none⟩ = some (.slice none 0 0) := Q4.out.cell 1;have r42 : w1.cell? ⟨b4, 2, none⟩ = some (.bool false) := Q4.out.cell 2;have f40 := Q4.out.frozen 0;have f41 := Q4.out.frozen 1;have f42 := Q4.out.frozen 2;go_wp2_with fail
     refine (HRD.out w1 _ c1 I1.out).mono ?_;rintro e w9 ⟨rfl, rfl⟩;go_wp2_with fail
     refine (HPN.out w1 r70 r71).mono ?_;rintro e w10 ⟨rfl, d3, rfl⟩;have k3 : Below w1.heap.size w1 (w1.drewN d3) := ⟨rfl, rfl, rfl, Nat.le_refl _, fun _ _ => rfl⟩;obtain ⟨W3, hW3⟩ : ∃ z, z = w1.drewN d3 := ⟨_, rfl⟩;rw [<- hW3] at k3 ⊢;have X4 := hide (Q4.out.keep k3);have X7 := hide (Q7.out.keep k3);have XH := hide (HH.out.turn (S := fun _ => False) (Turn.of_below _ k3) (fun _ _ => id) (fun _ _ _ => id));have XK := hide (below_step K1.out k3);have X3 := hide k3;clear k3 hW3 r70 r71 r72 r40 r41 r42 f40 f41 f42;have r70 : W3.cell? ⟨b7, 0, none⟩ = some (.int .i64 (i : Int)) := X7.out.cell 0;have r71 : W3.cell? ⟨b7, 1, none⟩ = some (.slice AL na cL) := X7.out.cell 1;have r72 : W3.cell? ⟨b7, 2, none⟩ = some (.bool fr) := X7.out.cell 2;have r40 : W3.cell? ⟨b4, 0, none⟩ = some (.int .i64 0) := X4.out.cell 0;have r41 : W3.cell? ⟨b4, 1, none⟩ = some (.slice none 0 0) := X4.out.cell 1;have r42 : W3.cell? ⟨b4, 2, none⟩ = some (.bool false) := X4.out.cell 2;have f40 := X4.out.frozen 0;have f41 := X4.out.frozen 1;have f42 := X4.out.frozen 2;by_cases hck : c1 = rk
     ·have e0 : c1 - rk = 0 := by omega
      rw [if_pos hck, e0] at RP0;clear e0;have RP3 := hide (RP0.out.turn (S := fun _ => False) (Turn.of_below _ X3.out) (fun _ _ _ => id));go_wp2_with fail
      refine (play_any W3 (fun g => w.heap.size <= g /\ g ≠ b4 /\ g ≠ b7) b7 0 (.slice AL na cL) (.bool fr) i dn acc (.slice (some ⟨g1, 0, none⟩) (m - rk) 0) (dp.drop rk) r71 r72 (fun j => X7.out.frozen j) (fun e => (XH.out.own _ e).2.2 rfl) XH.out RP3.out (by rw [HRL.out, <- HNA.out, <- HT.out]) (by rw [hRk.out]; omega) (by rw [<- HNA.out]; omega)).mono ?_;rintro e w5 ⟨rfl, v5, w4, h0, rfl, hE5, hh0, hT5, hv5⟩;have hG5 : SegE (fun g => w.heap.size <= g /\ g ≠ b4 /\ g ≠ b7) w4 v5 i (acc ++ [dp.drop rk]) := hE5.mono (fun q hq h => h.elim id (fun e => by
       have h8 : b4 < W3.heap.size := cell_lt r40;have h9 : b7 < W3.heap.size := cell_lt r70;have h10 := XK.out.size;subst e;exact ⟨by omega, by omega, by omega⟩))
      have hb7o : ¬ some b7 = (Value.slice AL na cL).ownBlock := fun e => (XH.out.own _ e.symm).2.2 rfl
      have hb4o : ¬ some b4 = (Value.slice AL na cL).ownBlock := fun e => (XH.out.own _ e.symm).2.1 rfl
      have p7 := ((X7.out.turn hT5 hb7o).stored 1 v5).stored 2 (.bool true);have p4 := ((X4.out.turn hT5 hb4o).turn ((Turn.of_grown (grown_set w4 b7 1 v5)).mono (S' := fun q => q = b7) (fun q e => Option.some.inj e)) n47).turn ((Turn.of_grown (grown_set (w4.setCell ⟨b7, 1, none⟩ v5) b7 2 (.bool true))).mono (S' := fun q => q = b7) (fun q e => Option.some.inj e)) n47;have hG6 := (hG5.other b7 1 v5 (fun h => h.2.2 rfl)).other b7 2 (.bool true) (fun h => h.2.2 rfl);have hbW : w.heap.size <= b7 := by rw [H7.out]; omega
      have hkk := below_set (below_set (XK.out.trans (hT5.below (B := w.heap.size) XK.out.size (fun q e => (XH.out.own _ e.symm).1))) b7 1 v5 hbW) b7 2 (.bool true) hbW;obtain ⟨w6, hw6⟩ : ∃ z, z = (w4.setCell ⟨b7, 1, none⟩ v5).setCell ⟨b7, 2, none⟩ (.bool true) := ⟨_, rfl⟩;rw [<- hw6] at p7 p4 hG6 hkk;simp only [Nat.zero_add];rw [<- hw6];have hlen : (recsL i (acc ++ [dp.drop rk])).length = k + dn := by
       rw [recs_app, List.length_append, hRk.out, <- HNA.out, <- HT.out, HRL.out];simp [recsL]
      have HSZ := hide (psize_any w6 (fun g => w.heap.size <= g /\ g ≠ b4 /\ g ≠ b7) b7 0 v5 i (acc ++ [dp.drop rk]) (p7.cell 1) hG6 (by rw [hlen]; omega));rw [hlen] at HSZ;have P7' := hide p7;have P4' := hide p4;have G6 := hide hG6;have KK' := hide hkk;have HLEN := hide hlen;clear p7 p4 hG6 hkk hlen hw6 hE5 hT5 hv5 hG5 hb7o hb4o hh0;go_wp2_with fail
      refine HSZ.out.mono ?_;rintro e w7 ⟨rfl, d7, rfl⟩;go_wp2_with fail
      go_roundw
      case rel =>
       have k7 : Below w6.heap.size w6 (w6.drewN d7) := ⟨rfl, rfl, rfl, Nat.le_refl _, fun _ _ => rfl⟩;refine ⟨k + dn, v5, acc ++ [dp.drop rk], hkn, by go_num, P4'.out.keep k7, ?_, G6.out.turn (S := fun _ => False) (Turn.of_below _ k7) (fun _ _ => id) (fun _ _ _ => id), HNX.out, HLEN.out, below_step KK'.out k7⟩;unfold Hid;exact P7'.out.keep k7
      case measure =>
       have h8 := HD8.out;simp [intOf];omega
     ·rw [if_neg hck] at RP0;have RP3 := hide (RP0.out.turn (S := fun _ => False) (Turn.of_below _ X3.out) (fun _ _ _ => id));go_wp2_with fail
      refine (play_any W3 (fun g => w.heap.size <= g /\ g ≠ b4 /\ g ≠ b7) b7 0 (.slice AL na cL) (.bool fr) i dn acc (.slice (some ⟨g1, rk, none⟩) (m - rk) (c1 - rk)) (dp.drop rk) r71 r72 (fun j => X7.out.frozen j) (fun e => (XH.out.own _ e).2.2 rfl) XH.out RP3.out (by rw [HRL.out, <- HNA.out, <- HT.out]) (by rw [hRk.out]; omega) (by rw [<- HNA.out]; omega)).mono ?_;rintro e w5 ⟨rfl, v5, w4, h0, rfl, hE5, hh0, hT5, hv5⟩;have hG5 : SegE (fun g => w.heap.size <= g /\ g ≠ b4 /\ g ≠ b7) w4 v5 i (acc ++ [dp.drop rk]) := hE5.mono (fun q hq h => h.elim id (fun e => by
       have h8 : b4 < W3.heap.size := cell_lt r40;have h9 : b7 < W3.heap.size := cell_lt r70;have h10 := XK.out.size;subst e;exact ⟨by omega, by omega, by omega⟩))
      have hb7o : ¬ some b7 = (Value.slice AL na cL).ownBlock := fun e => (XH.out.own _ e.symm).2.2 rfl
      have hb4o : ¬ some b4 = (Value.slice AL na cL).ownBlock := fun e => (XH.out.own _ e.symm).2.1 rfl
      have p7 := ((X7.out.turn hT5 hb7o).stored 1 v5).stored 2 (.bool true);have p4 := ((X4.out.turn hT5 hb4o).turn ((Turn.of_grown (grown_set w4 b7 1 v5)).mono (S' := fun q => q = b7) (fun q e => Option.some.inj e)) n47).turn ((Turn.of_grown (grown_set (w4.setCell ⟨b7, 1, none⟩ v5) b7 2 (.bool true))).mono (S' := fun q => q = b7) (fun q e => Option.some.inj e)) n47;have hG6 := (hG5.other b7 1 v5 (fun h => h.2.2 rfl)).other b7 2 (.bool true) (fun h => h.2.2 rfl);have hbW : w.heap.size <= b7 := by rw [H7.out]; omega
      have hkk := below_set (below_set (XK.out.trans (hT5.below (B := w.heap.size) XK.out.size (fun q e => (XH.out.own _ e.symm).1))) b7 1 v5 hbW) b7 2 (.bool true) hbW;obtain ⟨w6, hw6⟩ : ∃ z, z = (w4.setCell ⟨b7, 1, none⟩ v5).setCell ⟨b7, 2, none⟩ (.bool true) := ⟨_, rfl⟩;rw [<- hw6] at p7 p4 hG6 hkk;simp only [Nat.zero_add];rw [<- hw6];have hlen : (recsL i (acc ++ [dp.drop rk])).length = k + dn := by
       rw [recs_app, List.length_append, hRk.out, <- HNA.out, <- HT.out, HRL.out];simp [recsL]
      have HSZ := hide (psize_any w6 (fun g => w.heap.size <= g /\ g ≠ b4 /\ g ≠ b7) b7 0 v5 i (acc ++ [dp.drop rk]) (p7.cell 1) hG6 (by rw [hlen]; omega));rw [hlen] at HSZ;have P7' := hide p7;have P4' := hide p4;have G6 := hide hG6;have KK' := hide hkk;have HLEN := hide hlen;clear p7 p4 hG6 hkk hlen hw6 hE5 hT5 hv5 hG5 hb7o hb4o hh0;go_wp2_with fail
      refine HSZ.out.mono ?_;rintro e w7 ⟨rfl, d7, rfl⟩;go_wp2_with fail
      go_roundw
      case rel =>
       have k7 : Below w6.heap.size w6 (w6.drewN d7) := ⟨rfl, rfl, rfl, Nat.le_refl _, fun _ _ => rfl⟩;refine ⟨k + dn, v5, acc ++ [dp.drop rk], hkn, by go_num, P4'.out.keep k7, ?_, G6.out.turn (S := fun _ => False) (Turn.of_below _ k7) (fun _ _ => id) (fun _ _ _ => id), HNX.out, HLEN.out, below_step KK'.out k7⟩;unfold Hid;exact P7'.out.keep k7
      case measure =>
       have h8 := HD8.out;simp [intOf];omega
    ·have HBAD := hide (hS.out.bad hkx (.inr (by
      rw [<- hdp, <- hre, <- hrv, <- HNA.out, <- ht];by_cases h0 : re = 0
      ·exact .inr (fun h => hgood ⟨h0, h⟩)
      ·exact .inl h0)))
     have hcase : ((re : Int) != 0) = true \/ ((re : Int) != 0) = false /\ ((rv : Int) != (t : Int)) = true := by
      by_cases h0 : re = 0
      ·right
       have h1 : rv ≠ t := fun h => hgood ⟨h0, h⟩
       exact ⟨by simp [h0], by simp; omega⟩
      ·left
       simp;omega
     clear hde hdn hdp hdec hgood hkx hd0 hrv hrk hre hrin ht hrd hm hdn8 hdpb;subst he;rcases hcase with hz1 | ⟨hz1, hz2⟩
     ·go_wp2_with fail
      refine (HDEC.out _ (HI.out.keep hbel.out) HL.out HBD.out (by omega) hc1 (by omega)).mono ?_;rintro e w1 ⟨s1, rfl, o1, k1⟩;obtain ⟨A1, c1, rfl, i1, _, _⟩ := o1.isB.form (n := m) HM.out.symm;have I1 := hide i1;have Q4 := hide (P4.out.keep k1);have Q7 := hide (P7.out.keep k1);have HH := hide (hH.out.turn (S := fun _ => False) (Turn.of_below _ k1) (fun _ _ => id) (fun _ _ _ => id));have K1 := hide (below_step hbel.out k1);clear o1 k1 i1 r70 r71 r72 r40 r41 r42 f40 f41 f42;have r70 : w1.cell? ⟨b7, 0, none⟩ = some (.int .i64 (i : Int)) := Q7.out.cell 0;have r71 : w1.cell? ⟨b7, 1, none⟩ = some (.slice AL na cL) := Q7.out.cell 1;have r72 : w1.cell? ⟨b7, 2, none⟩ = some (.bool fr) := Q7.out.cell 2;have r40 : w1.cell? ⟨b4, 0, none⟩ = some (.int .i64 0) := Q4.out.cell 0;have r41 : w1.cell? ⟨b4, 1, none⟩ = some (.slice none 0 0) := Q4.out.cell 1;have r42 : w1.cell? ⟨b4, 2, none⟩ = some (.bool false) := Q4.out.cell 2;have f40 := Q4.out.frozen 0;have f41 := Q4.out.frozen 1;have f42 := Q4.out.frozen 2;go_wp2_with fail
      refine (HRD.out w1 A1 c1 I1.out).mono ?_;rintro e w9 ⟨rfl, rfl⟩;go_wp2_with fail
      obtain ⟨q2, q3, q4⟩ := pseg_store (w0 := w) Q4.out HH.out (fun h => h.2.1 rfl) (by rw [H4.out]; exact Nat.le_refl _) (.int .i64 (i : Int)) (.bool fr);obtain ⟨W2, hW2⟩ : ∃ W2, W2 = ((w1.setCell ⟨b4, 0, none⟩ (.int .i64 (i : Int))).setCell ⟨b4, 1, none⟩ (.slice AL na cL)).setCell ⟨b4, 2, none⟩ (.bool fr) := ⟨_, rfl⟩;rw [<- hW2] at q2 q3 q4 ⊢;have y0 : W2.cell? ⟨b4, 0, none⟩ = some (.int .i64 (i : Int)) := q2.cell 0;have y1 : W2.cell? ⟨b4, 1, none⟩ = some (.slice AL na cL) := q2.cell 1;have y2 : W2.cell? ⟨b4, 2, none⟩ = some (.bool fr) := q2.cell 2;refine bodyPost_ret (v := .agg #[.int .i64 (i : Int), .slice AL na cL, .bool fr]) (by simp [results, Tryz.results88, go_sem, y0, y1, y2]) rfl ⟨.slice AL na cL, ?_, ?_, K1.out.trans q4⟩
      ·rw [HFR.out];try simp
      ·rw [HBAD.out]; exact q3.mono (fun _ _ h => h.1)
     ·go_wp2_with fail
      refine (HDEC.out _ (HI.out.keep hbel.out) HL.out HBD.out (by omega) hc1 (by omega)).mono ?_;rintro e w1 ⟨s1, rfl, o1, k1⟩;obtain ⟨A1, c1, rfl, i1, _, _⟩ := o1.isB.form (n := m) HM.out.symm;have I1 := hide i1;have Q4 := hide (P4.out.keep k1);have Q7 := hide (P7.out.keep k1);have HH := hide (hH.out.turn (S := fun _ => False) (Turn.of_below _ k1) (fun _ _ => id) (fun _ _ _ => id));have K1 := hide (below_step hbel.out k1);clear o1 k1 i1 r70 r71 r72 r40 r41 r42 f40 f41 f42;have r70 : w1.cell? ⟨b7, 0, none⟩ = some (.int .i64 (i : Int)) := Q7.out.cell 0;have r71 : w1.cell? ⟨b7, 1, none⟩ = some (.slice AL na cL) := Q7.out.cell 1;have r72 : w1.cell? ⟨b7, 2, none⟩ = some (.bool fr) := Q7.out.cell 2;have r40 : w1.cell? ⟨b4, 0, none⟩ = some (.int .i64 0) := Q4.out.cell 0;have r41 : w1.cell? ⟨b4, 1, none⟩ = some (.slice none 0 0) := Q4.out.cell 1;have r42 : w1.cell? ⟨b4, 2, none⟩ = some (.bool false) := Q4.out.cell 2;have f40 := Q4.out.frozen 0;have f41 := Q4.out.frozen 1;have f42 := Q4.out.frozen 2;go_wp2_with fail
      refine (HRD.out w1 A1 c1 I1.out).mono ?_;rintro e w9 ⟨rfl, rfl⟩;go_wp2_with fail
      refine (HPN.out w1 r70 r71).mono ?_;rintro e w10 ⟨rfl, d3, rfl⟩;have k3 : Below w1.heap.size w1 (w1.drewN d3) := ⟨rfl, rfl, rfl, Nat.le_refl _, fun _ _ => rfl⟩;obtain ⟨W3, hW3⟩ : ∃ z, z = w1.drewN d3 := ⟨_, rfl⟩;rw [<- hW3] at k3 ⊢;have X4 := hide (Q4.out.keep k3);have X7 := hide (Q7.out.keep k3);have XH := hide (HH.out.turn (S := fun _ => False) (Turn.of_below _ k3) (fun _ _ => id) (fun _ _ _ => id));have XK := hide (below_step K1.out k3);have X3 := hide k3;clear k3 hW3 r70 r71 r72 r40 r41 r42 f40 f41 f42;have r70 : W3.cell? ⟨b7, 0, none⟩ = some (.int .i64 (i : Int)) := X7.out.cell 0;have r71 : W3.cell? ⟨b7, 1, none⟩ = some (.slice AL na cL) := X7.out.cell 1;have r72 : W3.cell? ⟨b7, 2, none⟩ = some (.bool fr) := X7.out.cell 2;have r40 : W3.cell? ⟨b4, 0, none⟩ = some (.int .i64 0) := X4.out.cell 0;have r41 : W3.cell? ⟨b4, 1, none⟩ = some (.slice none 0 0) := X4.out.cell 1;have r42 : W3.cell? ⟨b4, 2, none⟩ = some (.bool false) := X4.out.cell 2;have f40 := X4.out.frozen 0;have f41 := X4.out.frozen 1;have f42 := X4.out.frozen 2;go_wp2_with fail
      obtain ⟨q2, q3, q4⟩ := pseg_store (w0 := w) X4.out XH.out (fun h => h.2.1 rfl) (by rw [H4.out]; exact Nat.le_refl _) (.int .i64 (i : Int)) (.bool fr);obtain ⟨W2, hW2⟩ : ∃ W2, W2 = ((W3.setCell ⟨b4, 0, none⟩ (.int .i64 (i : Int))).setCell ⟨b4, 1, none⟩ (.slice AL na cL)).setCell ⟨b4, 2, none⟩ (.bool fr) := ⟨_, rfl⟩;rw [<- hW2] at q2 q3 q4 ⊢;have y0 : W2.cell? ⟨b4, 0, none⟩ = some (.int .i64 (i : Int)) := q2.cell 0;have y1 : W2.cell? ⟨b4, 1, none⟩ = some (.slice AL na cL) := q2.cell 1;have y2 : W2.cell? ⟨b4, 2, none⟩ = some (.bool fr) := q2.cell 2;refine bodyPost_ret (v := .agg #[.int .i64 (i : Int), .slice AL na cL, .bool fr]) (by simp [results, Tryz.results88, go_sem, y0, y1, y2]) rfl ⟨.slice AL na cL, ?_, ?_, XK.out.trans q4⟩
      ·rw [HFR.out];try simp
      ·rw [HBAD.out]; exact q3.mono (fun _ _ h => h.1)
   ·have HBAD := hide (hS.out.bad hkx (.inl (by rw [<- hde]; exact he)));have hne : ((de : Int) != 0) = true := by simp; omega
    have HDEC := hide hdec;clear hde hdn hdp hdec he hkx;go_wp2_with fail
    refine (HDEC.out _ (HI.out.keep hbel.out) HL.out HBD.out (by omega) hc1 (by omega)).mono ?_;rintro e w1 ⟨s1, rfl, o1, k1⟩;have Q4 := hide (P4.out.keep k1);have Q7 := hide (P7.out.keep k1);have HH := hide (hH.out.turn (S := fun _ => False) (Turn.of_below _ k1) (fun _ _ => id) (fun _ _ _ => id));have K1 := hide (below_step hbel.out k1);clear o1 k1 r70 r71 r72 r40 r41 r42 f40 f41 f42;have r70 : w1.cell? ⟨b7, 0, none⟩ = some (.int .i64 (i : Int)) := Q7.out.cell 0;have r71 : w1.cell? ⟨b7, 1, none⟩ = some (.slice AL na cL) := Q7.out.cell 1;have r72 : w1.cell? ⟨b7, 2, none⟩ = some (.bool fr) := Q7.out.cell 2;have r40 : w1.cell? ⟨b4, 0, none⟩ = some (.int .i64 0) := Q4.out.cell 0;have r41 : w1.cell? ⟨b4, 1, none⟩ = some (.slice none 0 0) := Q4.out.cell 1;have r42 : w1.cell? ⟨b4, 2, none⟩ = some (.bool false) := Q4.out.cell 2;have f40 := Q4.out.frozen 0;have f41 := Q4.out.frozen 1;have f42 := Q4.out.frozen 2;go_wp2_with fail
    obtain ⟨q2, q3, q4⟩ := pseg_store (w0 := w) Q4.out HH.out (fun h => h.2.1 rfl) (by rw [H4.out]; exact Nat.le_refl _) (.int .i64 (i : Int)) (.bool fr);obtain ⟨W2, hW2⟩ : ∃ W2, W2 = ((w1.setCell ⟨b4, 0, none⟩ (.int .i64 (i : Int))).setCell ⟨b4, 1, none⟩ (.slice AL na cL)).setCell ⟨b4, 2, none⟩ (.bool fr) := ⟨_, rfl⟩;rw [<- hW2] at q2 q3 q4 ⊢;have y0 : W2.cell? ⟨b4, 0, none⟩ = some (.int .i64 (i : Int)) := q2.cell 0;have y1 : W2.cell? ⟨b4, 1, none⟩ = some (.slice AL na cL) := q2.cell 1;have y2 : W2.cell? ⟨b4, 2, none⟩ = some (.bool fr) := q2.cell 2;refine bodyPost_ret (v := .agg #[.int .i64 (i : Int), .slice AL na cL, .bool fr]) (by simp [results, Tryz.results88, go_sem, y0, y1, y2]) rfl ⟨.slice AL na cL, ?_, ?_, K1.out.trans q4⟩
    ·rw [HFR.out];try simp
    ·rw [HBAD.out]; exact q3.mono (fun _ _ h => h.1)
  ·have HD := hide (hS.out.done (by rw [HN.out]; omega));go_wp2_with fail
   obtain ⟨q2, q3, q4⟩ := pseg_store (w0 := w) P4.out hH.out (fun h => h.2.1 rfl) (by rw [H4.out]; exact Nat.le_refl _) (.int .i64 (i : Int)) (.bool fr);obtain ⟨W2, hW2⟩ : ∃ W2, W2 = ((wr.setCell ⟨b4, 0, none⟩ (.int .i64 (i : Int))).setCell ⟨b4, 1, none⟩ (.slice AL na cL)).setCell ⟨b4, 2, none⟩ (.bool fr) := ⟨_, rfl⟩;rw [<- hW2] at q2 q3 q4 ⊢;have y0 : W2.cell? ⟨b4, 0, none⟩ = some (.int .i64 (i : Int)) := q2.cell 0;have y1 : W2.cell? ⟨b4, 1, none⟩ = some (.slice AL na cL) := q2.cell 1;have y2 : W2.cell? ⟨b4, 2, none⟩ = some (.bool fr) := q2.cell 2;refine bodyPost_ret (v := .agg #[.int .i64 (i : Int), .slice AL na cL, .bool fr]) (by simp [results, Tryz.results88, go_sem, y0, y1, y2]) rfl ⟨.slice AL na cL, ?_, ?_, hbel.out.trans q4⟩
   ·rw [HFR.out];try simp
   ·rw [HD.out]; exact q3.mono (fun _ _ h => h.1)
end Go.Proofs.YtedlibkkeegnaaaGreat
