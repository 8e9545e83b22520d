/- The law's own 'open' of the pair: both logs are opened, and stand by the same lists. No condition but the disks. The law's own 'does', the steps on the disks (a -/
import Derived.Test.YtbmhfnhfhdgdgaaGreatW45
import Derived.Test.YtbmhfnhfhdgdgaaGreatW6
namespace Go.Proofs.YtbmhfnhfhdgdgaaGreat
open Go.RowKit Go.Maps
variable {w w' w1 w2 : World} {F G Fd Gd F1 : Nat -> Prop} {L L' : DiskL} {s : ByteArray} {M : LogL} {B room l d p m q : Nat}
def logS : ByteArray := { data := #[108, 111, 103] }
structure DisksAt (B q : Nat) (w : World) (F Fd : Nat -> Prop) (d p room : Nat) (v2 v3 : Value) (L : DiskL) : Prop where
 disk : DiskAt w F d room L
 ref : RAt w Fd p room L
 sane : Sane room L
 apart : ∀ k, F k -> ¬ Fd k
 upP : ∀ k, F k -> B <= k
 upR : ∀ k, Fd k -> B <= k
 base : B <= w.heap.size
 blk : Blk w B 39 q [.pointer (some ⟨d, 0, none⟩), .pointer (some ⟨p, 0, none⟩), v2, v3]
 off : ∀ k, F k \/ Fd k -> k ≠ q
set_option maxRecDepth 100000 in
set_option maxHeartbeats 3200000 in
theorem pair_open {v2 v3 : Value} (h : DisksAt B q w F Fd d p room v2 v3 L) :
  Calls Tryz.prog 11 #[.pointer (some ⟨q, 0, none⟩)] w fun e w' => e = .returned (.bool true) /\ (∃ l m F' G' Fd' Gd', PairAt B q w' F' G' Fd' Gd' d l p m room logS (openR logS.data.toList L).log (openR logS.data.toList L).disk) /\ Below B w w' := by
 have x0 := h.blk.cell 0;dsimp only [List.getElem?_cons_zero] at x0;have HH := hide h;clear h;have hsz : logS.size = 3 := rfl;obtain ⟨R, hR⟩ : ∃ R, R = openR logS.data.toList L := ⟨_, rfl⟩;rw [<- hR];have HR := hide hR;clear hR;go_enter Tryz.func11, Tryz.ntmps11;go_wp2_with fail
 have hc := pro_open logS HH.out.disk (by omega) (by omega);rw [<- HR.out] at hc;refine hc.mono ?_;rintro e w1 ⟨l, rfl, F1, G1, hp1, t1, f1, g1⟩;have b1 := HH.out.blk.turn t1 (fun hk => HH.out.off q (.inl hk) rfl);have x1 := b1.cell 1;dsimp only [List.getElem?_cons_succ, List.getElem?_cons_zero] at x1;have hql := HH.out.blk.lt;have HP1 := hide hp1;have T1 := hide (And.intro t1 (And.intro f1 g1));have B1 := hide b1;have R1 := hide (HH.out.ref.turn t1 (fun k hk hf => HH.out.apart k hf hk));clear hc x0 hp1 t1 f1 g1 b1;go_wp2_with fail
 have hc := rlogopen_any w1 Fd p room logS L R1.out HH.out.sane (by omega) (by omega);rw [<- HR.out] at hc;refine hc.mono ?_;rintro e w2 ⟨m, rfl, Fd2, Gd2, hr2, t2, f2, g2⟩;have b2 := B1.out.turn t2 (fun hk => HH.out.off q (.inr hk) rfl);have z2 := b2.frozen 2;have z3 := b2.frozen 3;have y2 := b2.cell 2;have y3 := b2.cell 3;dsimp only [List.getElem?_cons_succ, List.getElem?_cons_zero] at y2 y3;have hql1 := B1.out.lt;have hlow2 : ∀ k, (F1 k \/ G1 k) -> k < w1.heap.size := HP1.out.low;have hp2 := HP1.out.turn t2 (fun k hk hf => by
  have hl := HH.out.ref.low k hf;rcases hk with hk | hk
  ·rcases T1.out.2.1 k hk with h9 | h9
   ·exact HH.out.apart k h9 hf
   ·omega
  ·have h9 := T1.out.2.2 k hk;omega)
 have hoff : ∀ k, (F1 k \/ G1 k) \/ (Fd2 k \/ Gd2 k) -> k ≠ q := fun k hk => by
  rcases hk with (hk | hk) | (hk | hk)
  ·rcases T1.out.2.1 k hk with h9 | h9
   ·exact HH.out.off k (.inl h9)
   ·omega
  ·have h9 := T1.out.2.2 k hk; omega
  ·rcases f2 k hk with h9 | h9
   ·exact HH.out.off k (.inr h9)
   ·omega
  ·have h9 := g2 k hk; omega
 have tq : Turn (fun k => k = q) w2 ((w2.setCell ⟨q, 2, none⟩ (.pointer (some ⟨l, 0, none⟩))).setCell ⟨q, 3, none⟩ (.pointer (some ⟨m, 0, none⟩))) := by
  have u1 := (Turn.of_grown (grown_set w2 q 2 (.pointer (some ⟨l, 0, none⟩)))).mono (S' := fun k => k = q) (fun i e => Option.some.inj e);have u2 := (Turn.of_grown (grown_set (w2.setCell ⟨q, 2, none⟩ (.pointer (some ⟨l, 0, none⟩))) q 3 (.pointer (some ⟨m, 0, none⟩)))).mono (S' := fun k => k = q) (fun i e => Option.some.inj e);exact u1.trans u2
 have b3 := (b2.stored 2 (.pointer (some ⟨l, 0, none⟩))).stored 3 (.pointer (some ⟨m, 0, none⟩));have hend : PairAt B q ((w2.setCell ⟨q, 2, none⟩ (.pointer (some ⟨l, 0, none⟩))).setCell ⟨q, 3, none⟩ (.pointer (some ⟨m, 0, none⟩))) F1 G1 Fd2 Gd2 d l p m room logS R.log R.disk :=
  ⟨⟨hp2.turn tq (fun k hk => hoff k (.inl hk)), hr2.turn tq (fun k hk => hoff k (.inr hk)), fun k hk hr => by
    have hl := hlow2 k hk;rcases hr with hr | hr
    ·rcases f2 k hr with h9 | h9
     ·have hl2 := HH.out.ref.low k h9;rcases hk with hk | hk
      ·rcases T1.out.2.1 k hk with h8 | h8
       ·exact HH.out.apart k h8 h9
       ·omega
      ·have h8 := T1.out.2.2 k hk; omega
     ·omega
    ·have h9 := g2 k hr; omega, fun k hk => by
    have hb := HH.out.base;rcases hk with hk | hk
    ·rcases T1.out.2.1 k hk with h8 | h8
     ·exact HH.out.upP k h8
     ·omega
    ·have h8 := T1.out.2.2 k hk; omega, fun k hk => by
    have hb := HH.out.base;have hs := T1.out.1.size;rcases hk with hk | hk
    ·rcases f2 k hk with h8 | h8
     ·exact HH.out.upR k h8
     ·omega
    ·have h8 := g2 k hk; omega, Nat.le_trans (Nat.le_trans HH.out.base T1.out.1.size) (Nat.le_trans t2.size tq.size)⟩, b3, hoff⟩
 have hbel : Below B w ((w2.setCell ⟨q, 2, none⟩ (.pointer (some ⟨l, 0, none⟩))).setCell ⟨q, 3, none⟩ (.pointer (some ⟨m, 0, none⟩))) :=
  ((T1.out.1.below HH.out.base HH.out.upP).trans (t2.below (Nat.le_trans HH.out.base T1.out.1.size) HH.out.upR)).trans (tq.below (Nat.le_trans (Nat.le_trans HH.out.base T1.out.1.size) t2.size) (fun k e => by rw [e]; exact HH.out.blk.1))
 have HE := hide hend;have HBL := hide hbel;clear hend hbel tq b3 b2 hoff hp2 hr2 t2 f2 g2 hc x1 hlow2;go_wp2_with fail
 go_ret;exact ⟨rfl, ⟨_, _, _, _, _, _, HE.out⟩, HBL.out⟩
theorem abs_names10 (X : List (Str × Fil)) : (absX X).map (·.1) = X.map (·.1) := by unfold absX mapK; rw [List.map_map]; rfl
theorem PairAt.disks (h : PairAt B q w F G Fd Gd d l p m room s M L) : DisksAt B q w F Fd d p room (.pointer (some ⟨l, 0, none⟩)) (.pointer (some ⟨m, 0, none⟩)) L := by
 obtain ⟨P, hb, _⟩ := h.duo.pro;exact ⟨hb.disk, h.duo.ref.disk, h.duo.ref.sane, fun k hk hf => h.duo.apart k (.inl hk) (.inl hf), fun k hk => h.duo.upP k (.inl hk), fun k hk => h.duo.upR k (.inl hk), h.duo.base, h.blk, fun k hk => h.off k (hk.elim (fun h => .inl (.inl h)) (fun h => .inr (.inl h)))⟩
structure DMid (B q : Nat) (w : World) (F Fd : Nat -> Prop) (d p room : Nat) (v2 v3 : Value) (L' L : DiskL) : Prop where
 disk : DiskAt w F d room L'
 ref : RAt w Fd p room L
 sane : Sane room L
 apart : ∀ k, F k -> ¬ Fd k
 upP : ∀ k, F k -> B <= k
 upR : ∀ k, Fd k -> B <= k
 base : B <= w.heap.size
 blk : Blk w B 39 q [.pointer (some ⟨d, 0, none⟩), .pointer (some ⟨p, 0, none⟩), v2, v3]
 off : ∀ k, F k \/ Fd k -> k ≠ q
theorem DisksAt.below {v2 v3 : Value} (h : DisksAt B q w F Fd d p room v2 v3 L) (k : Below w.heap.size w w') : DisksAt B q w' F Fd d p room v2 v3 L :=
 ⟨h.disk.below k, h.ref.turn (S := fun _ => False) (Turn.of_below _ k) (fun _ _ h => h), h.sane, h.apart, h.upP, h.upR, Nat.le_trans h.base k.size, h.blk.keep k, h.off⟩
theorem DMid.below {v2 v3 : Value} (h : DMid B q w F Fd d p room v2 v3 L' L) (k : Below w.heap.size w w') : DMid B q w' F Fd d p room v2 v3 L' L :=
 ⟨h.disk.below k, h.ref.turn (S := fun _ => False) (Turn.of_below _ k) (fun _ _ h => h), h.sane, h.apart, h.upP, h.upR, Nat.le_trans h.base k.size, h.blk.keep k, h.off⟩
theorem DisksAt.first {v2 v3 : Value} (h : DisksAt B q w F Fd d p room v2 v3 L) (d1 : DiskAt w1 F1 d room L') (n : Next F w F1 w1) : DMid B q w1 F1 Fd d p room v2 v3 L' L /\ Below B w w1 := by
 have hb := h.base;have hq := h.blk.lt;refine ⟨⟨d1, h.ref.turn n.turn (fun k hk hf => h.apart k hf hk), h.sane, fun k hk hr => ?_, n.up hb h.upP, h.upR, Nat.le_trans hb n.turn.size, h.blk.turn n.turn (fun hk => h.off q (.inl hk) rfl), fun k hk => ?_⟩, n.below hb h.upP⟩
 ·have hl := h.ref.low k hr;rcases n.foot k hk with h9 | h9
  ·exact h.apart k h9 hr
  ·omega
 ·rcases hk with hk | hk
  ·rcases n.foot k hk with h9 | h9
   ·exact h.off k (.inl h9)
   ·omega
  ·exact h.off k (.inr hk)
theorem DMid.second {Fd2 : Nat -> Prop} {v2 v3 : Value} (h : DMid B q w1 F Fd d p room v2 v3 L' L) (r2 : RAt w2 Fd2 p room L') (n : Next Fd w1 Fd2 w2) : DisksAt B q w2 F Fd2 d p room v2 v3 L' /\ Below B w1 w2 := by
 have hb := h.base;have hq := h.blk.lt;refine ⟨⟨h.disk.turn n.turn (fun k hk hf => h.apart k hk hf), r2, h.disk.sane, fun k hk hr => ?_, h.upP, n.up hb h.upR, Nat.le_trans hb n.turn.size, h.blk.turn n.turn (fun hk => h.off q (.inr hk) rfl), fun k hk => ?_⟩, n.below hb h.upR⟩
 ·have hl := h.disk.low k hk;rcases n.foot k hr with h9 | h9
  ·exact h.apart k hk h9
  ·omega
 ·rcases hk with hk | hk
  ·exact h.off k (.inl hk)
  ·rcases n.foot k hk with h9 | h9
   ·exact h.off k (.inr h9)
   ·omega
def Opened (B q d p room : Nat) (L : DiskL) (w' : World) : Prop := (∃ l m F' G' Fd' Gd', PairAt B q w' F' G' Fd' Gd' d l p m room logS (openR logS.data.toList L).log (openR logS.data.toList L).disk) /\ (∀ x ∈ L, ∀ b ∈ x.2.1, b < 256) /\ L.length <= 256
set_option maxRecDepth 100000 in
set_option maxHeartbeats 3200000 in
theorem does_crash {v2 v3 : Value} (h : DisksAt B q w F Fd d p room v2 v3 L) (N K : Int) (A : Option Addr) (n c y : Nat) :
  Calls Tryz.prog 12 #[.pointer (some ⟨q, 0, none⟩), .agg #[.int .i64 6, .int .i64 N, .int .i64 K, .slice A n c, .int .u8 (y : Int)]] w fun e w' => e = .returned (.bool true) /\ Opened B q d p room (crashD N.toNat L) w' /\ Below B w w' := by
 have kb := below_alloc w (.cells #[.int .i64 6, .int .i64 N, .int .i64 K, .slice A n c, .int .u8 (y : Int)] 42);have bx := Blk.new w (B := 0) 42 #[.int .i64 6, .int .i64 N, .int .i64 K, .slice A n c, .int .u8 (y : Int)] (Nat.zero_le _);obtain ⟨g0, hg0⟩ : ∃ g, g = w.heap.size := ⟨_, rfl⟩;have hx0 : ¬ F g0 := fun hk => by have := h.disk.low g0 hk; omega
 have hx1 : ¬ Fd g0 := fun hk => by have := h.ref.low g0 hk; omega
 have HX := hide (And.intro hx0 hx1);have KB := hide (kb.mono h.base);have H0 := hide (h.below kb);clear h kb hx0 hx1;go_enter Tryz.func12, Tryz.ntmps12;go_wp2_with fail
 obtain ⟨W, hW⟩ : ∃ W, W = w.alloc (.cells #[.int .i64 6, .int .i64 N, .int .i64 K, .slice A n c, .int .u8 (y : Int)] 42) := ⟨_, rfl⟩;rw [<- hW, <- hg0] at bx;rw [<- hW] at KB H0;rw [<- hW, <- hg0];have BX := hide bx;clear hW hg0 bx;refine heldT_top (fun W' => W'.cell? ⟨q, 0, none⟩ = some (.pointer (some ⟨d, 0, none⟩)) /\ W'.cell? ⟨q, 1, none⟩ = some (.pointer (some ⟨p, 0, none⟩)) /\ W'.cell? ⟨g0, 1, none⟩ = some (.int .i64 N) /\ W'.cell? ⟨g0, 2, none⟩ = some (.int .i64 K) /\ W'.cell? ⟨g0, 4, none⟩ = some (.int .u8 (y : Int))) 7 #[false, false, false, false, false, false, false] (by kernel_rfl) (by kernel_rfl) (by kernel_rfl) ?_;have hHeld : (fun W' => W'.cell? ⟨q, 0, none⟩ = some (.pointer (some ⟨d, 0, none⟩)) /\ W'.cell? ⟨q, 1, none⟩ = some (.pointer (some ⟨p, 0, none⟩)) /\ W'.cell? ⟨g0, 1, none⟩ = some (.int .i64 N) /\ W'.cell? ⟨g0, 2, none⟩ = some (.int .i64 K) /\ W'.cell? ⟨g0, 4, none⟩ = some (.int .u8 (y : Int))) (W.drewN 1) := ⟨H0.out.blk.cell 0, H0.out.blk.cell 1, BX.out.cell 1, BX.out.cell 2, BX.out.cell 4⟩;have H0 := hide (H0.out.below (below_drewN (Below.refl _ _) 1));have BX := hide (BX.out.drewN 1);have KB := hide (below_drewN KB.out 1);change wpAnyH _ _ _ _ _ _ _ _ (W.drewN 1);generalize W.drewN 1 = V1 at *
 iterate 6
  first | refine' tkH 0 rfl hHeld rfl ?_ ?_ | refine' tkH 1 rfl hHeld rfl ?_ ?_ | refine' tkH 2 rfl hHeld rfl ?_ ?_ | refine' tkH 3 rfl hHeld rfl ?_ ?_ | refine' tkH 4 rfl hHeld rfl ?_ ?_ | refine' tkH 5 rfl hHeld rfl ?_ ?_
  rotate_left
  ·(intro W' hW; (try dsimp only at hW); obtain ⟨z0, z1, z2, z3, z4⟩ := hW; go_simp; (try with_reducible rfl))
  try simp only [Act.put, List.setIfInBounds_toArray, List.set_cons_zero, List.set_cons_succ]
 clear hHeld;refine heldT_one (i := 6) (by kernel_rfl) rfl (fun K' hK => ?_);go_simp;go_at_call 26;refine (crash_any _ d room L N V1 H0.out.disk).mono ?_;rintro e uV1 ⟨rfl, F1, d1, n1⟩;obtain ⟨m1, k1⟩ := H0.out.first d1 n1;have HM := hide m1;have BX := hide (BX.out.turn n1.turn HX.out.1);have KB := hide (KB.out.trans k1);clear d1 n1 m1 k1 H0;have hHeld : (fun W' => W'.cell? ⟨q, 0, none⟩ = some (.pointer (some ⟨d, 0, none⟩)) /\ W'.cell? ⟨q, 1, none⟩ = some (.pointer (some ⟨p, 0, none⟩)) /\ W'.cell? ⟨g0, 1, none⟩ = some (.int .i64 N) /\ W'.cell? ⟨g0, 2, none⟩ = some (.int .i64 K) /\ W'.cell? ⟨g0, 4, none⟩ = some (.int .u8 (y : Int))) uV1 := ⟨HM.out.blk.cell 0, HM.out.blk.cell 1, BX.out.cell 1, BX.out.cell 2, BX.out.cell 4⟩;refine hK.out _ _ hHeld ?_;clear hK hHeld;try simp only [List.setIfInBounds_toArray, List.set_cons_zero, List.set_cons_succ]
 refine wpAnyH_done (by kernel_rfl) ?_ _;go_wp2_with fail
 refine heldT_top (fun W' => W'.cell? ⟨q, 0, none⟩ = some (.pointer (some ⟨d, 0, none⟩)) /\ W'.cell? ⟨q, 1, none⟩ = some (.pointer (some ⟨p, 0, none⟩)) /\ W'.cell? ⟨g0, 1, none⟩ = some (.int .i64 N) /\ W'.cell? ⟨g0, 2, none⟩ = some (.int .i64 K) /\ W'.cell? ⟨g0, 4, none⟩ = some (.int .u8 (y : Int))) 7 #[false, false, false, false, false, false, false] (by kernel_rfl) (by kernel_rfl) (by kernel_rfl) ?_;have hHeld : (fun W' => W'.cell? ⟨q, 0, none⟩ = some (.pointer (some ⟨d, 0, none⟩)) /\ W'.cell? ⟨q, 1, none⟩ = some (.pointer (some ⟨p, 0, none⟩)) /\ W'.cell? ⟨g0, 1, none⟩ = some (.int .i64 N) /\ W'.cell? ⟨g0, 2, none⟩ = some (.int .i64 K) /\ W'.cell? ⟨g0, 4, none⟩ = some (.int .u8 (y : Int))) (uV1.drewN 1) := ⟨HM.out.blk.cell 0, HM.out.blk.cell 1, BX.out.cell 1, BX.out.cell 2, BX.out.cell 4⟩;have HM := hide (HM.out.below (below_drewN (Below.refl _ _) 1));have BX := hide (BX.out.drewN 1);have KB := hide (below_drewN KB.out 1);change wpAnyH _ _ _ _ _ _ _ _ (uV1.drewN 1);generalize uV1.drewN 1 = V2 at *
 iterate 6
  first | refine' tkH 0 rfl hHeld rfl ?_ ?_ | refine' tkH 1 rfl hHeld rfl ?_ ?_ | refine' tkH 2 rfl hHeld rfl ?_ ?_ | refine' tkH 3 rfl hHeld rfl ?_ ?_ | refine' tkH 4 rfl hHeld rfl ?_ ?_ | refine' tkH 5 rfl hHeld rfl ?_ ?_
  rotate_left
  ·(intro W' hW; (try dsimp only at hW); obtain ⟨z0, z1, z2, z3, z4⟩ := hW; go_simp; (try with_reducible rfl))
  try simp only [Act.put, List.setIfInBounds_toArray, List.set_cons_zero, List.set_cons_succ]
 clear hHeld;refine heldT_one (i := 6) (by kernel_rfl) rfl (fun K' hK => ?_);go_simp;go_at_call 48;refine (rcrash_at _ p room L V2 HM.out.ref HM.out.sane N).mono ?_;rintro e uV2 ⟨rfl, F2, d2, n2⟩;obtain ⟨m2, k2⟩ := HM.out.second d2 n2;have HE := hide m2;have BX := hide (BX.out.turn n2.turn HX.out.2);have KB := hide (KB.out.trans k2);clear d2 n2 m2 k2 HM;have hHeld : (fun W' => W'.cell? ⟨q, 0, none⟩ = some (.pointer (some ⟨d, 0, none⟩)) /\ W'.cell? ⟨q, 1, none⟩ = some (.pointer (some ⟨p, 0, none⟩)) /\ W'.cell? ⟨g0, 1, none⟩ = some (.int .i64 N) /\ W'.cell? ⟨g0, 2, none⟩ = some (.int .i64 K) /\ W'.cell? ⟨g0, 4, none⟩ = some (.int .u8 (y : Int))) uV2 := ⟨HE.out.blk.cell 0, HE.out.blk.cell 1, BX.out.cell 1, BX.out.cell 2, BX.out.cell 4⟩;refine hK.out _ _ hHeld ?_;clear hK hHeld;try simp only [List.setIfInBounds_toArray, List.set_cons_zero, List.set_cons_succ]
 refine wpAnyH_done (by kernel_rfl) ?_ _;go_wp2_with fail
 refine (pair_open HE.out).mono ?_;rintro e w9 ⟨rfl, ho0, k9⟩;have ho : Opened B q d p room _ w9 := ⟨ho0, fun x hx => (HE.out.disk.facts.2.2.2.2.1 x hx).2, HE.out.disk.facts.2.1⟩;clear ho0;go_wp2_with fail
 go_ret;exact ⟨rfl, ho, KB.out.trans k9⟩
set_option maxRecDepth 100000 in
set_option maxHeartbeats 3200000 in
theorem does_other {v2 v3 : Value} (h : DisksAt B q w F Fd d p room v2 v3 L) (N K : Int) (A : Option Addr) (n c y : Nat) (T : Int) (hT : T ≠ 1 /\ T ≠ 2 /\ T ≠ 3 /\ T ≠ 4 /\ T ≠ 5 /\ T ≠ 6 /\ T ≠ 8 /\ T ≠ 9) :
  Calls Tryz.prog 12 #[.pointer (some ⟨q, 0, none⟩), .agg #[.int .i64 T, .int .i64 N, .int .i64 K, .slice A n c, .int .u8 (y : Int)]] w fun e w' => e = .returned (.bool true) /\ Opened B q d p room L w' /\ Below B w w' := by
 have kb := below_alloc w (.cells #[.int .i64 T, .int .i64 N, .int .i64 K, .slice A n c, .int .u8 (y : Int)] 42);have bx := Blk.new w (B := 0) 42 #[.int .i64 T, .int .i64 N, .int .i64 K, .slice A n c, .int .u8 (y : Int)] (Nat.zero_le _);obtain ⟨g0, hg0⟩ : ∃ g, g = w.heap.size := ⟨_, rfl⟩;have hx0 : ¬ F g0 := fun hk => by have := h.disk.low g0 hk; omega
 have hx1 : ¬ Fd g0 := fun hk => by have := h.ref.low g0 hk; omega
 have HX := hide (And.intro hx0 hx1);have KB := hide (kb.mono h.base);have H0 := hide (h.below kb);clear h kb hx0 hx1;obtain ⟨e1, e2, e3, e4, e5, e6, e8, e9⟩ := hT;have f1 : (T == 1) = false := by simpa using e1
 have f2 : (T == 2) = false := by simpa using e2
 have f3 : (T == 3) = false := by simpa using e3
 have f4 : (T == 4) = false := by simpa using e4
 have f5 : (T == 5) = false := by simpa using e5
 have f6 : (T == 6) = false := by simpa using e6
 have f8 : (T == 8) = false := by simpa using e8
 have f9 : (T == 9) = false := by simpa using e9
 clear e1 e2 e3 e4 e5 e6 e8 e9;go_enter Tryz.func12, Tryz.ntmps12;go_wp2_with fail
 obtain ⟨W, hW⟩ : ∃ W, W = w.alloc (.cells #[.int .i64 T, .int .i64 N, .int .i64 K, .slice A n c, .int .u8 (y : Int)] 42) := ⟨_, rfl⟩;rw [<- hW, <- hg0] at bx;rw [<- hW] at KB H0;rw [<- hW, <- hg0];have BX := hide bx;clear hW hg0 bx;refine (pair_open H0.out).mono ?_;rintro e w9 ⟨rfl, ho0, k9⟩;have ho : Opened B q d p room _ w9 := ⟨ho0, fun x hx => (H0.out.disk.facts.2.2.2.2.1 x hx).2, H0.out.disk.facts.2.1⟩;clear ho0;go_wp2_with fail
 go_ret;exact ⟨rfl, ho, KB.out.trans k9⟩
set_option maxRecDepth 100000 in
set_option maxHeartbeats 3200000 in
theorem does_rot {v2 v3 : Value} (h : DisksAt B q w F Fd d p room v2 v3 L) (N K : Int) (A : Option Addr) (n c y : Nat) (hy : y < 256) :
  Calls Tryz.prog 12 #[.pointer (some ⟨q, 0, none⟩), .agg #[.int .i64 8, .int .i64 N, .int .i64 K, .slice A n c, .int .u8 (y : Int)]] w fun e w' => e = .returned (.bool true) /\ (Below w.heap.size w w' \/ ∃ t : Str, Opened B q d p room (rotL t K y L).1 w') /\ Below B w w' := by
 have kb := below_alloc w (.cells #[.int .i64 8, .int .i64 N, .int .i64 K, .slice A n c, .int .u8 (y : Int)] 42);have bx := Blk.new w (B := 0) 42 #[.int .i64 8, .int .i64 N, .int .i64 K, .slice A n c, .int .u8 (y : Int)] (Nat.zero_le _);obtain ⟨g0, hg0⟩ : ∃ g, g = w.heap.size := ⟨_, rfl⟩;have hx0 : ¬ F g0 := fun hk => by have := h.disk.low g0 hk; omega
 have hx1 : ¬ Fd g0 := fun hk => by have := h.ref.low g0 hk; omega
 have HX := hide (And.intro hx0 hx1);have KB := hide (kb.mono h.base);have H0 := hide (h.below kb);clear h kb hx0 hx1;have KW := hide (below_alloc w (.cells #[.int .i64 8, .int .i64 N, .int .i64 K, .slice A n c, .int .u8 (y : Int)] 42));have x1 := H0.out.blk.cell 1;dsimp only [List.getElem?_cons_succ, List.getElem?_cons_zero] at x1;have HY := hide hy;clear hy;go_enter Tryz.func12, Tryz.ntmps12;go_wp2_with fail
 obtain ⟨W, hW⟩ : ∃ W, W = w.alloc (.cells #[.int .i64 8, .int .i64 N, .int .i64 K, .slice A n c, .int .u8 (y : Int)] 42) := ⟨_, rfl⟩;rw [<- hW, <- hg0] at bx;rw [<- hW] at KB H0 KW;rw [<- hW, <- hg0];have BX := hide bx;clear hW hg0 bx;skip;obtain ⟨v0, X0, hX, hr0⟩ := H0.out.ref;have hfew : X0.length <= 256 := by rw [<- absX_length, <- hX]; exact H0.out.sane.few
 refine (rlist_any Fd p room v0 X0 W hr0 hfew).mono ?_;rintro e w1 ⟨v1, rfl, o1, k1⟩;rw [<- abs_names10, <- hX] at o1;obtain ⟨M, hM⟩ : ∃ M, M = L.length := ⟨_, rfl⟩;obtain ⟨A1, c1, rfl, l1, m1, q1⟩ := o1.rows (n := M) (by rw [List.length_map, hM]);have Q1 := hide q1;have HM := hide hM;have H1 := hide (H0.out.below k1);have BX := hide (BX.out.keep k1);have KW := hide (KW.out.trans (k1.mono KW.out.size));have KB := hide (KB.out.trans (k1.mono H0.out.base));have b0 := BX.out.cell 0;have b1 := BX.out.cell 1;dsimp only [Array.toList, List.getElem?_cons_succ, List.getElem?_cons_zero] at b0 b1;clear x1 o1 k1 q1 hM hX hr0 hfew H0;have hMM : M <= 9223372036854775807 := by omega
 rcases Nat.eq_zero_or_pos M with hz | hz
 ·have t1 : ((M : Int) == 0) = true := by rw [hz]; rfl
  clear hz;go_wp2_with fail
  go_ret;exact ⟨rfl, .inl KW.out, KB.out⟩
 ·have t1 : ((M : Int) == 0) = false := by simp; omega
  by_cases hN : N < 0
  ·go_wp2_with fail
   go_ret;exact ⟨rfl, .inl KW.out, KB.out⟩
  ·have hr0 : 0 <= N % (M : Int) := Int.emod_nonneg _ (by omega);have hr1 : N % (M : Int) < (M : Int) := Int.emod_lt_of_pos _ (by omega);obtain ⟨g1, rfl, hc⟩ := Q1.out (N % (M : Int)).toNat (by omega);obtain ⟨s, hs, hs2⟩ := str_at ((L.map (·.1)).getD (N % (M : Int)).toNat []);rw [hs] at hc;have hs64 : s.size <= 64 := by
    have hlt : (N % (M : Int)).toNat < L.length := by rw [<- HM.out]; omega
    have h1 : s.data.toList = L[(N % (M : Int)).toNat].1 := by rw [hs2, List.getD_eq_getElem?_getD, List.getElem?_map, List.getElem?_eq_getElem hlt]; rfl
    have h2 := H1.out.disk.facts.2.2.2.2.2 _ (List.getElem_mem hlt);rw [<- h1, str_len] at h2;exact h2
   have HS := hide hs64;clear hs hs2 hs64 Q1 HM;go_wp2_with fail
   clear hc b0 b1 t1 hr0 hr1;refine heldT_top (fun W' => W'.cell? ⟨q, 0, none⟩ = some (.pointer (some ⟨d, 0, none⟩)) /\ W'.cell? ⟨q, 1, none⟩ = some (.pointer (some ⟨p, 0, none⟩)) /\ W'.cell? ⟨g0, 1, none⟩ = some (.int .i64 N) /\ W'.cell? ⟨g0, 2, none⟩ = some (.int .i64 K) /\ W'.cell? ⟨g0, 4, none⟩ = some (.int .u8 (y : Int))) 10 #[false, false, false, false, false, false, false, false, false, false] (by kernel_rfl) (by kernel_rfl) (by kernel_rfl) ?_;have hHeld : (fun W' => W'.cell? ⟨q, 0, none⟩ = some (.pointer (some ⟨d, 0, none⟩)) /\ W'.cell? ⟨q, 1, none⟩ = some (.pointer (some ⟨p, 0, none⟩)) /\ W'.cell? ⟨g0, 1, none⟩ = some (.int .i64 N) /\ W'.cell? ⟨g0, 2, none⟩ = some (.int .i64 K) /\ W'.cell? ⟨g0, 4, none⟩ = some (.int .u8 (y : Int))) (w1.drewN 1) := ⟨H1.out.blk.cell 0, H1.out.blk.cell 1, BX.out.cell 1, BX.out.cell 2, BX.out.cell 4⟩;have H1 := hide (H1.out.below (below_drewN (Below.refl _ _) 1));have BX := hide (BX.out.drewN 1);have KB := hide (below_drewN KB.out 1);change wpAnyH _ _ _ _ _ _ _ _ (w1.drewN 1);generalize w1.drewN 1 = V1 at *
   iterate 9
    first | refine' tkH 0 rfl hHeld rfl ?_ ?_ | refine' tkH 1 rfl hHeld rfl ?_ ?_ | refine' tkH 2 rfl hHeld rfl ?_ ?_ | refine' tkH 3 rfl hHeld rfl ?_ ?_ | refine' tkH 4 rfl hHeld rfl ?_ ?_ | refine' tkH 5 rfl hHeld rfl ?_ ?_ | refine' tkH 6 rfl hHeld rfl ?_ ?_ | refine' tkH 7 rfl hHeld rfl ?_ ?_ | refine' tkH 8 rfl hHeld rfl ?_ ?_
    rotate_left
    ·(intro W' hW; (try dsimp only at hW); obtain ⟨z0, z1, z2, z3, z4⟩ := hW; go_simp; (try with_reducible rfl))
    try simp only [Act.put, List.setIfInBounds_toArray, List.set_cons_zero, List.set_cons_succ]
   clear hHeld;refine heldT_one (i := 9) (by kernel_rfl) rfl (fun K' hK => ?_);go_simp;go_at_call 50;refine (rot_any _ d room L s V1 H1.out.disk (by have := HS.out; omega) K y HY.out).mono ?_;rintro e uV1 ⟨rfl, F1, d1, n1⟩;obtain ⟨m1, k1⟩ := H1.out.first d1 n1;have HM := hide m1;have BX := hide (BX.out.turn n1.turn HX.out.1);have KB := hide (KB.out.trans k1);clear d1 n1 m1 k1 H1;have hHeld : (fun W' => W'.cell? ⟨q, 0, none⟩ = some (.pointer (some ⟨d, 0, none⟩)) /\ W'.cell? ⟨q, 1, none⟩ = some (.pointer (some ⟨p, 0, none⟩)) /\ W'.cell? ⟨g0, 1, none⟩ = some (.int .i64 N) /\ W'.cell? ⟨g0, 2, none⟩ = some (.int .i64 K) /\ W'.cell? ⟨g0, 4, none⟩ = some (.int .u8 (y : Int))) uV1 := ⟨HM.out.blk.cell 0, HM.out.blk.cell 1, BX.out.cell 1, BX.out.cell 2, BX.out.cell 4⟩;refine hK.out _ _ hHeld ?_;clear hK hHeld;try simp only [List.setIfInBounds_toArray, List.set_cons_zero, List.set_cons_succ]
   refine wpAnyH_done (by kernel_rfl) ?_ _;go_wp2_with fail
   refine heldT_top (fun W' => W'.cell? ⟨q, 0, none⟩ = some (.pointer (some ⟨d, 0, none⟩)) /\ W'.cell? ⟨q, 1, none⟩ = some (.pointer (some ⟨p, 0, none⟩)) /\ W'.cell? ⟨g0, 1, none⟩ = some (.int .i64 N) /\ W'.cell? ⟨g0, 2, none⟩ = some (.int .i64 K) /\ W'.cell? ⟨g0, 4, none⟩ = some (.int .u8 (y : Int))) 10 #[false, false, false, false, false, false, false, false, false, false] (by kernel_rfl) (by kernel_rfl) (by kernel_rfl) ?_;have hHeld : (fun W' => W'.cell? ⟨q, 0, none⟩ = some (.pointer (some ⟨d, 0, none⟩)) /\ W'.cell? ⟨q, 1, none⟩ = some (.pointer (some ⟨p, 0, none⟩)) /\ W'.cell? ⟨g0, 1, none⟩ = some (.int .i64 N) /\ W'.cell? ⟨g0, 2, none⟩ = some (.int .i64 K) /\ W'.cell? ⟨g0, 4, none⟩ = some (.int .u8 (y : Int))) (uV1.drewN 1) := ⟨HM.out.blk.cell 0, HM.out.blk.cell 1, BX.out.cell 1, BX.out.cell 2, BX.out.cell 4⟩;have HM := hide (HM.out.below (below_drewN (Below.refl _ _) 1));have BX := hide (BX.out.drewN 1);have KB := hide (below_drewN KB.out 1);change wpAnyH _ _ _ _ _ _ _ _ (uV1.drewN 1);generalize uV1.drewN 1 = V2 at *
   iterate 9
    first | refine' tkH 0 rfl hHeld rfl ?_ ?_ | refine' tkH 1 rfl hHeld rfl ?_ ?_ | refine' tkH 2 rfl hHeld rfl ?_ ?_ | refine' tkH 3 rfl hHeld rfl ?_ ?_ | refine' tkH 4 rfl hHeld rfl ?_ ?_ | refine' tkH 5 rfl hHeld rfl ?_ ?_ | refine' tkH 6 rfl hHeld rfl ?_ ?_ | refine' tkH 7 rfl hHeld rfl ?_ ?_ | refine' tkH 8 rfl hHeld rfl ?_ ?_
    rotate_left
    ·(intro W' hW; (try dsimp only at hW); obtain ⟨z0, z1, z2, z3, z4⟩ := hW; go_simp; (try with_reducible rfl))
    try simp only [Act.put, List.setIfInBounds_toArray, List.set_cons_zero, List.set_cons_succ]
   clear hHeld;refine heldT_one (i := 9) (by kernel_rfl) rfl (fun K' hK => ?_);go_simp;go_at_call 51;refine (rrot_any _ p room L s V2 HM.out.ref HM.out.sane K y HY.out).mono ?_;rintro e uV2 ⟨rfl, F2, d2, n2⟩;obtain ⟨m2, k2⟩ := HM.out.second d2 n2;have HE := hide m2;have BX := hide (BX.out.turn n2.turn HX.out.2);have KB := hide (KB.out.trans k2);clear d2 n2 m2 k2 HM;have hHeld : (fun W' => W'.cell? ⟨q, 0, none⟩ = some (.pointer (some ⟨d, 0, none⟩)) /\ W'.cell? ⟨q, 1, none⟩ = some (.pointer (some ⟨p, 0, none⟩)) /\ W'.cell? ⟨g0, 1, none⟩ = some (.int .i64 N) /\ W'.cell? ⟨g0, 2, none⟩ = some (.int .i64 K) /\ W'.cell? ⟨g0, 4, none⟩ = some (.int .u8 (y : Int))) uV2 := ⟨HE.out.blk.cell 0, HE.out.blk.cell 1, BX.out.cell 1, BX.out.cell 2, BX.out.cell 4⟩;refine hK.out _ _ hHeld ?_;clear hK hHeld;try simp only [List.setIfInBounds_toArray, List.set_cons_zero, List.set_cons_succ]
   refine wpAnyH_done (by kernel_rfl) ?_ _;go_wp2_with fail
   refine (pair_open HE.out).mono ?_;rintro e w9 ⟨rfl, ho0, k9⟩;have ho : Opened B q d p room _ w9 := ⟨ho0, fun x hx => (HE.out.disk.facts.2.2.2.2.1 x hx).2, HE.out.disk.facts.2.1⟩;clear ho0;go_wp2_with fail
   go_ret;exact ⟨rfl, .inr ⟨_, ho⟩, KB.out.trans k9⟩
set_option maxRecDepth 100000 in
set_option maxHeartbeats 3200000 in
theorem does_cutf {v2 v3 : Value} (h : DisksAt B q w F Fd d p room v2 v3 L) (N K : Int) (A : Option Addr) (n c y : Nat) (hy : y < 256) :
  Calls Tryz.prog 12 #[.pointer (some ⟨q, 0, none⟩), .agg #[.int .i64 9, .int .i64 N, .int .i64 K, .slice A n c, .int .u8 (y : Int)]] w fun e w' => e = .returned (.bool true) /\ (Below w.heap.size w w' \/ ∃ t : Str, Opened B q d p room (cutL t K L).1 w') /\ Below B w w' := by
 have kb := below_alloc w (.cells #[.int .i64 9, .int .i64 N, .int .i64 K, .slice A n c, .int .u8 (y : Int)] 42);have bx := Blk.new w (B := 0) 42 #[.int .i64 9, .int .i64 N, .int .i64 K, .slice A n c, .int .u8 (y : Int)] (Nat.zero_le _);obtain ⟨g0, hg0⟩ : ∃ g, g = w.heap.size := ⟨_, rfl⟩;have hx0 : ¬ F g0 := fun hk => by have := h.disk.low g0 hk; omega
 have hx1 : ¬ Fd g0 := fun hk => by have := h.ref.low g0 hk; omega
 have HX := hide (And.intro hx0 hx1);have KB := hide (kb.mono h.base);have H0 := hide (h.below kb);clear h kb hx0 hx1;have KW := hide (below_alloc w (.cells #[.int .i64 9, .int .i64 N, .int .i64 K, .slice A n c, .int .u8 (y : Int)] 42));have x1 := H0.out.blk.cell 1;dsimp only [List.getElem?_cons_succ, List.getElem?_cons_zero] at x1;have HY := hide hy;clear hy;go_enter Tryz.func12, Tryz.ntmps12;go_wp2_with fail
 obtain ⟨W, hW⟩ : ∃ W, W = w.alloc (.cells #[.int .i64 9, .int .i64 N, .int .i64 K, .slice A n c, .int .u8 (y : Int)] 42) := ⟨_, rfl⟩;rw [<- hW, <- hg0] at bx;rw [<- hW] at KB H0 KW;rw [<- hW, <- hg0];have BX := hide bx;clear hW hg0 bx;skip;obtain ⟨v0, X0, hX, hr0⟩ := H0.out.ref;have hfew : X0.length <= 256 := by rw [<- absX_length, <- hX]; exact H0.out.sane.few
 refine (rlist_any Fd p room v0 X0 W hr0 hfew).mono ?_;rintro e w1 ⟨v1, rfl, o1, k1⟩;rw [<- abs_names10, <- hX] at o1;obtain ⟨M, hM⟩ : ∃ M, M = L.length := ⟨_, rfl⟩;obtain ⟨A1, c1, rfl, l1, m1, q1⟩ := o1.rows (n := M) (by rw [List.length_map, hM]);have Q1 := hide q1;have HM := hide hM;have H1 := hide (H0.out.below k1);have BX := hide (BX.out.keep k1);have KW := hide (KW.out.trans (k1.mono KW.out.size));have KB := hide (KB.out.trans (k1.mono H0.out.base));have b0 := BX.out.cell 0;have b1 := BX.out.cell 1;dsimp only [Array.toList, List.getElem?_cons_succ, List.getElem?_cons_zero] at b0 b1;clear x1 o1 k1 q1 hM hX hr0 hfew H0;have hMM : M <= 9223372036854775807 := by omega
 rcases Nat.eq_zero_or_pos M with hz | hz
 ·have t1 : ((M : Int) == 0) = true := by rw [hz]; rfl
  clear hz;go_wp2_with fail
  go_ret;exact ⟨rfl, .inl KW.out, KB.out⟩
 ·have t1 : ((M : Int) == 0) = false := by simp; omega
  by_cases hN : N < 0
  ·go_wp2_with fail
   go_ret;exact ⟨rfl, .inl KW.out, KB.out⟩
  ·have hr0 : 0 <= N % (M : Int) := Int.emod_nonneg _ (by omega);have hr1 : N % (M : Int) < (M : Int) := Int.emod_lt_of_pos _ (by omega);obtain ⟨g1, rfl, hc⟩ := Q1.out (N % (M : Int)).toNat (by omega);obtain ⟨s, hs, hs2⟩ := str_at ((L.map (·.1)).getD (N % (M : Int)).toNat []);rw [hs] at hc;have hs64 : s.size <= 64 := by
    have hlt : (N % (M : Int)).toNat < L.length := by rw [<- HM.out]; omega
    have h1 : s.data.toList = L[(N % (M : Int)).toNat].1 := by rw [hs2, List.getD_eq_getElem?_getD, List.getElem?_map, List.getElem?_eq_getElem hlt]; rfl
    have h2 := H1.out.disk.facts.2.2.2.2.2 _ (List.getElem_mem hlt);rw [<- h1, str_len] at h2;exact h2
   have HS := hide hs64;clear hs hs2 hs64 Q1 HM;go_wp2_with fail
   clear hc b0 b1 t1 hr0 hr1;refine heldT_top (fun W' => W'.cell? ⟨q, 0, none⟩ = some (.pointer (some ⟨d, 0, none⟩)) /\ W'.cell? ⟨q, 1, none⟩ = some (.pointer (some ⟨p, 0, none⟩)) /\ W'.cell? ⟨g0, 1, none⟩ = some (.int .i64 N) /\ W'.cell? ⟨g0, 2, none⟩ = some (.int .i64 K) /\ W'.cell? ⟨g0, 4, none⟩ = some (.int .u8 (y : Int))) 8 #[false, false, false, false, false, false, false, false] (by kernel_rfl) (by kernel_rfl) (by kernel_rfl) ?_;have hHeld : (fun W' => W'.cell? ⟨q, 0, none⟩ = some (.pointer (some ⟨d, 0, none⟩)) /\ W'.cell? ⟨q, 1, none⟩ = some (.pointer (some ⟨p, 0, none⟩)) /\ W'.cell? ⟨g0, 1, none⟩ = some (.int .i64 N) /\ W'.cell? ⟨g0, 2, none⟩ = some (.int .i64 K) /\ W'.cell? ⟨g0, 4, none⟩ = some (.int .u8 (y : Int))) (w1.drewN 1) := ⟨H1.out.blk.cell 0, H1.out.blk.cell 1, BX.out.cell 1, BX.out.cell 2, BX.out.cell 4⟩;have H1 := hide (H1.out.below (below_drewN (Below.refl _ _) 1));have BX := hide (BX.out.drewN 1);have KB := hide (below_drewN KB.out 1);change wpAnyH _ _ _ _ _ _ _ _ (w1.drewN 1);generalize w1.drewN 1 = V1 at *
   iterate 7
    first | refine' tkH 0 rfl hHeld rfl ?_ ?_ | refine' tkH 1 rfl hHeld rfl ?_ ?_ | refine' tkH 2 rfl hHeld rfl ?_ ?_ | refine' tkH 3 rfl hHeld rfl ?_ ?_ | refine' tkH 4 rfl hHeld rfl ?_ ?_ | refine' tkH 5 rfl hHeld rfl ?_ ?_ | refine' tkH 6 rfl hHeld rfl ?_ ?_
    rotate_left
    ·(intro W' hW; (try dsimp only at hW); obtain ⟨z0, z1, z2, z3, z4⟩ := hW; go_simp; (try with_reducible rfl))
    try simp only [Act.put, List.setIfInBounds_toArray, List.set_cons_zero, List.set_cons_succ]
   clear hHeld;refine heldT_one (i := 7) (by kernel_rfl) rfl (fun K' hK => ?_);go_simp;go_at_call 52;refine (cutD_any _ d room L s V1 H1.out.disk (by have := HS.out; omega) K).mono ?_;rintro e uV1 ⟨rfl, F1, d1, n1⟩;obtain ⟨m1, k1⟩ := H1.out.first d1 n1;have HM := hide m1;have BX := hide (BX.out.turn n1.turn HX.out.1);have KB := hide (KB.out.trans k1);clear d1 n1 m1 k1 H1;have hHeld : (fun W' => W'.cell? ⟨q, 0, none⟩ = some (.pointer (some ⟨d, 0, none⟩)) /\ W'.cell? ⟨q, 1, none⟩ = some (.pointer (some ⟨p, 0, none⟩)) /\ W'.cell? ⟨g0, 1, none⟩ = some (.int .i64 N) /\ W'.cell? ⟨g0, 2, none⟩ = some (.int .i64 K) /\ W'.cell? ⟨g0, 4, none⟩ = some (.int .u8 (y : Int))) uV1 := ⟨HM.out.blk.cell 0, HM.out.blk.cell 1, BX.out.cell 1, BX.out.cell 2, BX.out.cell 4⟩;refine hK.out _ _ hHeld ?_;clear hK hHeld;try simp only [List.setIfInBounds_toArray, List.set_cons_zero, List.set_cons_succ]
   refine wpAnyH_done (by kernel_rfl) ?_ _;go_wp2_with fail
   refine heldT_top (fun W' => W'.cell? ⟨q, 0, none⟩ = some (.pointer (some ⟨d, 0, none⟩)) /\ W'.cell? ⟨q, 1, none⟩ = some (.pointer (some ⟨p, 0, none⟩)) /\ W'.cell? ⟨g0, 1, none⟩ = some (.int .i64 N) /\ W'.cell? ⟨g0, 2, none⟩ = some (.int .i64 K) /\ W'.cell? ⟨g0, 4, none⟩ = some (.int .u8 (y : Int))) 8 #[false, false, false, false, false, false, false, false] (by kernel_rfl) (by kernel_rfl) (by kernel_rfl) ?_;have hHeld : (fun W' => W'.cell? ⟨q, 0, none⟩ = some (.pointer (some ⟨d, 0, none⟩)) /\ W'.cell? ⟨q, 1, none⟩ = some (.pointer (some ⟨p, 0, none⟩)) /\ W'.cell? ⟨g0, 1, none⟩ = some (.int .i64 N) /\ W'.cell? ⟨g0, 2, none⟩ = some (.int .i64 K) /\ W'.cell? ⟨g0, 4, none⟩ = some (.int .u8 (y : Int))) (uV1.drewN 1) := ⟨HM.out.blk.cell 0, HM.out.blk.cell 1, BX.out.cell 1, BX.out.cell 2, BX.out.cell 4⟩;have HM := hide (HM.out.below (below_drewN (Below.refl _ _) 1));have BX := hide (BX.out.drewN 1);have KB := hide (below_drewN KB.out 1);change wpAnyH _ _ _ _ _ _ _ _ (uV1.drewN 1);generalize uV1.drewN 1 = V2 at *
   iterate 7
    first | refine' tkH 0 rfl hHeld rfl ?_ ?_ | refine' tkH 1 rfl hHeld rfl ?_ ?_ | refine' tkH 2 rfl hHeld rfl ?_ ?_ | refine' tkH 3 rfl hHeld rfl ?_ ?_ | refine' tkH 4 rfl hHeld rfl ?_ ?_ | refine' tkH 5 rfl hHeld rfl ?_ ?_ | refine' tkH 6 rfl hHeld rfl ?_ ?_
    rotate_left
    ·(intro W' hW; (try dsimp only at hW); obtain ⟨z0, z1, z2, z3, z4⟩ := hW; go_simp; (try with_reducible rfl))
    try simp only [Act.put, List.setIfInBounds_toArray, List.set_cons_zero, List.set_cons_succ]
   clear hHeld;refine heldT_one (i := 7) (by kernel_rfl) rfl (fun K' hK => ?_);go_simp;go_at_call 53;refine (rcut_any _ p room L s V2 HM.out.ref HM.out.sane K).mono ?_;rintro e uV2 ⟨rfl, F2, d2, n2⟩;obtain ⟨m2, k2⟩ := HM.out.second d2 n2;have HE := hide m2;have BX := hide (BX.out.turn n2.turn HX.out.2);have KB := hide (KB.out.trans k2);clear d2 n2 m2 k2 HM;have hHeld : (fun W' => W'.cell? ⟨q, 0, none⟩ = some (.pointer (some ⟨d, 0, none⟩)) /\ W'.cell? ⟨q, 1, none⟩ = some (.pointer (some ⟨p, 0, none⟩)) /\ W'.cell? ⟨g0, 1, none⟩ = some (.int .i64 N) /\ W'.cell? ⟨g0, 2, none⟩ = some (.int .i64 K) /\ W'.cell? ⟨g0, 4, none⟩ = some (.int .u8 (y : Int))) uV2 := ⟨HE.out.blk.cell 0, HE.out.blk.cell 1, BX.out.cell 1, BX.out.cell 2, BX.out.cell 4⟩;refine hK.out _ _ hHeld ?_;clear hK hHeld;try simp only [List.setIfInBounds_toArray, List.set_cons_zero, List.set_cons_succ]
   refine wpAnyH_done (by kernel_rfl) ?_ _;go_wp2_with fail
   refine (pair_open HE.out).mono ?_;rintro e w9 ⟨rfl, ho0, k9⟩;have ho : Opened B q d p room _ w9 := ⟨ho0, fun x hx => (HE.out.disk.facts.2.2.2.2.1 x hx).2, HE.out.disk.facts.2.1⟩;clear ho0;go_wp2_with fail
   go_ret;exact ⟨rfl, .inr ⟨_, ho⟩, KB.out.trans k9⟩
def Stood (B q : Nat) (d l p m room : Nat) (s : ByteArray) (M : LogL) (L : DiskL) (w' : World) : Prop := ∃ F G Fd Gd, PairAt B q w' F G Fd Gd d l p m room s M L
set_option maxRecDepth 100000 in
set_option maxHeartbeats 3200000 in
theorem does_sync (h : PairAt B q w F G Fd Gd d l p m room s M L) (hs : s.size <= 64) (hd : ∀ n ∈ M.dirty, n <= 1099511627776) (hdl : M.dirty.length <= 1099511627776) (N K : Int) (A : Option Addr) (n c : Nat) (y : Int) :
  Calls Tryz.prog 12 #[.pointer (some ⟨q, 0, none⟩), .agg #[.int .i64 2, .int .i64 N, .int .i64 K, .slice A n c, .int .u8 y]] w fun e w' => e = .returned (.bool true) /\ Stood B q d l p m room s ⟨M.segs, M.next, []⟩ (syncsL s.data.toList M.dirty L) w' /\ Below B w w' := by
 have HB : Hid (B <= w.heap.size) := hide h.duo.base;have kb := below_alloc w (.cells #[.int .i64 2, .int .i64 N, .int .i64 K, .slice A n c, .int .u8 y] 42);have KB := hide kb;have H0 := hide (h.below kb);have HD := hide (And.intro hs (And.intro hd hdl));clear h kb hs hd hdl;go_enter Tryz.func12, Tryz.ntmps12;go_wp2_with fail
 obtain ⟨W, hW⟩ : ∃ W, W = w.alloc (.cells #[.int .i64 2, .int .i64 N, .int .i64 K, .slice A n c, .int .u8 y] 42) := ⟨_, rfl⟩;rw [<- hW] at KB H0;rw [<- hW];clear hW;obtain ⟨-, -, c2, c3⟩ := pair_cells H0.out.blk;refine heldT_top (fun W' => W'.cell? ⟨q, 2, none⟩ = some (.pointer (some ⟨l, 0, none⟩)) /\ W'.cell? ⟨q, 3, none⟩ = some (.pointer (some ⟨m, 0, none⟩))) 12 #[false, false, false, false, false, false, false, false, false, false, false, false] (by kernel_rfl) (by kernel_rfl) (by kernel_rfl) ?_;have hHeld : (fun W' => W'.cell? ⟨q, 2, none⟩ = some (.pointer (some ⟨l, 0, none⟩)) /\ W'.cell? ⟨q, 3, none⟩ = some (.pointer (some ⟨m, 0, none⟩))) W.drew := ⟨c2, c3⟩;have H1 := hide (H0.out.below (below_drewN (Below.refl _ _) 1));have K1 : Hid (Below B w (W.drewN 1)) := hide (by have h9 := KB.out.mono HB.out; exact below_drewN h9 1);clear H0 KB c2 c3;change wpAnyH _ _ _ _ _ _ _ _ (W.drewN 1);have hHeld : (fun W' => W'.cell? ⟨q, 2, none⟩ = some (.pointer (some ⟨l, 0, none⟩)) /\ W'.cell? ⟨q, 3, none⟩ = some (.pointer (some ⟨m, 0, none⟩))) (W.drewN 1) := hHeld;generalize W.drewN 1 = U at *
 iterate 8
  first | refine' tkH 0 rfl hHeld rfl ?_ ?_ | refine' tkH 1 rfl hHeld rfl ?_ ?_ | refine' tkH 2 rfl hHeld rfl ?_ ?_ | refine' tkH 3 rfl hHeld rfl ?_ ?_ | refine' tkH 5 rfl hHeld rfl ?_ ?_ | refine' tkH 6 rfl hHeld rfl ?_ ?_ | refine' tkH 7 rfl hHeld rfl ?_ ?_ | refine' tkH 8 rfl hHeld rfl ?_ ?_
  rotate_left
  ·(intro W' hW; (try dsimp only at hW); obtain ⟨z2, z3⟩ := hW; go_simp; (try with_reducible rfl))
  try simp only [Act.put, List.setIfInBounds_toArray, List.set_cons_zero, List.set_cons_succ]
 clear hHeld;refine heldT_one (i := 4) (by kernel_rfl) rfl (fun K' hK => ?_);go_simp;go_at_call 25;refine (pro_sync H1.out.duo.pro).mono ?_;rintro e u1 ⟨rfl, F1, G1, hp1, t1, f1, g1⟩;obtain ⟨mid, k1⟩ := H1.out.first hp1 t1 f1 g1;have HM := hide mid;have K2 := hide (K1.out.trans k1);clear hp1 t1 f1 g1 mid k1 H1 K1;obtain ⟨-, -, c2, c3⟩ := pair_cells HM.out.blk;refine hK.out _ _ ⟨c2, c3⟩ ?_;clear hK;try simp only [List.setIfInBounds_toArray, List.set_cons_zero, List.set_cons_succ]
 refine heldT_one (i := 9) (by kernel_rfl) rfl (fun K' hK => ?_);go_simp;go_at_call 40;refine (rlogsync_any _ Fd Gd p m room s M L HM.out.ref HD.out.1 HD.out.2.1 HD.out.2.2).mono ?_;rintro e u2 ⟨rfl, Fd2, hr2, t2, f2⟩;obtain ⟨pr, k2⟩ := HM.out.second hr2 t2 f2 (fun k h => .inl h);have HP := hide pr;have K3 := hide (K2.out.trans k2);clear hr2 t2 f2 pr k2 HM K2 c2 c3;obtain ⟨-, -, c2, c3⟩ := pair_cells HP.out.blk;have hHeld : (fun W' => W'.cell? ⟨q, 2, none⟩ = some (.pointer (some ⟨l, 0, none⟩)) /\ W'.cell? ⟨q, 3, none⟩ = some (.pointer (some ⟨m, 0, none⟩))) u2 := ⟨c2, c3⟩;refine hK.out _ _ hHeld ?_;clear hK c2 c3;try simp only [List.setIfInBounds_toArray, List.set_cons_zero, List.set_cons_succ]
 iterate 2
  first | refine' tkH 10 rfl hHeld rfl ?_ ?_ | refine' tkH 11 rfl hHeld rfl ?_ ?_
  rotate_left
  ·(intro W' hW; (try dsimp only at hW); obtain ⟨z2, z3⟩ := hW; go_simp; (try with_reducible rfl))
  try simp only [Act.put, List.setIfInBounds_toArray, List.set_cons_zero, List.set_cons_succ]
 refine wpAnyH_done (by kernel_rfl) ?_ _;clear hHeld;go_wp2_with fail
 go_ret;exact ⟨rfl, ⟨_, _, _, _, HP.out⟩, K3.out⟩
end Go.Proofs.YtbmhfnhfhdgdgaaGreat
