/- The contracts of a node's entry and termOf. Condition: entries are no longer than a log holds. The contracts of a node's waitAnew and save. Condition: the disk  -/
import Derived.Test.YtedlibkkeegnaaaGreatRp33
import Derived.Test.YtedlibkkeegnaaaGreatRp24
namespace Go.Proofs.YtedlibkkeegnaaaGreat
open Go.RowKit Go.Maps
variable {w w' w1 w2 : World} {F G F' : Nat -> Prop} {L L' : DiskL} {s : ByteArray} {M : LogL} {P : PLog} {B room l d n c b : Nat}
theorem own_lowB {A : Option Addr} {xs : List Nat} (h : Own w B (.slice A n c) xs) (hn : xs.length = n) : LowB w w.heap.size A n c xs := by
 refine ⟨h.isB, hn, ?_⟩;unfold Own at h;rcases h.2 with ⟨e, _⟩ | ⟨g, cap, cur, e, _, hh, _⟩
 ·cases e; exact .inl rfl
 ·cases e; exact .inr ⟨g, 0, rfl, heap_lt hh⟩
def U8At (w : World) (A : Option Addr) : Prop := ∀ b, A = some b -> ∃ cur fr, w.heap[b.block]? = some (.cells cur 5 fr)
theorem own_u8 {A : Option Addr} {xs : List Nat} (h : Own w B (.slice A n c) xs) : U8At w A := by
 intro b e;unfold Own at h;rcases h.2 with ⟨e2, _⟩ | ⟨g, cap, cur, e2, _, hh, _⟩
 ·cases e2; cases e
 ·cases e2; cases e; exact ⟨_, _, hh⟩
theorem U8At.off {S : Nat -> Prop} {A : Option Addr} (h : U8At w A) (t : Turn S w w') (hS : ∀ b, A = some b -> ¬ S b.block) : U8At w' A := by
 intro b e;obtain ⟨cur, fr, hh⟩ := h b e;exact ⟨cur, fr, by rw [t.block _ (heap_lt hh) (hS b e)]; exact hh⟩
theorem U8At.sub {A A2 : Option Addr} (h : U8At w A) (hs : ∀ b, A2 = some b -> ∃ b', A = some b' /\ b.block = b'.block) : U8At w A2 := by
 intro b e;obtain ⟨b', e', hb⟩ := hs b e;rw [hb];exact h b' e'
def HasE (M : LogL) (z : Int) (t : Nat) (dat : List Nat) : Prop := getE M z = (uvl t ++ dat, 0) /\ t <= 9223372036854775807 /\ (∀ x ∈ dat, x < 256)
set_option maxRecDepth 100000 in
set_option maxHeartbeats 1600000 in
theorem entry_in {S : Nat -> Prop} {r : Nat} {N : Nd} (h : NdS w S r d l room N M L) (z : Int) (t : Nat) (dat : List Nat) (hE : HasE M z t dat) :
  Calls Tryz.prog 30 #[.pointer (some ⟨r, 0, none⟩), .int .i64 z] w fun e w' => ∃ A2 n2 c2, e = .returned (entV t (.slice A2 n2 c2)) /\ (∀ b, A2 = some b -> w.heap.size <= b.block) /\ U8At w' A2 /\ LowB w' w'.heap.size A2 n2 c2 dat /\ Below w.heap.size w w' := by
 obtain ⟨hg, ht, hb⟩ := hE;have ka := below_alloc w (.cells #[.int .i64 0, .slice none 0 0] 46);have bg := Blk.new w (B := 0) 46 #[.int .i64 0, .slice none 0 0] (Nat.zero_le _);have q3 : (w.alloc (.cells #[.int .i64 0, .slice none 0 0] 46)).cell? ⟨r, 3, none⟩ = some (.pointer (some ⟨l, 0, none⟩)) := nds_cell (h.below ka) 3;have GT := hide (read_get (h.below ka).read z);rw [hg] at GT;have HT := hide (And.intro ht hb);obtain ⟨q, hq⟩ : ∃ q, q = w.heap.size := ⟨_, rfl⟩;obtain ⟨W, hW⟩ : ∃ W, W = w.alloc (.cells #[.int .i64 0, .slice none 0 0] 46) := ⟨_, rfl⟩;rw [<- hW] at ka bg GT;rw [<- hq] at bg;have KA := hide ka;have BG := hide bg;have HQ : Hid (q = w.heap.size) := hide hq;have HSZ : Hid (w.heap.size < W.heap.size) := hide (by rw [<- hq]; exact bg.lt);clear h hg ht hb ka bg;go_enter Tryz.func30, Tryz.ntmps30;go_wp2_with fail
 rw [<- hW, <- hq];clear hW hq q3;refine GT.out.mono ?_;rintro e w1 ⟨v, rfl, o1, k1⟩;obtain ⟨m, hm⟩ : ∃ m, m = (uvl t ++ dat).length := ⟨_, rfl⟩;obtain ⟨A, c, rfl, _⟩ := o1.isB.form hm.symm;have hlow := own_lowB o1 hm.symm;have U1 := hide (own_u8 o1);have hblk : ∀ b, A = some b -> w.heap.size < b.block := fun b e => by
  have h1 := (o1.lt b.block (by rw [e]; rfl)).1;have := HSZ.out;omega
 have K1 := hide (KA.out.trans (k1.mono KA.out.size));have BG := hide (BG.out.keep k1);have HLOW := hide hlow;have HBLK := hide hblk;clear o1 k1 hm hlow hblk GT;go_wp2_with fail
 have kb := below_alloc w1 (.cells #[.slice A m c, .int .i64 0] 84);have br := Blk.new w1 (B := 0) 84 #[.slice A m c, .int .i64 0] (Nat.zero_le _);have hqlt := BG.out.lt;have LD := hide (rdr_laid_ok w1.heap.size A m c t dat (w1.alloc (.cells #[.slice A m c, .int .i64 0] 84)) br (HLOW.out.keep kb) HT.out.2 HT.out.1);have BG2 := hide (BG.out.keep kb);have K2 := hide (K1.out.trans (kb.mono K1.out.size));have KB := hide kb;have HQ1 : Hid (q < w1.heap.size) := hide hqlt;have hqg : ¬ q = w1.heap.size := by omega
 clear kb br hqlt HLOW;refine LD.out.mono ?_;rintro e w2 ⟨A2, n2, c2, rfl, hs2, l2, A3, c3, b3, t2⟩;have BG3 := hide (BG2.out.turn t2 hqg);have f0 := BG3.out.frozen 0;have f1 := BG3.out.frozen 1;have e0 := BG3.out.cell 0;have e1 := BG3.out.cell 1;dsimp only [List.getElem?_cons_zero, List.getElem?_cons_succ] at e0 e1;have L2 := hide l2;have HS2 := hide hs2;have T2 := hide t2;have HL := hide b3.lt;have U2 := hide ((((U1.out.off (Turn.of_below (fun _ => False) KB.out) (fun _ _ h => h.elim)).off t2 (fun b e => by obtain ⟨cur, fr, hh⟩ := U1.out b e; have := heap_lt hh; omega)).sub hs2 : U8At w2 A2));unfold entV;clear l2 hs2 t2 b3 LD hqg;go_wp2_with fail
 have B9 := (BG3.out.stored 0 (.int .i64 (t : Int))).stored 1 (.slice A2 n2 c2);have z0 := B9.cell 0;have z1 := B9.cell 1;have ts := ((box_turn0 w2 q 0 (.int .i64 (t : Int))).trans (box_turn0 _ q 1 (.slice A2 n2 c2)));have hA2 : ∀ b, A2 = some b -> w.heap.size < b.block := fun b e => by
  obtain ⟨b', e', hb'⟩ := HS2.out b e;have := HBLK.out b' e';omega
 refine bodyPost_ret (v := .agg #[.int .i64 (t : Int), .slice A2 n2 c2]) (by simp [results, Tryz.results30, go_sem, z0, z1]) rfl ?_;refine ⟨A2, n2, c2, rfl, fun b e => Nat.le_of_lt (hA2 b e), U2.out.off ts (fun b e hb => by have := hA2 b e; have := HQ.out; omega), (L2.out.off ts (fun b e hb => ?_)).up (Nat.le_trans (Nat.le_of_lt HL.out) ts.size), (K2.out.trans (T2.out.below K2.out.size (fun k e => ?_))).trans (ts.below (Nat.le_trans K2.out.size T2.out.size) (fun k e => ?_))⟩
 ·have := hA2 b e;have := HQ.out;omega
 ·have := K1.out.size;omega
 ·have := HQ.out;omega
set_option maxRecDepth 100000 in
set_option maxHeartbeats 1600000 in
theorem entry_out {S : Nat -> Prop} {r : Nat} {N : Nd} (h : NdS w S r d l room N M L) (z : Int) (e9 : Nat) (hg : getE M z = ([], e9)) :
  Calls Tryz.prog 30 #[.pointer (some ⟨r, 0, none⟩), .int .i64 z] w fun e w' => e = .returned (entV 0 (.slice none 0 0)) /\ Below w.heap.size w w' := by
 have ka := below_alloc w (.cells #[.int .i64 0, .slice none 0 0] 46);have bg := Blk.new w (B := 0) 46 #[.int .i64 0, .slice none 0 0] (Nat.zero_le _);have q3 : (w.alloc (.cells #[.int .i64 0, .slice none 0 0] 46)).cell? ⟨r, 3, none⟩ = some (.pointer (some ⟨l, 0, none⟩)) := nds_cell (h.below ka) 3;have GT := hide (read_get (h.below ka).read z);rw [hg] at GT;obtain ⟨q, hq⟩ : ∃ q, q = w.heap.size := ⟨_, rfl⟩;obtain ⟨W, hW⟩ : ∃ W, W = w.alloc (.cells #[.int .i64 0, .slice none 0 0] 46) := ⟨_, rfl⟩;rw [<- hW] at ka bg GT;rw [<- hq] at bg;have KA := hide ka;have BG := hide bg;have HQ : Hid (q = w.heap.size) := hide hq;clear h hg ka bg;go_enter Tryz.func30, Tryz.ntmps30;go_wp2_with fail
 rw [<- hW, <- hq];clear hW hq q3;refine GT.out.mono ?_;rintro e w1 ⟨v, rfl, o1, k1⟩;obtain ⟨A, c, rfl, _⟩ := o1.isB.form (n := 0) rfl;have hlow := own_lowB o1 rfl;have K1 := hide (KA.out.trans (k1.mono KA.out.size));have BG := hide (BG.out.keep k1);have HLOW := hide hlow;clear o1 k1 hlow GT;go_wp2_with fail
 have kb := below_alloc w1 (.cells #[.slice A 0 c, .int .i64 0] 84);have br := Blk.new w1 (B := 0) 84 #[.slice A 0 c, .int .i64 0] (Nat.zero_le _);have hqlt := BG.out.lt;have LD := hide (rdr_laid_bad w1.heap.size A 0 c [] (w1.alloc (.cells #[.slice A 0 c, .int .i64 0] 84)) br (HLOW.out.keep kb) (fun x hx => by cases hx) (by rw [rvl_nil]; decide));have BG2 := hide (BG.out.keep kb);have K2 := hide (K1.out.trans (kb.mono K1.out.size));have hqg : ¬ q = w1.heap.size := by omega
 clear kb br hqlt HLOW;refine LD.out.mono ?_;rintro e w2 ⟨rfl, b3, t2⟩;have BG3 := hide (BG2.out.turn t2 hqg);have f0 := BG3.out.frozen 0;have f1 := BG3.out.frozen 1;have e0 := BG3.out.cell 0;have e1 := BG3.out.cell 1;dsimp only [List.getElem?_cons_zero, List.getElem?_cons_succ] at e0 e1;have T2 := hide t2;unfold entV;clear t2 b3 LD hqg;go_wp2_with fail
 have B9 := (BG3.out.stored 0 (.int .i64 0)).stored 1 (.slice none 0 0);have z0 := B9.cell 0;have z1 := B9.cell 1;have ts := ((box_turn0 w2 q 0 (.int .i64 0)).trans (box_turn0 _ q 1 (.slice none 0 0)));refine bodyPost_ret (v := .agg #[.int .i64 0, .slice none 0 0]) (by simp [results, Tryz.results30, go_sem, z0, z1]) rfl ?_;refine ⟨rfl, (K2.out.trans (T2.out.below K2.out.size (fun k e => ?_))).trans (ts.below (Nat.le_trans K2.out.size T2.out.size) (fun k e => ?_))⟩
 ·have := K1.out.size;omega
 ·have := HQ.out;omega
theorem field_term (t : Int) (v : Value) (w : World) : (Instr.field 46 (.agg #[.int .i64 t, v]) 0).run Tryz.prog w = .ok (.int .i64 t) w := by kernel_rfl
def TermE (M : LogL) (z : Int) (t : Nat) : Prop := (∃ dat, HasE M z t dat) \/ (t = 0 /\ ∃ e9, getE M z = ([], e9))
set_option maxRecDepth 100000 in
theorem termOf_any {S : Nat -> Prop} {r : Nat} {N : Nd} (h : NdS w S r d l room N M L) (z : Int) (t : Nat) (ht : TermE M z t) :
  Calls Tryz.prog 59 #[.pointer (some ⟨r, 0, none⟩), .int .i64 z] w fun e w' => e = .returned (.int .i64 (t : Int)) /\ Below w.heap.size w w' := by
 rcases ht with ⟨dat, hE⟩ | ⟨rfl, e9, hg⟩
 ·have EN := hide (entry_in h z t dat hE);clear h hE;unfold entV at EN;go_enter Tryz.func59, Tryz.ntmps59;go_wp2_with fail
  refine EN.out.mono ?_;rintro e w1 ⟨A2, n2, c2, rfl, _, _, _, k1⟩;have K1 := hide k1;have hf := field_term (t : Int) (.slice A2 n2 c2) w1;clear k1 EN;go_wp2_with fail
  go_ret;exact ⟨rfl, K1.out⟩
 ·have EN := hide (entry_out h z e9 hg);clear h hg;unfold entV at EN;go_enter Tryz.func59, Tryz.ntmps59;go_wp2_with fail
  refine EN.out.mono ?_;rintro e w1 ⟨rfl, k1⟩;have K1 := hide k1;have hf := field_term 0 (.slice none 0 0) w1;clear k1 EN;go_wp2_with fail
  go_ret;exact ⟨rfl, K1.out⟩
def waitOf (draw : Int) : Int := 10 + max draw 0 % 10
set_option maxRecDepth 100000 in
theorem wait_anew {S : Nat -> Prop} {r : Nat} {N : Nd} (h : NdS w S r d l room N M L) (draw : Int) :
  Calls Tryz.prog 18 #[.pointer (some ⟨r, 0, none⟩), .int .i64 draw] w fun e w' => e = .returned (.tuple #[]) /\ NdS w' S r d l room { N with wait := waitOf draw } M L /\ Next S w S w' := by
 have f0 := h.blk.frozen 10;have q0 : w.cell? ⟨r, 10, none⟩ = some (.int .i64 N.wait) := nds_cell h 10;have H := hide h;clear h;go_enter Tryz.func18, Tryz.ntmps18;go_wp2_with fail
 go_end0;exact ⟨rfl, H.out.set 10 _ rfl H.out.fit, set_next H.out.self⟩
theorem twin_other {k : Str} (h : Twin k P M L) (he : ∀ n, getK (nameL k n) L' = getK (nameL k n) L) : Twin k P M L' := by
 obtain ⟨h1, h2, h3, h4, h5, h6, h7, h8, h9, h10⟩ := h;exact ⟨h1, h2, h3, h4, h5, (fun s hs => by rw [he]; exact h6 s hs), (fun n hn hs => h7 n hn (by rw [<- he]; exact hs)), h8, (fun x hx hf a ha => h9 x hx hf a (by rw [<- he]; exact ha)), h10⟩
theorem Pro.disk (h : Pro w F G d l room s M L) : DiskAt w F d room L := by
 obtain ⟨P, hb, _⟩ := h;exact hb.disk
theorem pro_other (h : Pro w F G d l room s M L) (hD : DiskAt w' F' d room L') (n : Next F w F' w') (he : ∀ i, getK (nameL s.data.toList i) L' = getK (nameL s.data.toList i) L) : Pro w' F' G d l room s M L' := by
 obtain ⟨P, ⟨hd, hl, ha⟩, ht, hp, hm⟩ := h;refine ⟨P, ⟨hD, hl.turn n.turn (fun q hg hf => ha q hf hg), fun q hf hg => (n.foot q hf).elim (fun h => ha q h hg) (fun h => ?_)⟩, twin_other ht he, hp, hm⟩;have := hl.low q hg;omega
theorem nameL_ne (n : Nat) : nameL logK n ≠ termK /\ nameL logK n ≠ tildeL termK := by
 unfold nameL logK termK tildeL logS termS;constructor <;> · intro e; simp at e
def termP (p : List Nat) (L : DiskL) : DiskL := putK termK (frameL p, (frameL p).length) (delK (tildeL termK) L)
theorem termP_other {p : List Nat} (hr : Rise L) (n : Nat) : getK (nameL logK n) (termP p L) = getK (nameL logK n) L := by
 unfold termP;rw [getK_put_other (delK_rise hr) (nameL_ne n).1, getK_del_other hr (nameL_ne n).2]
theorem termK_len : 1 <= termK.length /\ termK.length <= 63 := by decide
theorem foot_next {S F2 G2 : Nat -> Prop} {r : Nat} (hS : ∀ k, S k ↔ (F k \/ G k) \/ k = r) (K1 : Below w.heap.size w w1) (t : Turn (fun k => F k \/ G k) w1 w2) (hf : ∀ k, F2 k -> F k \/ w1.heap.size <= k) (hg : ∀ k, G2 k -> G k \/ w1.heap.size <= k) : Next S w (fun k => (F2 k \/ G2 k) \/ k = r) w2 := by
 have hsz := K1.size;refine ⟨(Turn.of_below S K1).then t (fun k hk => .inl ((hS k).2 (.inl hk))), ?_⟩;rintro k ((h | h) | h)
 ·rcases hf k h with h | h
  ·exact .inl ((hS k).2 (.inl (.inl h)))
  ·exact .inr (by omega)
 ·rcases hg k h with h | h
  ·exact .inl ((hS k).2 (.inl (.inr h)))
  ·exact .inr (by omega)
 ·exact .inl ((hS k).2 (.inr h))
theorem build2 (w : World) (b : Nat) (t v1 : Nat) (hb : b = w.heap.size) : RdI (w.alloc (.cells #[.int .i64 (t : Int), .int .i64 (v1 : Int)] 3)) (some ⟨b, 0, none⟩) ([t, v1].map fun x : Nat => (x : Int)) := by
 intro _;refine ⟨b, 0, rfl, fun i hi => ?_⟩;subst hb;have bg := Blk.new w (B := 0) 3 #[.int .i64 (t : Int), .int .i64 (v1 : Int)] (Nat.zero_le _);have hi : i < 2 := hi;rcases i with _ | _ | i
 ·exact bg.cell 0
 ·exact bg.cell 1
 ·omega
set_option maxRecDepth 100000 in
set_option maxHeartbeats 3200000 in
theorem rsave_ok {S : Nat -> Prop} {r : Nat} {N : Nd} (h : NdS w S r d l room N M L) (t v1 : Nat) (v : Int) (hv : v + 1 = (v1 : Int)) (ht : t < 9223372036854775808) (hv9 : v1 <= 100) (hd : (draftL room termK (numsL [t, v1]) L).2 = 0) :
  Calls Tryz.prog 47 #[.pointer (some ⟨r, 0, none⟩), .int .i64 (t : Int), .int .i64 v] w fun e w' => e = .returned (.bool true) /\ ∃ S', NdS w' S' r d l room { N with term := t, vote := v } M (termP (numsL [t, v1]) L) /\ Next S w S' w' := by
 obtain ⟨F, G, hN, hS⟩ := h;have q2 : w.cell? ⟨r, 2, none⟩ = some (.pointer (some ⟨d, 0, none⟩)) := hN.blk.cell 2;have hr2 := cell_lt q2;have HN := hide hN;have HS := hide hS;have HD := hide hd;have HV := hide hv;have HRW := hide hr2;have hlp := numsL_len [t, v1] (by intro x hx; simp at hx; omega);have hlp : (numsL [t, v1]).length <= 20 := hlp;have HLP := hide hlp;have hvw : IntKind.i64.wrap (v + 1) = (v1 : Int) := by rw [hv, IntKind.wrap_i64]; omega
 have hwl : (v : Int) <= 100 := by omega
 have hwg : (-1 : Int) <= v := by omega
 have KA : Hid (Below w.heap.size w (w.alloc (.cells #[.int .i64 (t : Int), .int .i64 (v1 : Int)] 3)).drew) := hide ((below_alloc w _).trans ((below_drew _).mono (below_alloc w (.cells #[.int .i64 (t : Int), .int .i64 (v1 : Int)] 3)).size));have HSV : Hid (saveL room termK (numsL [t, v1]) L = (termP (numsL [t, v1]) L, 0)) := hide (saved hN.pro.disk.facts.1 termK_len (by omega) hd);have HR := hide (hN.pro.disk.facts.1);clear hN hS hd hlp hv;go_enter Tryz.func47, Tryz.ntmps47;go_wp2_with fail
 go_region_held3 (fun W' => W'.cell? ⟨r, 2, none⟩ = some (.pointer (some ⟨d, 0, none⟩))) (go_keep)
  (first
   | (go_at_call 72; refine (rnums_any _ 2 2 [t, v1] _ (by exact build2 w _ t v1 rfl) rfl (by intro x hx; simp at hx; omega) (by decide)).mono ?_; rintro e w1 ⟨v2, rfl, o1, k1⟩; obtain ⟨m, hm⟩ : ∃ m, m = (numsL [t, v1]).length := ⟨_, rfl⟩; obtain ⟨A1, c1, rfl, i1, l1, m1⟩ := o1.isB.form hm.symm; have K1 := hide (KA.out.trans (k1.mono KA.out.size)); have I1 := hide i1; have HM := hide hm; have x1 : w1.cell? ⟨r, 2, none⟩ = some (.pointer (some ⟨d, 0, none⟩)) := (K1.out.cell HRW.out).trans q2; have X1 := hide x1; clear o1 k1 i1 hm)
   | (go_at_call 73; refine (save_any F d room L ⟨#[116, 101, 114, 109]⟩ A1 m c1 (numsL [t, v1]) w1 (HN.out.pro.disk.below K1.out) (by decide) I1.out HM.out.symm (numsL_byte _) (by have h1 := HM.out; have h2 := HLP.out; omega)).mono ?_; rintro e w2 ⟨rfl, F2, d2, n2⟩; rw [show saveL room (⟨#[116, 101, 114, 109]⟩ : ByteArray).data.toList (numsL [t, v1]) L = _ from HSV.out] at d2 ⊢; have y1 : w2.cell? ⟨r, 2, none⟩ = some (.pointer (some ⟨d, 0, none⟩)) := (n2.far (cell_lt X1.out) HN.out.nf).trans X1.out; have D2 := hide d2; have N2 := hide n2; clear d2 n2))
 have BB := hide ((HN.out.blk.keep K1.out).turn N2.out.turn HN.out.nf);have f4 := BB.out.frozen 4;have f5 := BB.out.frozen 5;have e4 : w2.cell? ⟨r, 4, none⟩ = some (.int .i64 (N.term : Int)) := BB.out.cell 4;have e5 : w2.cell? ⟨r, 5, none⟩ = some (.int .i64 N.vote) := BB.out.cell 5;go_wp2_with fail
 go_ret;have hsz := K1.out.size;have nf2 : ¬ F2 r := fun h => (N2.out.foot r h).elim HN.out.nf (fun h => by have := HRW.out; omega)
 have hp2 : Pro w2 F2 G d l room logS M (termP (numsL [t, v1]) L) := pro_other (HN.out.pro.below K1.out) D2.out N2.out (fun i => termP_other HR.out i);have S2 : NdS w2 (fun k => (F2 k \/ G k) \/ k = r) r d l room N M (termP (numsL [t, v1]) L) := ⟨F2, G, ⟨BB.out, hp2, nf2, HN.out.ng, HN.out.fit⟩, fun _ => Iff.rfl⟩;have S3 := S2.set (N' := { N with term := t }) 4 (.int .i64 (t : Int)) rfl HN.out.fit;have S4 := S3.set (N' := { N with term := t, vote := v }) 5 (.int .i64 v) rfl HN.out.fit;have n4 := (foot_next HS.out K1.out (N2.out.turn.mono (fun k h => .inl h)) N2.out.foot (fun k h => .inl h)).trans ((set_next (u := .int .i64 (t : Int)) (i := 4) S2.self).trans (set_next (u := .int .i64 v) (i := 5) S3.self));exact ⟨rfl, _, S4, n4⟩
theorem build1 (w : World) (b : Nat) (t : Nat) (hb : b = w.heap.size) : RdI (w.alloc (.cells #[.int .i64 (t : Int)] 3)) (some ⟨b, 0, none⟩) ([t].map fun x : Nat => (x : Int)) := by
 intro _;refine ⟨b, 0, rfl, fun i hi => ?_⟩;subst hb;have bg := Blk.new w (B := 0) 3 #[.int .i64 (t : Int)] (Nat.zero_le _);have hi : i < 1 := hi;rcases i with _ | i
 ·exact bg.cell 0
 ·omega
set_option maxRecDepth 100000 in
set_option maxHeartbeats 3200000 in
theorem rlaid_any (w : World) (t : Nat) (A : Option Addr) (n c : Nat) (dat : List Nat) (hA : IsB w (.slice A n c) dat) (hn : dat.length = n) (ht : t < 9223372036854775808) (hn9 : n <= 1073741824) :
  Calls Tryz.prog 105 #[.agg #[.int .i64 (t : Int), .slice A n c]] w fun e w' => ∃ s, e = .returned s /\ Own w' w.heap.size s (uvl t ++ dat) /\ Below w.heap.size w w' := by
 obtain ⟨q, hq⟩ : ∃ q, q = w.heap.size := ⟨_, rfl⟩;obtain ⟨W, hW⟩ : ∃ W, W = w.alloc (.cells #[.int .i64 (t : Int), .slice A n c] 46) := ⟨_, rfl⟩;have ka := below_alloc w (.cells #[.int .i64 (t : Int), .slice A n c] 46);have bg := Blk.new w (B := 0) 46 #[.int .i64 (t : Int), .slice A n c] (Nat.zero_le _);rw [<- hW] at ka bg;rw [<- hq] at bg;have q0 : W.cell? ⟨q, 0, none⟩ = some (.int .i64 (t : Int)) := bg.cell 0;have q1 : W.cell? ⟨q, 1, none⟩ = some (.slice A n c) := bg.cell 1;have HQ := hide (cell_lt q0);have KA := hide ka;have HA := hide (hA.keep ka);have HN := hide hn;have hfl : [numsL [t], dat].flatten = uvl t ++ dat := by simp [numsL]
 have HUL := hide (uvl_len64 t (by omega));clear hA hn ka bg;go_enter Tryz.func105, Tryz.ntmps105;go_wp2_with fail
 rw [<- hW, <- hq];have KB : Hid (Below W.heap.size W (W.alloc (.cells #[.int .i64 (t : Int)] 3)).drew) := hide ((below_alloc W _).trans ((below_drew _).mono (below_alloc W (.cells #[.int .i64 (t : Int)] 3)).size));clear hW hq
 go_region_held3 (fun W' => W'.cell? ⟨q, 0, none⟩ = some (.int .i64 (t : Int)) /\ W'.cell? ⟨q, 1, none⟩ = some (.slice A n c)) (go_keep)
  (first
   | (go_at_call 72; refine (rnums_any _ 1 1 [t] _ (by exact build1 W _ t rfl) rfl (by intro x hx; simp at hx; omega) (by decide)).mono ?_; rintro e w1 ⟨v2, rfl, o1, k1⟩; obtain ⟨m, hm⟩ : ∃ m, m = (numsL [t]).length := ⟨_, rfl⟩; obtain ⟨A1, c1, rfl, i1, l1, m1⟩ := o1.isB.form hm.symm; have K1 := hide (KB.out.trans (k1.mono KB.out.size)); have I1 := hide i1; have HM := hide hm; have x0 := (K1.out.cell HQ.out).trans q0; have x1 := (K1.out.cell (p := ⟨q, 1, none⟩) HQ.out).trans q1; clear o1 k1 i1 hm)
   | (go_at_call 83; have nb := below_alloc w1 (.cells #[.slice A1 m c1, .slice A n c] 32); refine (concat_any _ 2 2 [.slice A1 m c1, .slice A n c] [numsL [t], dat] _ (rdV_new w1 _ _ _ _ rfl rfl) rfl (IsBs.two (I1.out.keep nb) ((HA.out.keep K1.out).keep nb)) (by rw [hfl, List.length_append]; have h1 := HUL.out; have h2 := HN.out; omega) (by decide)).mono ?_; rintro e w2 ⟨s2, rfl, o2, k2⟩; rw [hfl] at o2; have kk := nb.trans (k2.mono nb.size); have y0 := (kk.cell (cell_lt x0)).trans x0; have y1 := (kk.cell (cell_lt x1)).trans x1; have K2 := hide ((KA.out.trans (K1.out.mono KA.out.size)).trans (kk.mono (Nat.le_trans KA.out.size K1.out.size))); have O2 := hide (o2.more (Nat.le_trans (Nat.le_trans KA.out.size K1.out.size) nb.size)); clear nb o2 k2 kk))
 go_wp2_with fail
 go_ret;exact ⟨_, rfl, O2.out, K2.out⟩
structure EntsAt (w : World) (S : Nat -> Prop) (b : Nat) (es : List (Nat × List Nat)) : Prop where
 own : ¬ S b
 at_ : ∀ j (hj : j < es.length), ∃ A n c, w.cell? ⟨b, j * 2, none⟩ = some (.int .i64 ((es[j]).1 : Int)) /\ w.cell? ⟨b, j * 2 + 1, none⟩ = some (.slice A n c) /\ IsB w (.slice A n c) (es[j]).2 /\ (es[j]).2.length = n /\ ∀ g, (Value.slice A n c).ownBlock = some g -> ¬ S g /\ g < w.heap.size
theorem EntsAt.next {S S' : Nat -> Prop} {es : List (Nat × List Nat)} (h : EntsAt w S b es) (hb : b < w.heap.size) (n : Next S w S' w') : EntsAt w' S' b es := by
 refine ⟨fun hs => (n.foot b hs).elim h.own (fun h => by omega), fun j hj => ?_⟩;obtain ⟨A, m, c, h1, h2, h3, h4, h5⟩ := h.at_ j hj;refine ⟨A, m, c, (n.far (cell_lt h1) h.own).trans h1, (n.far (cell_lt h2) h.own).trans h2, h3.turn n.turn (fun g hg => (h5 g hg).1), h4, fun g hg => ⟨fun hs => ?_, ?_⟩⟩
 ·rcases n.foot g hs with h9 | h9
  ·exact (h5 g hg).1 h9
  ·have := (h5 g hg).2;omega
 ·have := (h5 g hg).2;have := n.turn.size;omega
theorem nds_add {S : Nat -> Prop} {r : Nat} {N : Nd} (h : NdS w S r d l room N M L) (A : Option Addr) (m cp : Nat) (p : List Nat) (hP : IsB w (.slice A m cp) p) (hm : p.length = m) (hb : ∀ x ∈ p, x < 256) (hlow : ∀ g, (Value.slice A m cp).ownBlock = some g -> ¬ S g) :
  Calls Tryz.prog 104 #[.pointer (some ⟨l, 0, none⟩), .slice A m cp] w fun e w' => e = .returned (.tuple #[.int .i64 ((addL room logK p M L).2.1 : Int), .int .i64 ((addL room logK p M L).2.2 : Int)]) /\ ∃ S', NdS w' S' r d l room N (addL room logK p M L).1.1 (addL room logK p M L).1.2 /\ Next S w S' w' := by
 obtain ⟨F, G, hN, hS⟩ := h;refine (pro_add hN.pro A m cp p hP hm hb (fun _ g hg => ⟨fun h => hlow g hg ((hS g).2 (.inl (.inl h))), fun h => hlow g hg ((hS g).2 (.inl (.inr h)))⟩)).mono ?_;rintro e w' ⟨rfl, F', G', hp, t, hf, hg⟩;have hr := hN.blk.lt;refine ⟨rfl, _, ⟨F', G', ⟨hN.blk.turn t (fun h => h.elim hN.nf hN.ng), hp, fun h => (hf r h).elim hN.nf (fun h => by omega), fun h => (hg r h).elim hN.ng (fun h => by omega), hN.fit⟩, fun _ => Iff.rfl⟩, foot_next hS (Below.refl _ _) t hf hg⟩
theorem nds_sync {S : Nat -> Prop} {r : Nat} {N : Nd} (h : NdS w S r d l room N M L) :
  Calls Tryz.prog 42 #[.pointer (some ⟨l, 0, none⟩)] w fun e w' => e = .returned (.int .i64 0) /\ ∃ S', NdS w' S' r d l room N ⟨M.segs, M.next, []⟩ (syncsL logK M.dirty L) /\ Next S w S' w' := by
 obtain ⟨F, G, hN, hS⟩ := h;refine (pro_sync hN.pro).mono ?_;rintro e w' ⟨rfl, F', G', hp, t, hf, hg⟩;have hr := hN.blk.lt;refine ⟨rfl, _, ⟨F', G', ⟨hN.blk.turn t (fun h => h.elim hN.nf hN.ng), hp, fun h => (hf r h).elim hN.nf (fun h => by omega), fun h => (hg r h).elim hN.ng (fun h => by omega), hN.fit⟩, fun _ => Iff.rfl⟩, foot_next hS (Below.refl _ _) t hf hg⟩
def layS (room : Nat) (es : List (Nat × List Nat)) (q : LogL × DiskL) : LogL × DiskL := es.foldl (fun q x => (addL room logK (uvl x.1 ++ x.2) q.1 q.2).1) q
theorem layS_snoc (room : Nat) (es : List (Nat × List Nat)) (x : Nat × List Nat) (q : LogL × DiskL) : layS room (es ++ [x]) q = (addL room logK (uvl x.1 ++ x.2) (layS room es q).1 (layS room es q).2).1 := by
 unfold layS;rw [List.foldl_append]
 rfl
set_option maxRecDepth 100000 in
set_option maxHeartbeats 3200000 in
theorem rlay_any {S : Nat -> Prop} {r : Nat} {N : Nd} (h : NdS w S r d l room N M L) (b n c : Nat) (es : List (Nat × List Nat)) (hE : EntsAt w S b es) (hn : es.length = n) (hb : b < w.heap.size) (hn9 : n <= 100)
  (hfit : ∀ x ∈ es, x.1 < 9223372036854775808 /\ x.2.length <= 1073741824 /\ ∀ y ∈ x.2, y < 256)
  (hok : ∀ j (hj : j < es.length), (addL room logK (uvl (es[j]).1 ++ (es[j]).2) (layS room (es.take j) (M, L)).1 (layS room (es.take j) (M, L)).2).2.2 = 0) :
  Calls Tryz.prog 77 #[.pointer (some ⟨r, 0, none⟩), .slice (some ⟨b, 0, none⟩) n c] w fun e w' => e = .returned (.bool true) /\ ∃ S', NdS w' S' r d l room N ⟨(layS room es (M, L)).1.segs, (layS room es (M, L)).1.next, []⟩ (syncsL logK (layS room es (M, L)).1.dirty (layS room es (M, L)).2) /\ Next S w S' w' := by
 have HE := hide hE;have HN := hide hn;have HF := hide hfit;have HO := hide hok;have H := hide h;have HB := hide hb;clear hE hn hfit hok h hb;go_enter Tryz.func77, Tryz.ntmps77;go_wp2_with fail
 go_loopw [5, 6] (fun e i wr => ∃ (j : Nat) (S' : Nat -> Prop), j <= n /\ e = .int .i64 0 /\ i = .int .i64 (j : Int) /\ Hid (NdS wr S' r d l room N (layS room (es.take j) (M, L)).1 (layS room (es.take j) (M, L)).2) /\ Hid (Next S w S' wr)) (fun _ i _ => n - (intOf i).toNat)
 case atStart => exact ⟨0, S, Nat.zero_le _, rfl, rfl, H, Next.refl _ _⟩
 case round =>
  obtain ⟨j, S', hj, rfl, rfl, HS, HX⟩ := hrel;by_cases hlt : j < n
  ·have hjx : j < es.length := by rw [HN.out]; exact hlt
   have E' := HE.out.next HB.out HX.out;obtain ⟨A, m, cc, h1, h2, h3, h4, h5⟩ := E'.at_ j hjx;obtain ⟨⟨t, dat⟩, hx⟩ : ∃ x, x = es[j] := ⟨_, rfl⟩;rw [<- hx] at h1 h3 h4;dsimp only at h1 h3 h4;obtain ⟨ht, hl, hy⟩ := HF.out (t, dat) (by rw [hx]; exact List.getElem_mem hjx);dsimp only at ht hl hy;have hd1 : decide ((j : Int) < (n : Int)) = true := by simp; omega
   have hjn : (j : Int) < (n : Int) := by omega
   have q3 : wr.cell? ⟨r, 3, none⟩ = some (.pointer (some ⟨l, 0, none⟩)) := nds_cell HS.out 3;have hok1 := HO.out j hjx;rw [<- hx] at hok1;dsimp only at hok1;have hsn : Hid (layS room (es.take (j + 1)) (M, L) = (addL room logK (uvl t ++ dat) (layS room (es.take j) (M, L)).1 (layS room (es.take j) (M, L)).2).1) := hide (by
    rw [<- List.take_append_getElem hjx, layS_snoc, <- hx])
   obtain ⟨Mj, hMj⟩ : ∃ q, q = (layS room (es.take j) (M, L)).1 := ⟨_, rfl⟩;obtain ⟨Lj, hLj⟩ : ∃ q, q = (layS room (es.take j) (M, L)).2 := ⟨_, rfl⟩;rw [<- hMj, <- hLj] at hok1 hsn HS;have HOK := hide hok1;have H3 := hide h3;have H4 := hide h4;have HY := hide hy;have hm9 : m <= 1073741824 := by omega
   have HUL := hide (uvl_len64 t (by omega));have HLW := hide HS.out.low;have HEO := hide E'.own;have HSN : Hid ((addL room logK (uvl t ++ dat) Mj Lj).1 = layS room (es.take (j + 1)) (M, L)) := hide hsn.out.symm;have hb0 := cell_lt h1;clear hx hok1 h3 h4 h5 hl hy E' hMj hLj;go_wp2_with fail
   go_region_held3 (fun W' => W'.cell? ⟨r, 3, none⟩ = some (.pointer (some ⟨l, 0, none⟩)) /\ W'.cell? ⟨b, j * 2, none⟩ = some (.int .i64 (t : Int)) /\ W'.cell? ⟨b, j * 2 + 1, none⟩ = some (.slice A m cc)) (go_keep)
    (first
     | (go_at_call 105; refine (rlaid_any _ t A m cc dat (by exact H3.out) H4.out ht hm9).mono ?_; rintro e w1 ⟨s1, rfl, o1, k1⟩; have k2 : Below wr.heap.size wr w1 := (by exact ⟨k1.os, k1.tape, k1.output, k1.size, k1.block⟩); obtain ⟨m2, hm2⟩ : ∃ m, m = (uvl t ++ dat).length := ⟨_, rfl⟩; obtain ⟨A1, c1, rfl, i1, l1, m1⟩ := o1.isB.form hm2.symm; have OFF : Hid (∀ g, (Value.slice A1 m2 c1).ownBlock = some g -> ¬ S' g) := hide (fun g hg hs => by have h7 := (o1.lt g hg).1; have h7 : wr.heap.size <= g := h7; have h8 := HLW.out g hs; omega); have K1 := hide k2; have I1 := hide i1; have HM := hide hm2; have x3 := (k2.cell (cell_lt q3)).trans q3; have x1 := (k2.cell (p := ⟨b, j * 2, none⟩) hb0).trans h1; have x2 := (k2.cell (p := ⟨b, j * 2 + 1, none⟩) hb0).trans h2; clear o1 k1 k2 i1 hm2)
     | (go_at_call 104; refine (nds_add (HS.out.below K1.out) A1 m2 c1 (uvl t ++ dat) I1.out HM.out.symm (fun x hx => (List.mem_append.1 hx).elim (uvl_byte t x) (HY.out x)) OFF.out).mono ?_; rintro e w2 ⟨rfl, S2, d2, n2⟩; rw [HOK.out]; have y3 : w2.cell? ⟨r, 3, none⟩ = some (.pointer (some ⟨l, 0, none⟩)) := nds_cell d2 3; have y1 := (n2.far (cell_lt x1) HEO.out).trans x1; have y2 := (n2.far (cell_lt x2) HEO.out).trans x2; rw [HSN.out] at d2; have D2 := hide d2; have N2 := hide n2; clear d2 n2))
   clear x1 x2 x3 h1 h2 q3 y1 y2 y3;go_wp2_with fail
   go_roundw
   case rel => exact ⟨j + 1, S2, by omega, rfl, by go_num, D2, hide (HX.out.trans ((Next.of_below S' K1.out).trans N2.out))⟩
   case measure => simp [intOf]; omega
  ·have hjn : j = n := by omega
   subst hjn;have hd1 : ¬ (j : Int) < (j : Int) := by omega
   have q3 : wr.cell? ⟨r, 3, none⟩ = some (.pointer (some ⟨l, 0, none⟩)) := nds_cell HS.out 3;have HS2 := hide HS.out;rw [List.take_of_length_le (by rw [HN.out]; exact Nat.le_refl _)] at HS2;clear HS;go_wp2_with fail
   refine (nds_sync HS2.out).mono ?_;rintro e w2 ⟨rfl, S2, d2, n2⟩;have D2 := hide d2;have N2 := hide n2;clear d2 n2 q3;go_wp2_with fail
   go_ret;exact ⟨rfl, S2, D2.out, HX.out.trans N2.out⟩
def ones5 (x : Nat) : Nat := x % 2 + x / 2 % 2 + x / 4 % 2 + x / 8 % 2 + x / 16 % 2
theorem ones5_step (y : Nat) (h : y < 32) : ones5 y = y % 2 + ones5 (y / 2) := by
 unfold ones5;omega
theorem and1 (y : Nat) (h : y < 32) : bits .and .u64 (y : Int) 1 = ((y % 2 : Nat) : Int) := by
 have : ∀ z < 32, bits .and .u64 ((z : Nat) : Int) 1 = ((z % 2 : Nat) : Int) := by decide +kernel
 exact this y h
set_option maxRecDepth 100000 in
theorem most_any {S : Nat -> Prop} {r : Nat} {N : Nd} (h : NdS w S r d l room N M L) (x : Nat) (hx : x < 32) :
  Calls Tryz.prog 50 #[.pointer (some ⟨r, 0, none⟩), .int .u64 (x : Int)] w fun e w' => e = .returned (.bool (decide (N.n < 2 * ones5 x))) /\ w = w' := by
 have q1 : w.cell? ⟨r, 1, none⟩ = some (.int .i64 (N.n : Int)) := nds_cell h 1;have hn5 := h.fit.2.1;have h5 : ones5 x <= 5 := by unfold ones5; omega
 obtain ⟨m5, hm5⟩ : ∃ m, m = ones5 x := ⟨_, rfl⟩;obtain ⟨nn, hnn⟩ : ∃ nn, nn = N.n := ⟨_, rfl⟩;rw [<- hnn] at q1 hn5 ⊢;rw [<- hm5] at h5 ⊢;have HM5 := hide hm5;clear h hnn hm5;go_enter Tryz.func50, Tryz.ntmps50;go_wp2_with fail
 go_loopw [1, 5] (fun s n wr => ∃ y k : Nat, y < 32 /\ k <= 5 /\ k + ones5 y = m5 /\ s = .int .u64 (y : Int) /\ n = .int .i64 (k : Int) /\ wr = w) (fun s _ _ => (intOf s).toNat)
 case atStart => exact ⟨x, 0, hx, by omega, by have := HM5.out; omega, rfl, rfl, rfl⟩
 case round =>
  obtain ⟨y, k, hy, hk, hs, rfl, rfl, rfl⟩ := hrel;by_cases h0 : 0 < y
  ·have ha := and1 y hy;have hst := ones5_step y hy;have hyz : (0 : Int) < (y : Int) := by omega
   obtain ⟨m, hm⟩ : ∃ m, m = y % 2 := ⟨_, rfl⟩;rw [<- hm] at ha hst;have hm2 : m <= 1 := by omega
   have HST := hide (And.intro hst hs);clear hst hs hm;go_wp2_with fail
   go_roundw
   case rel => exact ⟨y / 2, k + m, by omega, by have := HST.out; omega, by have := HST.out; omega, by go_num, by go_num, trivial⟩
   case measure => simp [intOf]; omega
  ·have hy0 : y = 0 := by omega
   have hk5 : k = m5 := by rw [hy0] at hs; unfold ones5 at hs; omega
   have hkz : ¬ (0 : Int) < (y : Int) := by omega
   clear hs hy0;subst hk5;by_cases hmost : nn < 2 * k
   ·have hmz : (nn : Int) < 2 * (k : Int) := by omega
    go_wp2_with fail
    go_ret;exact ⟨rfl, rfl⟩
   ·have hmz : ¬ (nn : Int) < 2 * (k : Int) := by omega
    go_wp2_with fail
    go_ret;exact ⟨rfl, rfl⟩
def peer0 : Value := .agg #[.int .i64 1, .int .i64 0, .int .i64 1, .int .i64 0, .int .i64 1, .int .i64 0, .int .i64 1, .int .i64 0, .int .i64 1, .int .i64 0]
theorem idx_peer0 (W : World) : (Instr.index 62 peer0 (.int .i64 0)).run Tryz.prog W = .ok (.agg #[.int .i64 1, .int .i64 0]) W := by kernel_rfl
theorem idx_peer1 (W : World) : (Instr.index 62 peer0 (.int .i64 1)).run Tryz.prog W = .ok (.agg #[.int .i64 1, .int .i64 0]) W := by kernel_rfl
theorem idx_peer2 (W : World) : (Instr.index 62 peer0 (.int .i64 2)).run Tryz.prog W = .ok (.agg #[.int .i64 1, .int .i64 0]) W := by kernel_rfl
theorem idx_peer3 (W : World) : (Instr.index 62 peer0 (.int .i64 3)).run Tryz.prog W = .ok (.agg #[.int .i64 1, .int .i64 0]) W := by kernel_rfl
theorem idx_peer4 (W : World) : (Instr.index 62 peer0 (.int .i64 4)).run Tryz.prog W = .ok (.agg #[.int .i64 1, .int .i64 0]) W := by kernel_rfl
theorem idx_peer (W : World) (j : Nat) (hj : j < 5) : (Instr.index 62 peer0 (.int .i64 (j : Int))).run Tryz.prog W = .ok (.agg #[.int .i64 1, .int .i64 0]) W := by
 match j, hj with
 | 0, _ => exact idx_peer0 W
 | 1, _ => exact idx_peer1 W
 | 2, _ => exact idx_peer2 W
 | 3, _ => exact idx_peer3 W
 | 4, _ => exact idx_peer4 W
set_option maxRecDepth 100000 in
theorem having_one {S : Nat -> Prop} {r : Nat} {N : Nd} (h : NdS w S r d l room N M L) (hid : N.id = 0) (hp : N.peers = [1, 0, 1, 0, 1, 0, 1, 0, 1, 0]) :
  Calls Tryz.prog 78 #[.pointer (some ⟨r, 0, none⟩), .int .i64 1] w fun e w' => e = .returned (.int .u64 1) /\ Below w.heap.size w w' := by
 have q0 : w.cell? ⟨r, 0, none⟩ = some (.int .i64 (N.id : Int)) := nds_cell h 0;rw [hid] at q0;have hc : ∀ i, w.cell? ⟨r, i, none⟩ = (ndC d l N)[i]? := fun i => nds_cell h i
 unfold ndC at hc;rw [hp] at hc;have c12 : w.cell? ⟨r, 12, none⟩ = some (.int .i64 1) := hc 12;have c13 : w.cell? ⟨r, 13, none⟩ = some (.int .i64 0) := hc 13;have c14 : w.cell? ⟨r, 14, none⟩ = some (.int .i64 1) := hc 14;have c15 : w.cell? ⟨r, 15, none⟩ = some (.int .i64 0) := hc 15;have c16 : w.cell? ⟨r, 16, none⟩ = some (.int .i64 1) := hc 16;have c17 : w.cell? ⟨r, 17, none⟩ = some (.int .i64 0) := hc 17;have c18 : w.cell? ⟨r, 18, none⟩ = some (.int .i64 1) := hc 18;have c19 : w.cell? ⟨r, 19, none⟩ = some (.int .i64 0) := hc 19;have c20 : w.cell? ⟨r, 20, none⟩ = some (.int .i64 1) := hc 20;have c21 : w.cell? ⟨r, 21, none⟩ = some (.int .i64 0) := hc 21;clear h hc hp hid;go_enter Tryz.func78, Tryz.ntmps78;go_wp2_with fail
 go_loopw [5, 6, 7, 17] (fun e _ _ i wr => ∃ j : Nat, j <= 5 /\ e = .int .u64 1 /\ i = .int .i64 (j : Int) /\ Hid (Below w.heap.size w wr)) (fun _ _ _ i _ => 5 - (intOf i).toNat)
 case atStart => exact ⟨0, by omega, rfl, rfl, Below.refl _ _⟩
 case round =>
  obtain ⟨j, hj, rfl, rfl, HK⟩ := hrel;by_cases hlt : j < 5
  ·have hjz : (j : Int) < 5 := by omega
   have hix := idx_peer wr j hlt;have hix2 := fun u => idx_peer (wr.alloc u) j hlt
   unfold peer0 at hix hix2;have bg := Blk.new wr (B := 0) 61 #[.int .i64 1, .int .i64 0] (Nat.zero_le _);have z1 := bg.cell 1;have ka := below_alloc wr (.cells #[.int .i64 1, .int .i64 0] 61);have KA := hide ka;clear bg ka;go_wp2_with fail
   go_roundw
   case rel => exact ⟨j + 1, by omega, rfl, by go_num, hide (HK.out.trans (KA.out.mono HK.out.size))⟩
   case measure => simp [intOf]; omega
  ·have hj5 : j = 5 := by omega
   have hjz : ¬ (j : Int) < 5 := by omega
   clear hj5;go_wp2_with fail
   go_ret;exact ⟨rfl, HK.out⟩
set_option maxRecDepth 100000 in
set_option maxHeartbeats 3200000 in
theorem commit_one {S : Nat -> Prop} {r : Nat} {N : Nd} (h : NdS w S r d l room N M L) (hid : N.id = 0) (hn : N.n = 1) (hc : N.comm = 0) (hp : N.peers = [1, 0, 1, 0, 1, 0, 1, 0, 1, 0]) (hM : M.next = 2) (ht : TermE M 1 N.term) :
  Calls Tryz.prog 54 #[.pointer (some ⟨r, 0, none⟩)] w fun e w' => e = .returned (.bool true) /\ NdS w' S r d l room { N with comm := 1 } M L /\ Next S w S w' := by
 have HL := hide (last_any h (by omega) (by omega));rw [hM] at HL;have q8 : w.cell? ⟨r, 8, none⟩ = some (.int .i64 (N.comm : Int)) := nds_cell h 8;have q4 : w.cell? ⟨r, 4, none⟩ = some (.int .i64 (N.term : Int)) := nds_cell h 4;rw [hc] at q8;have H := hide h;have HP := hide (And.intro hid (And.intro hn hp));have HT := hide ht;obtain ⟨tm, htm⟩ : ∃ t, t = N.term := ⟨_, rfl⟩;rw [<- htm] at q4 HT;have HTM := hide htm;have hl4 := cell_lt q4;clear h hid hn hc hp hM ht htm;go_enter Tryz.func54, Tryz.ntmps54;go_wp2_with fail
 refine HL.out.mono ?_;rintro e w1 ⟨rfl, k1⟩;have H1 := hide (H.out.below k1);have K1 := hide k1;have x8 := (k1.cell (p := ⟨r, 8, none⟩) hl4).trans q8;have x4 := (k1.cell (p := ⟨r, 4, none⟩) hl4).trans q4;have HLT := hide (cell_lt x4);clear k1 HL H q8 q4;go_wp2_with fail
 go_loopw [3] (fun i wr => i = .int .i64 1 /\ wr = w1) (fun _ _ => 1)
 case atStart => exact ⟨rfl, rfl⟩
 case round =>
  obtain ⟨rfl, rfl⟩ := hrel;go_wp2_with fail
  go_region_held3 (fun W' => W'.cell? ⟨r, 4, none⟩ = some (.int .i64 (tm : Int))) (go_keep)
   (first
    | (go_at_call 78; refine (having_one (H1.out.below (below_drewN (Below.refl _ _) 1)) HP.out.1 HP.out.2.2).mono ?_; rintro e w2 ⟨rfl, k2⟩; have H2 := hide ((H1.out.below (below_drewN (Below.refl _ _) 1)).below k2); have K2 := hide ((K1.out.trans ((below_drewN (Below.refl _ _) 1).mono K1.out.size)).trans (k2.mono K1.out.size)); have y4 := (k2.cell (p := ⟨r, 4, none⟩) HLT.out).trans x4; have HL2 := hide (cell_lt y4); clear k2)
    | (go_at_call 50; refine (most_any H2.out 1 (by decide)).mono ?_; rintro e w3 ⟨rfl, rfl⟩; rw [show decide (N.n < 2 * ones5 1) = true by rw [HP.out.2.1]; rfl])
    | (go_at_call 59; refine (termOf_any H2.out 1 tm HT.out).mono ?_; rintro e w4 ⟨rfl, k4⟩; have H4 := hide (H2.out.below k4); have K4 := hide (K2.out.trans (k4.mono K2.out.size)); have z4 := (k4.cell (p := ⟨r, 4, none⟩) HL2.out).trans y4; clear k4))
  have f8 := H4.out.blk.frozen 8;have q8 : w4.cell? ⟨r, 8, none⟩ = some (.int .i64 (N.comm : Int)) := nds_cell H4.out 8;go_wp2_with fail
  go_ret;exact ⟨rfl, H4.out.set (N' := { N with comm := 1 }) 8 (.int .i64 1) rfl H4.out.fit, (Next.of_below S K4.out).trans (set_next H4.out.self)⟩
set_option maxRecDepth 100000 in
theorem others_one {S : Nat -> Prop} {r : Nat} {N : Nd} (h : NdS w S r d l room N M L) (hid : N.id = 0) (hn : N.n = 1) (v : Value) :
  Calls Tryz.prog 32 #[.pointer (some ⟨r, 0, none⟩), v] w fun e w' => e = .returned (.slice none 0 0) /\ w = w' := by
 have q0 : w.cell? ⟨r, 0, none⟩ = some (.int .i64 (N.id : Int)) := nds_cell h 0;have q1 : w.cell? ⟨r, 1, none⟩ = some (.int .i64 (N.n : Int)) := nds_cell h 1;rw [hid] at q0;rw [hn] at q1;clear h hid hn;go_enter Tryz.func32, Tryz.ntmps32;go_wp2_with fail
 go_loopw [5, 6, 11] (fun l _ i wr => l = .slice none 0 0 /\ (i = .int .i64 0 \/ i = .int .i64 1) /\ wr = w) (fun _ _ i _ => 2 - (intOf i).toNat)
 case atStart => exact ⟨rfl, .inl rfl, rfl⟩
 case round =>
  obtain ⟨rfl, hi, rfl⟩ := hrel;rcases hi with rfl | rfl
  ·go_wp2_with fail
   go_roundw
   case rel => exact ⟨rfl, .inr rfl, trivial⟩
   case measure => simp [intOf]
  ·go_wp2_with fail
   go_ret;exact ⟨rfl, rfl⟩
def addE (room t : Nat) (M : LogL) (L : DiskL) : LogL × DiskL := (⟨(addL room logK (uvl t) M L).1.1.segs, (addL room logK (uvl t) M L).1.1.next, []⟩, syncsL logK (addL room logK (uvl t) M L).1.1.dirty (addL room logK (uvl t) M L).1.2)
theorem ents_one {S : Nat -> Prop} (t b : Nat) (hS : ∀ k, S k -> k < w.heap.size) (hb : b = w.heap.size) : EntsAt (w.alloc (.cells #[.int .i64 (t : Int), .slice none 0 0] 46)) S b [(t, [])] := by
 subst hb;have bg := Blk.new w (B := 0) 46 #[.int .i64 (t : Int), .slice none 0 0] (Nat.zero_le _);refine ⟨fun h => by have := hS _ h; omega, fun j hj => ?_⟩;have hj0 : j = 0 := by simpa using hj
 subst hj0;exact ⟨none, 0, 0, bg.cell 0, bg.cell 1, ⟨none, 0, rfl, fun h => absurd rfl h, fun _ => rfl, Nat.le_refl _, by decide⟩, rfl, fun g h => by simp [Value.ownBlock] at h⟩
set_option maxRecDepth 100000 in
set_option maxHeartbeats 1600000 in
theorem add_one {S : Nat -> Prop} {r : Nat} {N : Nd} (h : NdS w S r d l room N M L) (hid : N.id = 0) (hn : N.n = 1) (hc : N.comm = 0) (hp : N.peers = [1, 0, 1, 0, 1, 0, 1, 0, 1, 0]) (ht9 : N.term < 9223372036854775808) (hok : (addL room logK (uvl N.term) M L).2.2 = 0) (hM : (addE room N.term M L).1.next = 2) (ht : TermE (addE room N.term M L).1 1 N.term) :
  Calls Tryz.prog 75 #[.pointer (some ⟨r, 0, none⟩), .slice none 0 0] w fun e w' => e = .returned (.slice none 0 0) /\ ∃ S', NdS w' S' r d l room { N with comm := 1 } (addE room N.term M L).1 (addE room N.term M L).2 /\ Next S w S' w' := by
 have q4 : w.cell? ⟨r, 4, none⟩ = some (.int .i64 (N.term : Int)) := nds_cell h 4;have H := hide h;have HP := hide (And.intro hid (And.intro hn (And.intro hc hp)));have HT := hide (And.intro hok (And.intro hM ht));obtain ⟨tm, htm⟩ : ∃ t, t = N.term := ⟨_, rfl⟩;rw [<- htm] at q4 HT ht9 ⊢;have HTM := hide htm;have ka := below_alloc w (.cells #[.int .i64 (tm : Int), .slice none 0 0] 46);have KA := hide ka;have hsz : Hid (w.heap.size < (w.alloc (.cells #[.int .i64 (tm : Int), .slice none 0 0] 46)).heap.size) := hide (Blk.new w (B := 0) 46 #[.int .i64 (tm : Int), .slice none 0 0] (Nat.zero_le _)).lt;have LY := hide (rlay_any (h.below ka) w.heap.size 1 1 [(tm, [])] (ents_one tm _ h.low rfl) rfl hsz.out (by decide) (by intro x hx; simp at hx; subst hx; exact ⟨ht9, Nat.zero_le _, fun y hy => by cases hy⟩) (by
  intro j hj;have hj0 : j = 0 := by simpa using hj
  subst hj0
  show (addL room logK (uvl tm ++ []) M L).2.2 = 0
  rw [List.append_nil];exact HT.out.1))
 have hl : layS room [(tm, [])] (M, L) = (addL room logK (uvl tm) M L).1 := by
  show (addL room logK (uvl tm ++ []) M L).1 = _
  rw [List.append_nil]
 rw [hl] at LY;clear h hid hn hc hp hok hM ht htm ka hl;go_enter Tryz.func75, Tryz.ntmps75;go_wp2_with fail
 refine LY.out.mono ?_;rintro e w1 ⟨rfl, S1, d1, n1⟩;have D1 := hide d1;have N1 := hide ((Next.of_below S KA.out).trans n1);clear d1 n1 LY q4;go_wp2_with fail
 refine (commit_one D1.out HP.out.1 HP.out.2.1 HP.out.2.2.1 HP.out.2.2.2 HT.out.2.1 (by rw [<- HTM.out]; exact HT.out.2.2)).mono ?_;rintro e w2 ⟨rfl, d2, n2⟩;have D2 := hide d2;have N2 := hide (N1.out.trans n2);clear d2 n2;go_wp2_with fail
 refine (others_one D2.out HP.out.1 HP.out.2.1 _).mono ?_;rintro e w3 ⟨rfl, rfl⟩;go_wp2_with fail
 go_ret;obtain rfl := HTM.out;exact ⟨rfl, S1, D2.out, N2.out⟩
def pairsL (q : Nat) (j : Nat) : List Nat := (List.range 10).map fun k => if k < j * 2 then (if k % 2 = 0 then q else 0) else 0
theorem pairs_set (d l : Nat) (N : Nd) (q j : Nat) (hj : j < 5) : ((ndC d l { N with peers := pairsL q j }).set (12 + j * 2) (.int .i64 (q : Int))).set (12 + j * 2 + 1) (.int .i64 0) = ndC d l { N with peers := pairsL q (j + 1) } := by
 match j, hj with
 | 0, _ => rfl
 | 1, _ => rfl
 | 2, _ => rfl
 | 3, _ => rfl
 | 4, _ => rfl
theorem pairs_at (d l : Nat) (N : Nd) (q j : Nat) (hj : j < 5) : ∃ a b : Nat, (ndC d l { N with peers := pairsL q j })[12 + j * 2]? = some (.int .i64 (a : Int)) /\ (ndC d l { N with peers := pairsL q j })[12 + j * 2 + 1]? = some (.int .i64 (b : Int)) := by
 match j, hj with
 | 0, _ => exact ⟨_, _, rfl, rfl⟩
 | 1, _ => exact ⟨_, _, rfl, rfl⟩
 | 2, _ => exact ⟨_, _, rfl, rfl⟩
 | 3, _ => exact ⟨_, _, rfl, rfl⟩
 | 4, _ => exact ⟨_, _, rfl, rfl⟩
set_option maxRecDepth 100000 in
set_option maxHeartbeats 1600000 in
theorem lead_one {S : Nat -> Prop} {r : Nat} {N : Nd} (h : NdS w S r d l room N M L) (hid : N.id = 0) (hn : N.n = 1) (hc : N.comm = 0) (hp : N.peers = pairsL 1 0) (hM1 : M.next = 1) (ht9 : N.term < 9223372036854775808) (hok : (addL room logK (uvl N.term) M L).2.2 = 0) (hM : (addE room N.term M L).1.next = 2) (ht : TermE (addE room N.term M L).1 1 N.term) :
  Calls Tryz.prog 51 #[.pointer (some ⟨r, 0, none⟩)] w fun e w' => e = .returned (.slice none 0 0) /\ ∃ S', NdS w' S' r d l room { N with role := 2, lead := 0, wait := 3, peers := pairsL 1 5, comm := 1 } (addE room N.term M L).1 (addE room N.term M L).2 /\ Next S w S' w' := by
 have q0 : w.cell? ⟨r, 0, none⟩ = some (.int .i64 (N.id : Int)) := nds_cell h 0;have q6 : w.cell? ⟨r, 6, none⟩ = some (.int .i64 (N.role : Int)) := nds_cell h 6;have q7 : w.cell? ⟨r, 7, none⟩ = some (.int .i64 N.lead) := nds_cell h 7;have q10 : w.cell? ⟨r, 10, none⟩ = some (.int .i64 N.wait) := nds_cell h 10;have f6 := h.blk.frozen 6;have f7 := h.blk.frozen 7;have f10 := h.blk.frozen 10;rw [hid] at q0;have H := hide h;have HP := hide (And.intro hid (And.intro hn (And.intro hc hp)));have HT := hide (And.intro ht9 (And.intro hok (And.intro hM ht)));have HM1 := hide hM1;clear h hid hn hc hp hM1 ht9 hok hM ht;go_enter Tryz.func51, Tryz.ntmps51;go_wp2_with fail
 have S1 := H.out.set (N' := { N with role := 2 }) 6 (.int .i64 2) rfl H.out.fit;have S2 := S1.set (N' := { N with role := 2, lead := 0 }) 7 (.int .i64 0) rfl H.out.fit;have S3 := S2.set (N' := { N with role := 2, lead := 0, wait := 3, peers := pairsL 1 0 }) 10 (.int .i64 3) (by rw [<- HP.out.2.2.2]; rfl) ⟨H.out.fit.1, H.out.fit.2.1, rfl⟩;have n3 : Next S w S _ := (set_next (u := .int .i64 2) (i := 6) H.out.self).trans ((set_next (u := .int .i64 0) (i := 7) S1.self).trans (set_next (u := .int .i64 3) (i := 10) S2.self));clear S1 S2 q0 q6 q7 q10 f6 f7 f10;have S3 := hide S3;have N3 := hide n3;clear n3
 go_loopw [3, 17] (fun _ i wr => ∃ j : Nat, j <= 5 /\ i = .int .i64 (j : Int) /\ Hid (NdS wr S r d l room { N with role := 2, lead := 0, wait := 3, peers := pairsL 1 j } M L) /\ Hid (Next S w S wr)) (fun _ i _ => 5 - (intOf i).toNat)
 case atStart => exact ⟨0, by omega, rfl, S3, N3⟩
 case round =>
  obtain ⟨j, hj, rfl, HS, HX⟩ := hrel;by_cases hlt : j < 5
  ·have hjz : (j : Int) < 5 := by omega
   have HL : Hid (∀ W, NdS W S r d l room { N with role := 2, lead := 0, wait := 3, peers := pairsL 1 j } M L -> Calls Tryz.prog 31 #[.pointer (some ⟨r, 0, none⟩)] W fun e w' => e = .returned (.int .i64 0) /\ Below W.heap.size W w') := hide (fun W hw => by
    have hla := last_any hw (by rw [HM1.out]; exact Nat.le_refl _) (by rw [HM1.out]; decide);rw [HM1.out] at hla;exact hla)
   have hw1 : IntKind.i64.wrap 1 = 1 := by decide
   obtain ⟨a, b, ha, hb⟩ := pairs_at d l { N with role := 2, lead := 0, wait := 3 } 1 j hlt;have c0 : wr.cell? ⟨r, 12 + j * 2, none⟩ = some (.int .i64 (a : Int)) := (nds_cell HS.out _).trans ha;have c1 : wr.cell? ⟨r, 12 + j * 2 + 1, none⟩ = some (.int .i64 (b : Int)) := (nds_cell HS.out _).trans hb;clear ha hb;go_wp2_with fail
   go_region_with (go_at_call 31; refine (HL.out _ (HS.out.below (below_drewN (Below.refl _ _) 1))).mono ?_; rintro e w2 ⟨rfl, k2⟩; have H2 := hide ((HS.out.below (below_drewN (Below.refl _ _) 1)).below k2); have K2 := hide ((below_drewN (Below.refl wr.heap.size wr) 1).trans k2); have y0 := (k2.cell (cell_lt c0)).trans c0; have y1 := (k2.cell (cell_lt c1)).trans c1; have z0 := H2.out.blk.frozen (12 + j * 2); have z1 := H2.out.blk.frozen (12 + j * 2 + 1); clear k2)
   clear c0 c1 y0 y1 z0 z1;go_wp2_with fail
   go_roundw
   case rel =>
    have T1 := H2.out.blk.stored (12 + j * 2) (.int .i64 1);refine ⟨j + 1, by omega, by go_num, ?_, ?_⟩
    ·obtain ⟨F, G, hN, hS⟩ := H2.out;have ta := (box_turn0 w2 r (12 + j * 2) (.int .i64 1)).trans (box_turn0 _ r (12 + j * 2 + 1) (.int .i64 0));exact ⟨F, G, ⟨(pairs_set d l { N with role := 2, lead := 0, wait := 3 } 1 j hlt) ▸ (T1.stored (12 + j * 2 + 1) (.int .i64 0)), hN.pro.turn ta (fun k hk e => hN.nf (e ▸ hk)) (fun k hk e => hN.ng (e ▸ hk)), hN.nf, hN.ng, ⟨hN.fit.1, hN.fit.2.1, rfl⟩⟩, hS⟩
    ·exact (HX.out.trans (Next.of_below S K2.out)).trans ((set_next (u := .int .i64 1) (i := 12 + j * 2) H2.out.self).trans (set_next (u := .int .i64 0) (i := 12 + j * 2 + 1) H2.out.self))
   case measure => simp [intOf]; omega
  ·have hj5 : j = 5 := by omega
   have hjz : ¬ (j : Int) < 5 := by omega
   subst hj5;have hD := HS.out;clear HS;have HD := hide hD;have HA := hide (add_one hD HP.out.1 HP.out.2.1 HP.out.2.2.1 rfl HT.out.1 HT.out.2.1 HT.out.2.2.1 HT.out.2.2.2);clear hD;go_wp2_with fail
   refine HA.out.mono ?_;rintro e w2 ⟨rfl, S2, d2, n2⟩;have D2 := hide d2;have N2 := hide (HX.out.trans n2);clear d2 n2 HA;go_wp2_with fail
   go_ret;exact ⟨rfl, S2, D2.out, N2.out⟩
end Go.Proofs.YtedlibkkeegnaaaGreat
