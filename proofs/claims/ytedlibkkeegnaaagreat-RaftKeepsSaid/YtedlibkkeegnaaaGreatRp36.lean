/- The contracts of entriesOf without bytes, follow, has, join of nothing, answer. Condition: as each says. The contracts of told, asked, voted and took at a messa -/
import Derived.Test.YtedlibkkeegnaaaGreatRp35
namespace Go.Proofs.YtedlibkkeegnaaaGreat
open Go.RowKit Go.Maps
variable {w w' : World} {L : DiskL} {M : LogL} {B room l d g : Nat}
set_option maxRecDepth 100000 in
theorem goes_no (g : Nat) (A : Option Addr) (c : Nat) (w : World) (hB : RdrB w g A 0 c 0) :
  Calls Tryz.prog 45 #[.pointer (some ⟨g, 0, none⟩)] w fun e w' => e = .returned (.bool false) /\ w = w' := by
 have q0 : w.cell? ⟨g, 0, none⟩ = some (.slice A 0 c) := hB.cell 0;have q1 : w.cell? ⟨g, 1, none⟩ = some (.int .i64 0) := hB.cell 1;clear hB;go_enter Tryz.func45, Tryz.ntmps45;go_wp2_with fail
 go_ret;exact ⟨rfl, rfl⟩
set_option maxRecDepth 100000 in
set_option maxHeartbeats 1600000 in
theorem entries_none (f t k : Int) (g n c : Nat) (D : Option Addr) (dc : Nat) (w : World) :
  Calls Tryz.prog 21 #[msgV f t k g n c D 0 dc] w fun e w' => e = .returned (.tuple #[.slice none 0 0, .int .i64 0]) /\ Below w.heap.size w w' := by
 have ka := below_alloc w (.cells #[.int .i64 f, .int .i64 t, .int .i64 k, .slice (some ⟨g, 0, none⟩) n c, .slice D 0 dc] 34);have bg := Blk.new w (B := 0) 34 #[.int .i64 f, .int .i64 t, .int .i64 k, .slice (some ⟨g, 0, none⟩) n c, .slice D 0 dc] (Nat.zero_le _);obtain ⟨q, hq⟩ : ∃ q, q = w.heap.size := ⟨_, rfl⟩;obtain ⟨W, hW⟩ : ∃ W, W = w.alloc (.cells #[.int .i64 f, .int .i64 t, .int .i64 k, .slice (some ⟨g, 0, none⟩) n c, .slice D 0 dc] 34) := ⟨_, rfl⟩;have x4l : (w.alloc (.cells #[.int .i64 f, .int .i64 t, .int .i64 k, .slice (some ⟨g, 0, none⟩) n c, .slice D 0 dc] 34)).cell? ⟨w.heap.size, 4, none⟩ = some (.slice D 0 dc) := bg.cell 4;rw [<- hW] at ka bg;rw [<- hq] at bg;have hqp : q + 1 = W.heap.size := by rw [hW, hq]; simp
 have kb := below_alloc W (.cells #[.slice D 0 dc, .int .i64 0] 84);have br := Blk.new W (B := 0) 84 #[.slice D 0 dc, .int .i64 0] (Nat.zero_le _);have b2 := bg.keep kb;obtain ⟨p, hp⟩ : ∃ p, p = W.heap.size := ⟨_, rfl⟩;obtain ⟨V, hV⟩ : ∃ V, V = W.alloc (.cells #[.slice D 0 dc, .int .i64 0] 84) := ⟨_, rfl⟩;rw [<- hV] at kb br b2;rw [<- hp] at br;have y2 : V.cell? ⟨q, 2, none⟩ = some (.int .i64 k) := b2.cell 2;have GN := hide (goes_no p D dc V br);have RE := hide (rend_ok p D dc V br);have KV := hide (ka.trans (kb.mono ka.size));clear ka bg kb br b2;unfold msgV;go_enter Tryz.func21, Tryz.ntmps21;go_wp2_with fail
 rw [<- hW, <- hV, <- hq, hqp, <- hp];clear hW hq hV hp hqp x4l
 go_loopw [5] (fun l wr => l = .slice none 0 0 /\ wr = V) (fun _ _ => 1)
 case atStart => exact ⟨rfl, rfl⟩
 case round =>
  obtain ⟨rfl, rfl⟩ := hrel;by_cases hk : k = 3
  ·have hk3 : ((k : Int) == 3) = true := by simp; exact hk
   clear hk;go_wp2_with fail
   refine GN.out.mono ?_;rintro e w1 ⟨rfl, rfl⟩;go_wp2_with fail
   refine RE.out.mono ?_;rintro e w2 ⟨rfl, k2⟩;have K2 := hide (KV.out.trans (k2.mono KV.out.size));clear k2;go_wp2_with fail
   go_ret2;exact ⟨rfl, K2.out⟩
  ·have hk3 : ((k : Int) == 3) = false := by simp; exact hk
   clear hk;go_wp2_with fail
   refine RE.out.mono ?_;rintro e w2 ⟨rfl, k2⟩;have K2 := hide (KV.out.trans (k2.mono KV.out.size));clear k2;go_wp2_with fail
   go_ret2;exact ⟨rfl, K2.out⟩
set_option maxRecDepth 100000 in
theorem follow_ok {S : Nat -> Prop} {r : Nat} {N : Nd} (h : NdS w S r d l room N M L) (t : Nat) (ht : t < 9223372036854775808) (hd : (draftL room termK (numsL [t, 0]) L).2 = 0) :
  Calls Tryz.prog 22 #[.pointer (some ⟨r, 0, none⟩), .int .i64 (t : Int)] w fun e w' => e = .returned (.bool true) /\ ∃ S', NdS w' S' r d l room { N with term := t, vote := -1, role := 0, lead := -1 } M (termP (numsL [t, 0]) L) /\ Next S w S' w' := by
 have SV := hide (rsave_ok h t 0 (-1) rfl ht (by decide) hd);clear h;go_enter Tryz.func22, Tryz.ntmps22;go_wp2_with fail
 refine SV.out.mono ?_;rintro e w1 ⟨rfl, S1, d1, n1⟩;have x6 : w1.cell? ⟨r, 6, none⟩ = some (.int .i64 (N.role : Int)) := nds_cell d1 6;have x7 : w1.cell? ⟨r, 7, none⟩ = some (.int .i64 N.lead) := nds_cell d1 7;have f6 := d1.blk.frozen 6;have f7 := d1.blk.frozen 7;have S2 := d1.set (N' := { N with term := t, vote := -1, role := 0 }) 6 (.int .i64 0) rfl d1.fit;have S3 := hide (S2.set (N' := { N with term := t, vote := -1, role := 0, lead := -1 }) 7 (.int .i64 (-1)) rfl d1.fit);have N3 := hide (n1.trans ((set_next (u := .int .i64 0) (i := 6) d1.self).trans (set_next (u := .int .i64 (-1)) (i := 7) S2.self)));clear d1 n1 S2 SV;go_wp2_with fail
 go_ret;exact ⟨rfl, S1, S3.out, N3.out⟩
theorem join_none (r : Nat) (z : Int) (w : World) :
  Calls Tryz.prog 53 #[.pointer (some ⟨r, 0, none⟩), .int .i64 z, .slice none 0 0] w fun e w' => e = .returned (.bool true) /\ w = w' := by
 go_enter Tryz.func53, Tryz.ntmps53;go_wp2_with fail
 go_loopw [1, 2] (fun a l wr => a = .int .i64 z /\ l = .slice none 0 0 /\ wr = w) (fun _ _ _ => 1)
 case atStart => exact ⟨rfl, rfl, rfl⟩
 case round =>
  obtain ⟨rfl, rfl, rfl⟩ := hrel;go_wp2_with fail
  go_ret;exact ⟨rfl, rfl⟩
def OneA (w : World) (v : Value) (id f k : Int) (g n c : Nat) : Prop := ∃ b, v = .slice (some ⟨b, 0, none⟩) 1 1 /\ w.cell? ⟨b, 0, none⟩ = some (.int .i64 id) /\ w.cell? ⟨b, 1, none⟩ = some (.int .i64 f) /\ w.cell? ⟨b, 2, none⟩ = some (.int .i64 k) /\ w.cell? ⟨b, 3, none⟩ = some (.slice (some ⟨g, 0, none⟩) n c) /\ w.cell? ⟨b, 4, none⟩ = some (.slice none 0 0)
set_option maxRecDepth 100000 in
theorem answer_any {S : Nat -> Prop} {r : Nat} {N : Nd} (h : NdS w S r d l room N M L) (f t k k2 : Int) (g n c : Nat) (D : Option Addr) (m dc : Nat) (ga na ca : Nat) :
  Calls Tryz.prog 49 #[.pointer (some ⟨r, 0, none⟩), msgV f t k g n c D m dc, .int .i64 k2, .slice (some ⟨ga, 0, none⟩) na ca] w fun e w' => ∃ v, e = .returned v /\ OneA w' v (N.id : Int) f k2 ga na ca /\ Below w.heap.size w w' := by
 have ka := below_alloc w (.cells #[.int .i64 f, .int .i64 t, .int .i64 k, .slice (some ⟨g, 0, none⟩) n c, .slice D m dc] 34);have bg := Blk.new w (B := 0) 34 #[.int .i64 f, .int .i64 t, .int .i64 k, .slice (some ⟨g, 0, none⟩) n c, .slice D m dc] (Nat.zero_le _);have x0 : (w.alloc (.cells #[.int .i64 f, .int .i64 t, .int .i64 k, .slice (some ⟨g, 0, none⟩) n c, .slice D m dc] 34)).cell? ⟨w.heap.size, 0, none⟩ = some (.int .i64 f) := bg.cell 0;have MA := hide (message_any (h.below ka) f k2 (some ⟨ga, 0, none⟩) na ca);have KA := hide ka;obtain ⟨nid, hid⟩ : ∃ z, z = N.id := ⟨_, rfl⟩;rw [<- hid] at MA ⊢;clear h bg ka hid;unfold msgV;go_enter Tryz.func49, Tryz.ntmps49;go_wp2_with fail
 refine MA.out.mono ?_;rintro e w1 ⟨rfl, k1⟩;have K1 := hide (KA.out.trans (k1.mono KA.out.size));clear k1 MA x0;go_wp2_with fail
 go_ret;have b1 := Blk.new w1 (B := 0) 34 #[.int .i64 (nid : Int), .int .i64 f, .int .i64 k2, .slice (some ⟨ga, 0, none⟩) na ca, .slice none 0 0] (Nat.zero_le _);exact ⟨_, rfl, ⟨w1.heap.size, rfl, b1.cell 0, b1.cell 1, b1.cell 2, b1.cell 3, b1.cell 4⟩, K1.out.trans ((below_alloc w1 _).mono K1.out.size)⟩
theorem build_nums (w : World) (cs : Array Value) (zs : List Int) (h : cs.toList = zs.map fun z : Int => Value.int .i64 z) : NumsAt (w.alloc (.cells cs 3)) w.heap.size zs := by
 intro i hi;have bg := Blk.new w (B := 0) 3 cs (Nat.zero_le _);rw [bg.cell i, h];simp [hi]
theorem sub_trans {A B C : Option Addr} (h : ∀ b, B = some b -> ∃ b', A = some b' /\ b.block = b'.block) (k : ∀ b, C = some b -> ∃ b', B = some b' /\ b.block = b'.block) : ∀ b, C = some b -> ∃ b', A = some b' /\ b.block = b'.block := fun b hb => by
 obtain ⟨b1, h1, e1⟩ := k b hb;obtain ⟨b2, h2, e2⟩ := h b1 h1;exact ⟨b2, h2, e1.trans e2⟩
theorem goes_yes (g : Nat) (A : Option Addr) (n c : Nat) (w : World) (hB : RdrB w g A n c 0) (h1 : 1 <= n) :
  Calls Tryz.prog 45 #[.pointer (some ⟨g, 0, none⟩)] w fun e w' => e = .returned (.bool true) /\ w = w' := by
 have q0 : w.cell? ⟨g, 0, none⟩ = some (.slice A n c) := hB.cell 0;have q1 : w.cell? ⟨g, 1, none⟩ = some (.int .i64 0) := hB.cell 1;have h2 : decide (0 < n) = true := by simp; omega
 clear hB h1;go_enter Tryz.func45, Tryz.ntmps45;go_wp2_with fail
 go_ret;exact ⟨rfl, rfl⟩
set_option maxRecDepth 100000 in
set_option maxHeartbeats 3200000 in
theorem rdr_sent_ok (g : Nat) (A : Option Addr) (n c t m : Nat) (dat rest : List Nat) (w : World) (hB : RdrB w g A n c 0) (hL : LowB w g A n c (uvl t ++ (uvl m ++ (dat ++ rest)))) (hm : dat.length = m) (hb : ∀ x ∈ dat ++ rest, x < 256) (ht : t <= 1099511627776) (hfit : (uvl t).length + m <= 1048566) :
  Calls Tryz.prog 46 #[.pointer (some ⟨g, 0, none⟩)] w fun e w' => ∃ A2 c2, e = .returned (entV t (.slice A2 m c2)) /\ (∀ b, A2 = some b -> ∃ b', A = some b' /\ b.block = b'.block) /\ LowB w' g A2 m c2 dat /\ ∃ A3 n3 c3, (∀ b, A3 = some b -> ∃ b', A = some b' /\ b.block = b'.block) /\ RdrB w' g A3 n3 c3 0 /\ LowB w' g A3 n3 c3 rest /\ Turn (fun j => j = g) w w' := by
 have hlen := hL.len;rw [List.length_append] at hlen;have ka := below_alloc w (.cells #[.int .i64 0, .slice none 0 0] 46);have bg := Blk.new w (B := 0) 46 #[.int .i64 0, .slice none 0 0] (Nat.zero_le _);have hby : ∀ x ∈ uvl m ++ (dat ++ rest), x < 256 := fun x hx => (List.mem_append.1 hx).elim (uvl_byte m x) (hb x)
 have HN := hide (rdr_num_ok g A n c _ (w.alloc (.cells #[.int .i64 0, .slice none 0 0] 46)) t (uvl t).length 1099511627776 (hB.keep ka) (hL.keep ka) (fun x hx => (List.mem_append.1 hx).elim (uvl_byte t x) (hby x)) (rvl_back t _ (by omega)) ht (by decide) (by omega));rw [List.drop_left] at HN;have TA := hide (Turn.of_below (fun j => j = g) ka);obtain ⟨q, hq⟩ : ∃ q, q = w.heap.size := ⟨_, rfl⟩;obtain ⟨W, hW⟩ : ∃ W, W = w.alloc (.cells #[.int .i64 0, .slice none 0 0] 46) := ⟨_, rfl⟩;rw [<- hW] at HN TA bg;rw [<- hq] at bg;have hgq : ¬ q = g := by have := hB.lt; omega
 have hqg : ¬ g = q := by omega
 have BG := hide bg;have HQ : Hid (q = w.heap.size /\ g <= q) := hide ⟨hq, by have := hB.lt; omega⟩;have HBY := hide hby;have HB := hide hb;have HM := hide hm;have HT := hide ht;have HFIT := hide hfit;obtain ⟨k1, hk1⟩ : ∃ k, k = (uvl t).length := ⟨_, rfl⟩;obtain ⟨n1, hn1⟩ : ∃ k, k = n - (uvl t).length := ⟨_, rfl⟩;rw [<- hn1] at HN;have HLN := hide hlen;have HK1 := hide hk1;have HN1 := hide hn1;obtain ⟨zz, hzz⟩ : ∃ z : Nat, (1048566 : Int) - (k1 : Int) = (z : Int) := ⟨1048566 - k1, by omega⟩;have HZZ := hide hzz;clear hB hL hb hlen ka bg hm hby hk1 hn1 ht hfit hzz;go_enter Tryz.func46, Tryz.ntmps46;go_wp2_with fail
 rw [<- hW, <- hq];clear hW hq;refine HN.out.mono ?_;rintro e w1 ⟨rfl, A1, c1, hs1, b1, l1, t1⟩;have T1 := hide (TA.out.trans t1);have HS := hide hs1;have BG := hide (BG.out.turn t1 hgq);have B1 := hide b1;have L1 := hide l1;clear b1 l1 t1 HN TA hs1;go_wp2_with fail
 have kb := below_alloc w1 (.cells #[.int .i64 (t : Int)] 3);refine (rnums_any _ 1 1 [t] _ (by exact build1 w1 _ t rfl) rfl (by intro x hx; simp at hx; have := HT.out; omega) (by decide)).mono ?_;rintro e w2 ⟨v2, rfl, o2, k2⟩;have e1 : (numsL [t]).length = k1 := by rw [HK1.out]; simp [numsL]
 obtain ⟨A2, c2, rfl, _⟩ := o2.isB.form e1;have K2 := kb.trans (k2.mono kb.size);have B2 := B1.out.keep K2;have L2 := L1.out.keep K2;have ln2 : n1 = (uvl m).length + (dat.length + rest.length) := by
  have := L1.out.len;rw [List.length_append, List.length_append] at this;omega
 have RN := hide (rdr_num_ok g A1 n1 c1 _ w2 m (uvl m).length zz B2 L2 HBY.out (rvl_back m _ (by have := HFIT.out; omega)) (by have h1 := HFIT.out; have h2 := HZZ.out; have h3 := HK1.out; omega) (by have h2 := HZZ.out; omega) (by omega));rw [List.drop_left] at RN;have BG2 := hide (BG.out.keep K2);have T2 := hide (T1.out.trans (Turn.of_below _ K2));obtain ⟨n2, hn2⟩ : ∃ k, k = n1 - (uvl m).length := ⟨_, rfl⟩;rw [<- hn2] at RN;have HN2 : Hid (n2 = m + rest.length) := hide (by have := HM.out; omega);clear kb o2 k2 K2 B2 L2 ln2 hn2 e1 BG T1 B1 L1;go_wp2_with fail
 rw [HZZ.out];refine RN.out.mono ?_;rintro e w3 ⟨rfl, A3, c3, hs3, b3, l3, t3⟩;have RB := hide (rdr_bytes_ok g A3 n2 c3 m _ w3 b3 l3 (by have := HN2.out; omega));rw [List.take_left' HM.out, List.drop_left' HM.out] at RB;have T3 := hide (T2.out.trans t3);have HS3 := hide (sub_trans HS.out hs3);have BG3 := hide (BG2.out.turn t3 hgq);clear b3 l3 t3 hs3 RN BG2 T2;go_wp2_with fail
 refine RB.out.mono ?_;rintro e w4 ⟨rfl, l4, A4, c4, hs4, b4, l4', t4⟩;have BG4 := hide (BG3.out.turn t4 hgq);have f0 := BG4.out.frozen 0;have f1 := BG4.out.frozen 1;have e0 := BG4.out.cell 0;have e1 := BG4.out.cell 1;dsimp only [List.getElem?_cons_zero, List.getElem?_cons_succ] at e0 e1;have T4 := hide (T3.out.trans t4);have L4 := hide l4;have L4' := hide l4';have B4 := hide b4;have HS4 := hide (sub_trans HS3.out hs4);clear l4 b4 hs4 t4 RB T3 l4' BG3;go_wp2_with fail
 have B9 := (BG4.out.stored 0 (.int .i64 (t : Int))).stored 1 (.slice A3 m c3);have z0 := B9.cell 0;have z1 := B9.cell 1;have ts := ((box_turn0 w4 q 0 (.int .i64 (t : Int))).trans (box_turn0 _ q 1 (.slice A3 m c3)));refine bodyPost_ret (v := entV t (.slice A3 m c3)) (by simp [results, Tryz.results46, go_sem, z0, z1, entV]) rfl ?_;exact ⟨A3, c3, rfl, HS3.out, L4.out.turn ts (fun j e => by rw [e]; exact HQ.out.2), A4, _, c4, HS4.out, B4.out.turn ts hqg, L4'.out.turn ts (fun j e => by rw [e]; exact HQ.out.2), T4.out.then ts (fun j e => .inr (by rw [e, HQ.out.1]; exact Nat.le_refl _))⟩
def sentE (x : Nat × List Nat) : List Nat := uvl x.1 ++ (uvl x.2.length ++ x.2)
def sentL : List (Nat × List Nat) -> List Nat
 | [] => []
 | x :: r => sentE x ++ sentL r
def FitE (x : Nat × List Nat) : Prop := x.1 <= 1099511627776 /\ (uvl x.1).length + x.2.length <= 1048566 /\ ∀ y ∈ x.2, y < 256
theorem sentL_byte : ∀ {es : List (Nat × List Nat)}, (∀ x ∈ es, FitE x) -> ∀ y ∈ sentL es, y < 256
 | [], _, y, hy => by cases hy
 | x :: r, h, y, hy => by
  obtain ⟨_, _, hb⟩ := h x (by simp);simp only [sentL, sentE, List.mem_append] at hy;rcases hy with (hy | hy | hy) | hy
  ·exact uvl_byte _ y hy
  ·exact uvl_byte _ y hy
  ·exact hb y hy
  ·exact sentL_byte (fun z hz => h z (by simp [hz])) y hy
theorem sentL_drop (es : List (Nat × List Nat)) (j : Nat) (hj : j < es.length) : sentL (es.drop j) = uvl (es[j]).1 ++ (uvl (es[j]).2.length ++ ((es[j]).2 ++ sentL (es.drop (j + 1)))) := by
 rw [List.drop_eq_getElem_cons hj];simp [sentL, sentE]
theorem uvl_one (v : Nat) : 1 <= (uvl v).length := by
 unfold uvl;split <;> simp
def lenW : Value -> Nat
 | .slice _ n _ => n
 | _ => 0
structure EntJ (w : World) (D : Option Addr) (x : Nat × Value) (e : Nat × List Nat) : Prop where
 term : x.1 = e.1
 data : ∃ A n c, x.2 = .slice A n c /\ IsB w (.slice A n c) e.2 /\ e.2.length = n /\ ∀ b, A = some b -> ∃ b', D = some b' /\ b.block = b'.block
theorem EntJ.off {S : Nat -> Prop} {D : Option Addr} {x : Nat × Value} {e : Nat × List Nat} (h : EntJ w D x e) (t : Turn S w w') (hS : ∀ b, D = some b -> ¬ S b.block) : EntJ w' D x e := by
 obtain ⟨h1, A, n, c, e1, e2, e3, e5⟩ := h;refine ⟨h1, A, n, c, e1, e2.turn t (fun g hg hs => ?_), e3, e5⟩;rcases A with _ | b
 ·cases hg
 ·have e9 : b.block = g := by simpa [Value.ownBlock] using hg
  obtain ⟨b', hb', e10⟩ := e5 b rfl;exact hS b' hb' (by rw [<- e10, e9]; exact hs)
structure EntQ (w : World) (B : Nat) (D : Option Addr) (v : Value) (es : List (Nat × List Nat)) : Prop where
 out : ∃ X : List (Nat × Value), w.ownsRow B 46 2 v X.length (entC X) /\ X.length = es.length /\ ∀ i (h : i < X.length) (h2 : i < es.length), EntJ w D X[i] es[i]
theorem EntQ.nil (w : World) (B : Nat) (D : Option Addr) : EntQ w B D (.slice none 0 0) [] := ⟨[], World.ownsRow_nil _ _ _ _, rfl, fun i h => by simp at h⟩
theorem EntQ.turn {S : Nat -> Prop} {D : Option Addr} {v : Value} {es : List (Nat × List Nat)} (h : EntQ w B D v es) (t : Turn S w w') (hS : ∀ b, D = some b -> ¬ S b.block) (ho : Off S v) : EntQ w' B D v es := by
 obtain ⟨X, h1, h2, h3⟩ := h;exact ⟨X, ownsRow_turn h1 t ho, h2, fun i hi hi2 => (h3 i hi hi2).off t hS⟩
theorem EntQ.keep {D : Option Addr} {v : Value} {es : List (Nat × List Nat)} (h : EntQ w B D v es) (k : Below w.heap.size w w') : EntQ w' B D v es := h.turn (S := fun _ => False) (Turn.of_below _ k) (fun _ _ => id) (fun _ _ => id)
theorem EntQ.lt {D : Option Addr} {v : Value} {es : List (Nat × List Nat)} (h : EntQ w B D v es) : ∀ g, v.ownBlock = some g -> B <= g /\ g < w.heap.size := by
 obtain ⟨X, h1, _⟩ := h;exact World.ownsRow.lt h1
theorem EntQ.form {D : Option Addr} {v : Value} {es : List (Nat × List Nat)} (h : EntQ w B D v es) : ∃ A c, v = .slice A es.length c /\ (es ≠ [] -> ∃ g, A = some ⟨g, 0, none⟩ /\ v.ownBlock = some g /\ B <= g /\ g < w.heap.size /\ ∀ i (hi : i < es.length), ∃ A n cc, w.cell? ⟨g, i * 2, none⟩ = some (.int .i64 ((es[i]).1 : Int)) /\ w.cell? ⟨g, i * 2 + 1, none⟩ = some (.slice A n cc) /\ IsB w (.slice A n cc) (es[i]).2 /\ (es[i]).2.length = n /\ ∀ b, A = some b -> ∃ b', D = some b' /\ b.block = b'.block) := by
 obtain ⟨X, hr, hl, he⟩ := h;rcases hr.2 with ⟨rfl, hn⟩ | ⟨g, cap, cur, rfl, hb, hg, h1, h2, _⟩
 ·have : es = [] := List.eq_nil_of_length_eq_zero (by omega);subst this;exact ⟨none, 0, rfl, fun h => absurd rfl h⟩
 ·refine ⟨some ⟨g, 0, none⟩, cap, by rw [hl], fun _ => ⟨g, rfl, rfl, hb, heap_lt hg, fun i hi => ?_⟩⟩;obtain ⟨q0, q1⟩ := entC_at X i (by omega);obtain ⟨e1, A, n, c, e2, e3, e4, e5⟩ := he i (by omega) hi;have hL := entC_length X;refine ⟨A, n, c, ?_, ?_, e3, e4, e5⟩
  ·rw [World.ownsRow.cellAt hr _ (by omega), q0, e1]
  ·rw [World.ownsRow.cellAt hr _ (by omega), q1, e2]
theorem EntQ.apart {B' : Nat} {D : Option Addr} {v : Value} {es : List (Nat × List Nat)} {e' : TypeId} {cs : List Value} (h : EntQ w B D v es) (k : Blk w B' e' g cs) (hne : 46 ≠ e') : v.ownBlock ≠ some g := by
 obtain ⟨X, h1, _⟩ := h;exact ownsRow_blk h1 k hne
theorem EntQ.at_ {D : Option Addr} {v : Value} {es : List (Nat × List Nat)} {S : Nat -> Prop} (h : EntQ w B D v es) (hne : es ≠ []) (hv : Off S v) (hD : ∀ b, D = some b -> ¬ S b.block /\ b.block < w.heap.size) : ∃ g c, v = .slice (some ⟨g, 0, none⟩) es.length c /\ B <= g /\ g < w.heap.size /\ EntsAt w S g es := by
 obtain ⟨A, c, rfl, h2⟩ := h.form;obtain ⟨g, rfl, ho, h3, h4, h5⟩ := h2 hne;refine ⟨g, c, rfl, h3, h4, hv g ho, fun j hj => ?_⟩;obtain ⟨A, n, cc, a1, a2, a3, a4, a5⟩ := h5 j hj;refine ⟨A, n, cc, a1, a2, a3, a4, fun k hk => ?_⟩;rcases A with _ | b
 ·cases hk
 ·have e9 : b.block = k := by simpa [Value.ownBlock] using hk
  obtain ⟨b', hb', e10⟩ := a5 b rfl;have := hD b' hb';rw [<- e10, e9] at this;exact this
set_option maxRecDepth 100000 in
theorem wpList_append_entQ {ops : Array Oper} {rest : List Oper} {o : Oper} {a : Act} {Q : Exit -> Act -> World -> Prop} (hgd : o.guard = none) (s x : Operand)
  (ho : o.op = .call { callee := .builtin .append, args := #[s, x], argTypes := #[39, 39] })
  (B : Nat) (D : Option Addr) (v : Value) (es : List (Nat × List Nat)) (hs : a.eval s = v) (hown : EntQ w B D v es)
  (b t n c : Nat) (A : Option Addr) (dat : List Nat) (hx : a.eval x = .slice (some ⟨b, 0, none⟩) 1 1) (c0 : w.cell? ⟨b, 0, none⟩ = some (.int .i64 (t : Int))) (c1 : w.cell? ⟨b, 1, none⟩ = some (.slice A n c))
  (hI : EntJ w D (t, .slice A n c) (t, dat)) (hlen : es.length <= 1000000) (hbase : B <= w.heap.size) (hD : ∀ b, D = some b -> b.block < B)
  (h : ∀ v' w', EntQ w' B D v' (es ++ [(t, dat)]) -> w.grownBy w' v.ownBlock -> (∀ k, v.ownBlock = some k -> B <= k) -> wpList Tryz.prog ops Q rest (a.put o.dst v') w') : wpList Tryz.prog ops Q (o :: rest) a w := by
 obtain ⟨i0, hi, hz0, hz1, hz2⟩ := info_parts Tryz.info_entE;obtain ⟨X, hr, hl, he⟩ := hown;refine wpList_append_own w hgd s x _ ho B 46 i0 (.agg #[.int .i64 0, .slice none 0 0]) 2 32 Tryz.underlying39 hi hz0 hz1 hz2 rfl (by decide) v _ _ hs hr ⟨b, 0, none⟩ 1 1 [.int .i64 (t : Int), .slice A n c] hx rfl ?_ ?_ (by unfold maxLen; omega) (by omega) hbase ?_
 ·intro j u hu;rw [add_off];rcases j with _ | _ | j
  ·simp at hu; subst hu; exact c0
  ·simp at hu; subst hu; exact c1
  ·simp at hu
 ·intro u hu;simp at hu;rcases hu with rfl | rfl
  ·rfl
  ·rfl
 ·intro v' w' hr' hg _;have tg : Turn (fun k => some k = v.ownBlock) w w' := Turn.of_grown hg;have hoff : ∀ b, D = some b -> ¬ some b.block = v.ownBlock := fun b' hb' e => by
   have h1 := hD b' hb';have h2 := (World.ownsRow.lt hr b'.block e.symm).1;omega
  refine h v' w' ⟨X ++ [(t, .slice A n c)], ?_, by simp [hl], fun i hi2 hi3 => ?_⟩ hg (fun k hk => (World.ownsRow.lt hr k hk).1)
  ·rw [entC_append, List.length_append];exact hr'
  ·by_cases hlt : i < X.length
   ·rw [List.getElem_append_left hlt, List.getElem_append_left (by omega)];exact (he i hlt (by omega)).off tg hoff
   ·have hi4 : i = X.length := by simp at hi2; omega
    subst hi4;rw [List.getElem_append_right (Nat.le_refl _), List.getElem_append_right (by omega)];simp only [Nat.sub_self, List.getElem_cons_zero, hl];exact hI.off tg hoff
set_option maxRecDepth 100000 in
set_option maxHeartbeats 6400000 in
theorem entries_some (f t : Int) (A : Option Addr) (n c : Nat) (D : Option Addr) (m dc : Nat) (es : List (Nat × List Nat)) (w : World) (hL : LowB w w.heap.size D m dc (sentL es)) (hl : es.length <= 8) (hfit : ∀ x ∈ es, FitE x) :
  Calls Tryz.prog 21 #[.agg #[.int .i64 f, .int .i64 t, .int .i64 3, .slice A n c, .slice D m dc]] w fun e w' => ∃ v, e = .returned (.tuple #[v, .int .i64 0]) /\ EntQ w' w.heap.size D v es /\ Below w.heap.size w w' := by
 have ka := below_alloc w (.cells #[.int .i64 f, .int .i64 t, .int .i64 3, .slice A n c, .slice D m dc] 34);have bg := Blk.new w (B := 0) 34 #[.int .i64 f, .int .i64 t, .int .i64 3, .slice A n c, .slice D m dc] (Nat.zero_le _);have hD : ∀ b, D = some b -> b.block < w.heap.size := fun b hb => by
  rcases hL.low with h | ⟨b', o', e, h⟩
  ·rw [h] at hb; cases hb
  ·rw [e] at hb; cases hb; exact h
 obtain ⟨q, hq⟩ : ∃ q, q = w.heap.size := ⟨_, rfl⟩;obtain ⟨W, hW⟩ : ∃ W, W = w.alloc (.cells #[.int .i64 f, .int .i64 t, .int .i64 3, .slice A n c, .slice D m dc] 34) := ⟨_, rfl⟩;have x4l : (w.alloc (.cells #[.int .i64 f, .int .i64 t, .int .i64 3, .slice A n c, .slice D m dc] 34)).cell? ⟨w.heap.size, 4, none⟩ = some (.slice D m dc) := bg.cell 4;have hLW := hL.keep ka;rw [<- hW] at ka bg hLW;rw [<- hq] at bg;have hqp : q + 1 = W.heap.size := by rw [hW, hq]; simp
 have kb := below_alloc W (.cells #[.slice D m dc, .int .i64 0] 84);have br := Blk.new W (B := 0) 84 #[.slice D m dc, .int .i64 0] (Nat.zero_le _);have b2 := bg.keep kb;obtain ⟨p, hp⟩ : ∃ p, p = W.heap.size := ⟨_, rfl⟩;obtain ⟨V, hV⟩ : ∃ V, V = W.alloc (.cells #[.slice D m dc, .int .i64 0] 84) := ⟨_, rfl⟩;have hLV := (hLW.keep kb).up (show w.heap.size <= p by omega);rw [<- hV] at kb br b2 hLV;rw [<- hp] at br;have B2 := hide b2;have BR := hide (show RdrB V p D m dc 0 from br);have LV := hide hLV;have KV := hide (ka.trans (kb.mono ka.size));have HD := hide hD;have HF := hide hfit;have HPQ : Hid (q < p /\ p < V.heap.size /\ q = w.heap.size) := hide ⟨by omega, by rw [hV, hp]; simp, hq⟩;clear ka bg kb br b2 hLW hLV hD hfit hL;go_enter Tryz.func21, Tryz.ntmps21;go_wp2_with fail
 rw [<- hW, <- hV, <- hq, hqp, <- hp];clear hW hV hq hqp hp x4l
 go_loopw [5] (fun lv wr => ∃ (j : Nat) (A1 : Option Addr) (c1 : Nat) (A3 : Option Addr) (n3 c3 : Nat), j <= es.length /\ lv = .slice A1 j c1 /\ Hid (EntQ wr w.heap.size D (.slice A1 j c1) (es.take j)) /\ Hid (RdrB wr p A3 n3 c3 0) /\ Hid (LowB wr p A3 n3 c3 (sentL (es.drop j))) /\ Hid (∀ b, A3 = some b -> ∃ b', D = some b' /\ b.block = b'.block) /\ Hid (Blk wr 0 34 q [.int .i64 f, .int .i64 t, .int .i64 3, .slice A n c, .slice D m dc]) /\ Hid (Below w.heap.size w wr) /\ Hid (p < wr.heap.size)) (fun lv _ => 8 - lenW lv)
 case atStart => exact ⟨0, none, 0, D, m, dc, Nat.zero_le _, rfl, hide (EntQ.nil _ _ _), BR, LV, hide (fun b hb => ⟨b, hb, rfl⟩), B2, KV, hide HPQ.out.2.1⟩
 case round =>
  obtain ⟨j, A1, c1, A3, n3, c3, hj, rfl, HE, HR, HL, HS, HB, HK, HPW⟩ := hrel;clear BR LV B2 KV;have x2 : wr.cell? ⟨q, 2, none⟩ = some (.int .i64 3) := HB.out.cell 2;rcases Nat.lt_or_ge j es.length with hlt | hge
  ·have j8 : (j : Int) < 8 := by omega
   have hd := sentL_drop es j hlt;have hn3 : 1 <= n3 := by
    have := HL.out.len;rw [hd, List.length_append] at this;have := uvl_one (es[j]).1;omega
   have GY := hide (goes_yes p A3 n3 c3 wr HR.out hn3);obtain ⟨f1, f2, f3⟩ := HF.out _ (List.getElem_mem hlt);have hL2 := HL.out;rw [hd] at hL2;obtain ⟨x, hx⟩ : ∃ x, x = es[j] := ⟨_, rfl⟩;rw [<- hx] at hL2 f1 f2 f3;have hrb : ∀ y ∈ x.2 ++ sentL (es.drop (j + 1)), y < 256 := fun y hy => (List.mem_append.1 hy).elim (f3 y) (sentL_byte (fun z hz => HF.out z (List.mem_of_mem_drop hz)) y)
   obtain ⟨mx, hmx⟩ : ∃ k, k = x.2.length := ⟨_, rfl⟩;rw [<- hmx] at hL2 f2;have SE := hide (rdr_sent_ok p A3 n3 c3 x.1 mx x.2 _ wr HR.out hL2 hmx.symm hrb f1 f2);have HX := hide hx;have HRB := hide HR.out;have HMX := hide hmx;obtain ⟨tx, htx⟩ : ∃ k, k = x.1 := ⟨_, rfl⟩;rw [<- htx] at SE;have HTX := hide htx;clear hd hn3 f1 f2 f3 hL2 hrb HL HR hx hmx htx;go_wp2_with fail
   refine GY.out.mono ?_;rintro e w1 ⟨rfl, rfl⟩;go_wp2_with fail
   refine SE.out.mono ?_;rintro e w2 ⟨A2, c2, rfl, s2, l2, A4, n4, c4, s4, b4, l4, t2⟩;have hrp : ∀ g, (Value.slice A1 j c1).ownBlock = some g -> ¬ g = p := fun g hg e => HE.out.apart HRB.out (by decide) (by rw [hg, e])
   have E2 := hide (HE.out.turn t2 (fun b hb e => by have := HD.out b hb; have := HPQ.out; omega) hrp);have K2 := hide (HK.out.trans (t2.below HK.out.size (fun k e => by rw [e]; have := HPQ.out; omega)));have R4 := hide b4;have L4 := hide l4;have S4 := hide (sub_trans HS.out s4);have B4 := hide (HB.out.turn t2 (by have := HPQ.out; omega));have P4 := hide (Nat.lt_of_lt_of_le HPW.out t2.size);have EJ := hide (show EntJ w2 D (tx, .slice A2 mx c2) (tx, x.2) from ⟨rfl, A2, mx, c2, rfl, l2.isB, HMX.out.symm, sub_trans HS.out s2⟩);clear b4 l4 s4 s2 l2 t2 hrp HE HK HS HB HPW SE GY x2;unfold entV;go_wp2_with (at_builtin; refine halt ?_)
   refine ⟨?_⟩;have ka := below_alloc w2 (.cells #[.int .i64 (tx : Int), .slice A2 mx c2] 46);have bn := Blk.new w2 (B := 0) 46 #[.int .i64 (tx : Int), .slice A2 mx c2] (Nat.zero_le _);have K3 := K2.out.trans (ka.mono K2.out.size);have ltk : (es.take j).length = j := by rw [List.length_take]; omega
   have E2k := E2.out.keep ka;refine wpList_append_entQ rfl (.tmp 20) (.tmp 22) rfl w.heap.size D _ _ rfl E2k w2.heap.size tx mx c2 A2 x.2 rfl (bn.cell 0) (bn.cell 1) (EJ.out.off (Turn.of_below (fun _ => False) ka) (fun _ _ => id)) (by rw [ltk]; omega) K3.size HD.out ?_;intro v3 w3 e3 g3 r3;have tg := Turn.of_grown g3;have et : es.take (j + 1) = es.take j ++ [(tx, x.2)] := by rw [List.take_succ_eq_append_getElem hlt, <- HX.out, HTX.out]
   rw [<- et] at e3;have R5 := hide ((R4.out.keep ka).turn tg (fun e => E2k.apart (R4.out.keep ka) (by decide) e.symm));have B5 := hide ((B4.out.keep ka).turn tg (fun e => E2k.apart (B4.out.keep ka) (by decide) e.symm));have L5 := hide ((L4.out.keep ka).off tg (fun b hb e => by
    obtain ⟨b', hb', e'⟩ := S4.out b hb;have h1 := HD.out b' hb';have h2 := r3 b.block e.symm;omega))
   have K5 := hide (K3.trans (tg.below K3.size (fun k e => r3 k e.symm)));have P5 := hide (Nat.lt_of_lt_of_le (Nat.lt_of_lt_of_le P4.out ka.size) tg.size);obtain ⟨A5, c5, e5, _⟩ := e3.form;rw [show (es.take (j + 1)).length = j + 1 by rw [List.length_take]; omega] at e5;subst e5;have E5 := hide e3;clear ka bn K3 ltk E2k tg et e3 g3 r3 R4 B4 L4 K2 P4 E2 EJ;go_wp2_with fail
   go_roundw
   case rel => exact ⟨j + 1, A5, c5, A4, n4, c4, by omega, rfl, E5, R5, L5, S4, B5, K5, P5⟩
   case measure => simp [lenW]; omega
  ·have ej : j = es.length := by omega
   have hn0 : n3 = 0 := by
    have h1 := HL.out.len;rw [ej, List.drop_length] at h1;exact h1.symm
   subst hn0;have ET := hide (show es.take j = es by rw [ej, List.take_length]);have RE := hide (rend_ok p A3 c3 wr HR.out);have GN := hide (goes_no p A3 c3 wr HR.out);clear ej HR HL HS HB;by_cases h8 : j < 8
   ·have j8 : (j : Int) < 8 := by omega
    clear h8 hge;go_wp2_with fail
    refine GN.out.mono ?_;rintro e w1 ⟨rfl, rfl⟩;go_wp2_with fail
    refine RE.out.mono ?_;rintro e w2 ⟨rfl, k2⟩;have E2 := hide (HE.out.keep k2);rw [ET.out] at E2;have K2 := hide (HK.out.trans (k2.mono HK.out.size));clear k2;go_wp2_with fail
    go_ret2;exact ⟨_, rfl, E2.out, K2.out⟩
   ·have j8 : ¬ (j : Int) < 8 := by omega
    clear h8 hge;go_wp2_with fail
    refine RE.out.mono ?_;rintro e w2 ⟨rfl, k2⟩;have E2 := hide (HE.out.keep k2);rw [ET.out] at E2;have K2 := hide (HK.out.trans (k2.mono HK.out.size));clear k2;go_wp2_with fail
    go_ret2;exact ⟨_, rfl, E2.out, K2.out⟩
theorem nds_cut {S : Nat -> Prop} {r : Nat} {N : Nd} (h : NdS w S r d l room N M L) (i : Nat) (hi1 : firstL M <= i) (hi2 : i <= M.next) :
  Calls Tryz.prog 76 #[.pointer (some ⟨l, 0, none⟩), .int .i64 (i : Int)] w fun e w' => e = .returned (.int .i64 0) /\ ∃ S', NdS w' S' r d l room N (cutW logK i M L).1 (cutW logK i M L).2 /\ Next S w S' w' := by
 obtain ⟨F, G, hN, hS⟩ := h;refine (pro_cut hN.pro i hi1 hi2).mono ?_;rintro e w' ⟨rfl, F', G', hp, t, hf, hg⟩;have hr := hN.blk.lt;refine ⟨rfl, _, ⟨F', G', ⟨hN.blk.turn t (fun h => h.elim hN.nf hN.ng), hp, fun h => (hf r h).elim hN.nf (fun h => by omega), fun h => (hg r h).elim hN.ng (fun h => by omega), hN.fit⟩, fun _ => Iff.rfl⟩, foot_next hS (Below.refl _ _) t hf hg⟩
set_option maxRecDepth 100000 in
theorem has_last {S : Nat -> Prop} {r : Nat} {N : Nd} (h : NdS w S r d l room N M L) (a t : Nat) (h1 : M.next = a + 1) (h2 : M.next <= 1099511627776) (ht : TermE M (a : Int) t) :
  Calls Tryz.prog 52 #[.pointer (some ⟨r, 0, none⟩), .int .i64 (a : Int), .int .i64 (t : Int)] w fun e w' => e = .returned (.bool true) /\ Below w.heap.size w w' := by
 have HL := hide (last_any h (by omega) h2);have H := hide h;have HT := hide ht;rw [h1, Nat.add_sub_cancel] at HL;clear h ht h1 h2;go_enter Tryz.func52, Tryz.ntmps52;go_wp2_with fail
 refine HL.out.mono ?_;rintro e w1 ⟨rfl, k1⟩;have K1 := hide k1;have TE := hide (termOf_any (H.out.below k1) (a : Int) t HT.out);clear k1 HL;go_wp2_with fail
 refine TE.out.mono ?_;rintro e w2 ⟨rfl, k2⟩;have K2 := hide (K1.out.trans (k2.mono K1.out.size));clear k2 TE;go_wp2_with fail
 go_ret;exact ⟨rfl, K2.out⟩
set_option maxRecDepth 100000 in
theorem has_beyond {S : Nat -> Prop} {r : Nat} {N : Nd} (h : NdS w S r d l room N M L) (z t : Int) (h1 : 1 <= M.next) (h2 : M.next <= 1099511627776) (hz : (M.next : Int) <= z) :
  Calls Tryz.prog 52 #[.pointer (some ⟨r, 0, none⟩), .int .i64 z, .int .i64 t] w fun e w' => e = .returned (.bool false) /\ Below w.heap.size w w' := by
 have HL := hide (last_any h h1 h2);obtain ⟨la, hla⟩ : ∃ k, k = M.next - 1 := ⟨_, rfl⟩;rw [<- hla] at HL;have hl0 : ¬ z <= (la : Int) := by omega
 clear h h1 h2 hla hz;go_enter Tryz.func52, Tryz.ntmps52;go_wp2_with fail
 refine HL.out.mono ?_;rintro e w1 ⟨rfl, k1⟩;have K1 := hide k1;clear k1 HL;go_wp2_with fail
 go_ret;exact ⟨rfl, K1.out⟩
set_option maxRecDepth 100000 in
set_option maxHeartbeats 3200000 in
theorem join_lay {S : Nat -> Prop} {r : Nat} {N : Nd} (h : NdS w S r d l room N M L) (at_ : Nat) (hat : M.next = at_) (hfi : firstL M <= at_) (h9 : M.next <= 1099511627776) (hcm : N.comm < at_) (hcut : cutW logK at_ M L = (M, L)) (g n c : Nat) (es : List (Nat × List Nat)) (hE : EntsAt w S g es) (hn : es.length = n) (hn1 : 1 <= n) (hn9 : n <= 100) (hg : g < w.heap.size)
  (hfit : ∀ x ∈ es, x.1 < 9223372036854775808 /\ x.2.length <= 1073741824 /\ ∀ y ∈ x.2, y < 256)
  (hok : ∀ j (hj : j < es.length), (addL room logK (uvl (es[j]).1 ++ (es[j]).2) (layS room (es.take j) (M, L)).1 (layS room (es.take j) (M, L)).2).2.2 = 0) :
  Calls Tryz.prog 53 #[.pointer (some ⟨r, 0, none⟩), .int .i64 (at_ : Int), .slice (some ⟨g, 0, none⟩) n c] w fun e w' => e = .returned (.bool true) /\ ∃ S', NdS w' S' r d l room N ⟨(layS room es (M, L)).1.segs, (layS room es (M, L)).1.next, []⟩ (syncsL logK (layS room es (M, L)).1.dirty (layS room es (M, L)).2) /\ Next S w S' w' := by
 obtain ⟨A, m, cc, c0, c1, c2⟩ := hE.at_ 0 (by omega);obtain ⟨tz, htz⟩ : ∃ z : Int, z = ((es[0]'(by omega)).1 : Int) := ⟨_, rfl⟩;rw [<- htz] at c0;have c0 : w.cell? ⟨g, 0, none⟩ = some (.int .i64 tz) := c0;have p1 : (0 : Int) < (n : Int) := by omega
 have p2 : ((n : Int) == 0) = false := by simp; omega
 have p3 : ¬ (at_ : Int) <= (N.comm : Int) := by omega
 have H := hide h;have HAS := hide (has_beyond h (at_ : Int) tz (by omega) h9 (by omega));have HFI := hide hfi;have HAT := hide hat;have HC := hide hcut;have HG := hide hg;have LAY := hide (fun (W : World) (S' : Nat -> Prop) (hw : NdS W S' r d l room N M L) (he : EntsAt W S' g es) (hgw : g < W.heap.size) => rlay_any hw g n c es he hn hgw hn9 hfit hok);have HE := hide hE;clear h hE hfit hok hcut hat hfi htz c1 c2 hcm h9 hn hn1 hn9 hg;go_enter Tryz.func53, Tryz.ntmps53;go_wp2_with fail
 go_loopw [1, 2] (fun a l wr => a = .int .i64 (at_ : Int) /\ l = .slice (some ⟨g, 0, none⟩) n c /\ wr = w) (fun _ _ _ => 1)
 case atStart => exact ⟨rfl, rfl, rfl⟩
 case round =>
  obtain ⟨rfl, rfl, rfl⟩ := hrel;go_wp2_with fail
  refine HAS.out.mono ?_;rintro e w1 ⟨rfl, k1⟩;have H1 := hide (H.out.below k1);have N1 := hide (Next.of_below S k1);have r3 : w1.cell? ⟨r, 3, none⟩ = some (.pointer (some ⟨l, 0, none⟩)) := nds_cell H1.out 3;have r8 : w1.cell? ⟨r, 8, none⟩ = some (.int .i64 (N.comm : Int)) := nds_cell H1.out 8;have CU := hide (nds_cut H1.out at_ HFI.out (by rw [HAT.out]; exact Nat.le_refl _));rw [HC.out] at CU;clear k1 HAS c0 p1;go_wp2_with fail
  refine CU.out.mono ?_;rintro e w2 ⟨rfl, S2, d2, n2⟩;have N2 := hide (N1.out.trans n2);have G2 := hide (Nat.lt_of_lt_of_le HG.out N2.out.turn.size);have LA := hide (LAY.out w2 S2 d2 (HE.out.next HG.out N2.out) G2.out);clear d2 n2 r3 r8 CU;go_wp2_with fail
  refine LA.out.mono ?_;rintro e w3 ⟨rfl, S3, d3, n3⟩;have D3 := hide d3;have N3 := hide (N2.out.trans n3);clear d3 n3 LA;go_wp2_with fail
  go_ret;exact ⟨rfl, S3, D3.out, N3.out⟩
set_option maxRecDepth 100000 in
set_option maxHeartbeats 6400000 in
theorem told_lay {S : Nat -> Prop} {r : Nat} {N : Nd} (h : NdS w S r d l room N M L) (f t k draw : Int) (g c : Nat) (D : Option Addr) (m dc : Nat) (z0 z1 z2 z3 : Int) (hN : NumsAt w g [z0, z1, z2, z3]) (hz0 : z0 = (N.term : Int)) (a ta zc en : Nat) (hz1 : z1 = (a : Int)) (hz2 : z2 = (ta : Int)) (hz3 : z3 = (zc : Int)) (hcm : N.comm <= a) (h1 : M.next = a + 1) (h2 : M.next <= 1099511627776) (ht : TermE M (a : Int) ta) (es : List (Nat × List Nat)) (ge ce ne : Nat) (hE : EntsAt w S ge es) (hge : ge < w.heap.size) (hne : es.length = ne) (hn1 : 1 <= ne) (hn9 : ne <= 100) (hen : en = a + ne) (hzc : N.comm <= zc /\ zc <= en) (hfi : firstL M <= a + 1) (hcut : cutW logK (a + 1) M L = (M, L)) (hfit : ∀ x ∈ es, x.1 < 9223372036854775808 /\ x.2.length <= 1073741824 /\ ∀ y ∈ x.2, y < 256)
  (hok : ∀ j (hj : j < es.length), (addL room logK (uvl (es[j]).1 ++ (es[j]).2) (layS room (es.take j) (M, L)).1 (layS room (es.take j) (M, L)).2).2.2 = 0) :
  Calls Tryz.prog 25 #[.pointer (some ⟨r, 0, none⟩), msgV f t k g 4 c D m dc, .slice (some ⟨ge, 0, none⟩) ne ce, .int .i64 draw] w fun e w' => ∃ v ga, e = .returned v /\ OneA w' v (N.id : Int) f 4 ga 3 3 /\ NumsAt w' ga [(N.term : Int), 1, (en : Int)] /\ ∃ S', NdS w' S' r d l room { N with role := 0, lead := f, wait := waitOf draw, comm := zc } ⟨(layS room es (M, L)).1.segs, (layS room es (M, L)).1.next, []⟩ (syncsL logK (layS room es (M, L)).1.dirty (layS room es (M, L)).2) /\ Next S w S' w' := by
 have ka := below_alloc w (.cells #[.int .i64 f, .int .i64 t, .int .i64 k, .slice (some ⟨g, 0, none⟩) 4 c, .slice D m dc] 34);have bg := Blk.new w (B := 0) 34 #[.int .i64 f, .int .i64 t, .int .i64 k, .slice (some ⟨g, 0, none⟩) 4 c, .slice D m dc] (Nat.zero_le _);obtain ⟨q, hq⟩ : ∃ q, q = w.heap.size := ⟨_, rfl⟩;obtain ⟨W, hW⟩ : ∃ W, W = w.alloc (.cells #[.int .i64 f, .int .i64 t, .int .i64 k, .slice (some ⟨g, 0, none⟩) 4 c, .slice D m dc] 34) := ⟨_, rfl⟩;have HN0 := h.below ka;have NN := hN.keep ka;rw [<- hW] at ka bg HN0 NN;rw [<- hq] at bg;have x0 : W.cell? ⟨q, 0, none⟩ = some (.int .i64 f) := bg.cell 0;have x1 : W.cell? ⟨q, 1, none⟩ = some (.int .i64 t) := bg.cell 1;have x2 : W.cell? ⟨q, 2, none⟩ = some (.int .i64 k) := bg.cell 2;have x3 : W.cell? ⟨q, 3, none⟩ = some (.slice (some ⟨g, 0, none⟩) 4 c) := bg.cell 3;have x4 : W.cell? ⟨q, 4, none⟩ = some (.slice D m dc) := bg.cell 4;have c0 : W.cell? ⟨g, 0, none⟩ = some (.int .i64 z0) := NN 0 (by simp);have c1 : W.cell? ⟨g, 1, none⟩ = some (.int .i64 z1) := NN 1 (by simp);have c2 : W.cell? ⟨g, 2, none⟩ = some (.int .i64 z2) := NN 2 (by simp);have c3 : W.cell? ⟨g, 3, none⟩ = some (.int .i64 z3) := NN 3 (by simp);have r4 : W.cell? ⟨r, 4, none⟩ = some (.int .i64 (N.term : Int)) := nds_cell HN0 4;obtain ⟨tt, htt⟩ : ∃ z, z = N.term := ⟨_, rfl⟩;rw [<- htt] at r4 hz0;subst hz0 hz1 hz2 hz3;have HTT := hide (And.intro htt (And.intro h1 (And.intro h2 (And.intro ht hcm))));have EW := hE.next hge (Next.of_below S (by rw [hW]; exact below_alloc w _ : Below w.heap.size w W));have HE := hide EW;have HGE := hide (show ge < W.heap.size by rw [hW]; simp; omega);have HJ := hide (And.intro hne (And.intro hn1 (And.intro hn9 (And.intro hen (And.intro hzc (And.intro hfi (And.intro hcut (And.intro hfit hok))))))));have hmin : ¬ (en : Int) < (zc : Int) := by have := hzc.2; omega
 have hsum : (a : Int) + (ne : Int) = (en : Int) := by omega
 have hmax : ¬ (zc : Int) < (N.comm : Int) := by have := hzc.1; omega
 have hwa : (a : Int) + 1 = ((a + 1 : Nat) : Int) := by omega
 have HSUM := hide hsum;have HMM : Hid (max (N.comm : Int) (min (zc : Int) (en : Int)) = (zc : Int)) := hide (by omega);have HWA := hide hwa;clear hE hge hne hn1 hn9 hen hzc hfi hcut hfit hok hsum hmin hmax hwa EW;have HQ0 : Hid (q = w.heap.size /\ q < W.heap.size) := hide ⟨hq, by rw [hW, hq]; simp⟩;have hlow := h.low;have hgq := HGE.out;clear hgq;have HQS : Hid (¬ S q) := hide (fun hs => by have := hlow q hs; omega);have KA := hide ka;have HN := hide HN0;have BG := hide bg;have hlt : ¬ (tt : Int) < (tt : Int) := by omega
 clear h hN htt HN0 NN ka bg hcm h1 h2 ht hlow;unfold msgV;go_enter Tryz.func25, Tryz.ntmps25;go_wp2_with fail
 rw [<- hW, <- hq];clear hW hq;go_quiet (fail)
 have HNd := hide (HN.out.below (below_drewN (Below.refl _ _) nq));have HEd := hide (HE.out.next HGE.out (Next.of_below S (below_drewN (Below.refl W.heap.size W) nq)));have HGd := hide (show ge < (W.drewN nq).heap.size from HGE.out);have KAd := hide (KA.out.trans ((below_drewN (Below.refl W.heap.size W) nq).mono KA.out.size));have BGd := hide (BG.out.drewN nq);have s4 : (W.drewN nq).cell? ⟨r, 4, none⟩ = some (.int .i64 (tt : Int)) := r4;have y0 : (W.drewN nq).cell? ⟨q, 0, none⟩ = some (.int .i64 f) := x0;clear x0 x1 x2 x3 x4 r4 c0 c1 c2 c3 HN KA BG HE HGE;generalize W.drewN nq = U at *;have s6 : U.cell? ⟨r, 6, none⟩ = some (.int .i64 (N.role : Int)) := nds_cell HNd.out 6;have s7 : U.cell? ⟨r, 7, none⟩ = some (.int .i64 N.lead) := nds_cell HNd.out 7;have f6 := HNd.out.blk.frozen 6;have f7 := HNd.out.blk.frozen 7;go_wp2_with fail
 go_region
 have S1 := HNd.out.set (N' := { N with role := 0 }) 6 (.int .i64 0) rfl HNd.out.fit;have S2 := S1.set (N' := { N with role := 0, lead := f }) 7 (.int .i64 f) rfl HNd.out.fit;have n2 : Next S U S _ := (set_next (u := .int .i64 0) (i := 6) HNd.out.self).trans ((set_next (u := .int .i64 f) (i := 7) S1.self).trans (Next.of_below S (below_drew _)));obtain ⟨W4, hW4⟩ : ∃ Z, Z = ((U.setCell ⟨r, 6, none⟩ (.int .i64 0)).setCell ⟨r, 7, none⟩ (.int .i64 f)).drew := ⟨_, rfl⟩;have D4 : NdS W4 S r d l room { N with role := 0, lead := f } M L := by rw [hW4]; exact S2.below (below_drew _)
 rw [<- hW4] at n2 ⊢;have D4 := hide D4;have N4 := hide ((Next.of_below S KAd.out).trans n2);have E4 := hide (HEd.out.next HGd.out n2);have G4 := hide (Nat.lt_of_lt_of_le HGd.out n2.turn.size);have B4 := hide (BGd.out.turn n2.turn HQS.out);clear S1 S2 n2 hW4 s6 s7 f6 f7 y0 s4 HNd KAd BGd HEd HGd;go_wp2_with fail
 refine (wait_anew D4.out draw).mono ?_;rintro e w5 ⟨rfl, d5, n5⟩;have D5 := hide d5;have N5 := hide (N4.out.trans n5);have E5 := hide (E4.out.next G4.out n5);have G5 := hide (Nat.lt_of_lt_of_le G4.out n5.turn.size);have B5 := hide (B4.out.turn n5.turn HQS.out);clear d5 n5 D4 N4 B4 E4 G4;go_wp2_with fail
 refine (has_last D5.out a ta HTT.out.2.1 HTT.out.2.2.1 HTT.out.2.2.2.1).mono ?_;rintro e w6 ⟨rfl, k6⟩;have D6 := hide (D5.out.below k6);have N6 := hide (N5.out.trans (Next.of_below S k6));have E6 := hide (E5.out.next G5.out (Next.of_below S k6));have G6 := hide (Nat.lt_of_lt_of_le G5.out k6.size);have B6 := hide (B5.out.keep k6);clear k6 D5 N5 B5 E5 G5;have ha9 : a <= 1099511627776 := by have := HTT.out.2.1; have := HTT.out.2.2.1; omega
 have hn9 : ne <= 100 := HJ.out.2.2.1;go_wp2_with fail
 rw [HWA.out];have JL := hide (join_lay D6.out (a + 1) HTT.out.2.1 HJ.out.2.2.2.2.2.1 HTT.out.2.2.1 (show N.comm < a + 1 by have := HTT.out.2.2.2.2; omega) HJ.out.2.2.2.2.2.2.1 ge ne ce es E6.out HJ.out.1 HJ.out.2.1 HJ.out.2.2.1 G6.out HJ.out.2.2.2.2.2.2.2.1 HJ.out.2.2.2.2.2.2.2.2);refine JL.out.mono ?_;rintro e w7 ⟨rfl, S7, d7, n7⟩;have D7 := hide d7;have N7 := hide (N6.out.trans n7);have B7 := hide (B6.out.turn n7.turn HQS.out);have HQ7h : Hid (¬ S7 q) := hide (fun hs => by
  rcases n7.foot q hs with h9 | h9
  ·exact HQS.out h9
  ·have := B6.out.lt;omega)
 clear d7 n7 JL D6 N6 B6 E6 G6;have s8 : w7.cell? ⟨r, 8, none⟩ = some (.int .i64 ((N.comm : Nat) : Int)) := nds_cell D7.out 8;have f8 := D7.out.blk.frozen 8;have S8 := hide (D7.out.set (N' := { N with role := 0, lead := f, wait := waitOf draw, comm := zc }) 8 (.int .i64 (zc : Int)) rfl D7.out.fit);have n8 : Next S7 w7 S7 _ := set_next (u := .int .i64 (zc : Int)) (i := 8) D7.out.self;have N8 := hide (N7.out.trans n8);have HQ7 := HQ7h.out;have B8 := hide (B7.out.turn n8.turn HQ7);obtain ⟨V, hV⟩ : ∃ Z, Z = w7.setCell ⟨r, 8, none⟩ (.int .i64 (zc : Int)) := ⟨_, rfl⟩;rw [<- hV] at S8 N8 B8;have hsum := HSUM.out;clear n8 D7 N7 B7 HQ7;go_wp2_with fail
 rw [HMM.out, <- hV];clear hV s8 f8 hsum;have v0 : V.cell? ⟨q, 0, none⟩ = some (.int .i64 f) := B8.out.cell 0;have v1 : V.cell? ⟨q, 1, none⟩ = some (.int .i64 t) := B8.out.cell 1;have v2 : V.cell? ⟨q, 2, none⟩ = some (.int .i64 k) := B8.out.cell 2;have v3 : V.cell? ⟨q, 3, none⟩ = some (.slice (some ⟨g, 0, none⟩) 4 c) := B8.out.cell 3;have v4 : V.cell? ⟨q, 4, none⟩ = some (.slice D m dc) := B8.out.cell 4;have s4 : V.cell? ⟨r, 4, none⟩ = some (.int .i64 (N.term : Int)) := nds_cell S8.out 4;rw [<- HTT.out.1] at s4;have kb := below_alloc V (.cells #[.int .i64 (tt : Int), .int .i64 1, .int .i64 (en : Int)] 3);have NB := hide (build_nums V #[.int .i64 (tt : Int), .int .i64 1, .int .i64 (en : Int)] [(tt : Int), 1, (en : Int)] rfl);have KB := hide (kb.trans ((below_drew _).mono kb.size));clear kb
 go_region_held3 (fun W' => W'.cell? ⟨q, 0, none⟩ = some (.int .i64 f) /\ W'.cell? ⟨q, 1, none⟩ = some (.int .i64 t) /\ W'.cell? ⟨q, 2, none⟩ = some (.int .i64 k) /\ W'.cell? ⟨q, 3, none⟩ = some (.slice (some ⟨g, 0, none⟩) 4 c) /\ W'.cell? ⟨q, 4, none⟩ = some (.slice D m dc) /\ W'.cell? ⟨r, 4, none⟩ = some (.int .i64 (tt : Int))) (go_keep)
  (first
   | (go_at_call 49; refine (answer_any (S8.out.below KB.out) f t k 4 g 4 c D m dc _ _ _).mono ?_; rintro e w9 ⟨v, rfl, oa, k9⟩; have NA := hide (NumsAt.keep (by exact NB.out) k9); have OA := hide oa; have K9 := hide (KB.out.trans (k9.mono KB.out.size)); have B9 := B8.out.keep K9.out; have u0 : w9.cell? ⟨q, 0, none⟩ = some (.int .i64 f) := B9.cell 0; have u1 : w9.cell? ⟨q, 1, none⟩ = some (.int .i64 t) := B9.cell 1; have u2 : w9.cell? ⟨q, 2, none⟩ = some (.int .i64 k) := B9.cell 2; have u3 : w9.cell? ⟨q, 3, none⟩ = some (.slice (some ⟨g, 0, none⟩) 4 c) := B9.cell 3; have u4 : w9.cell? ⟨q, 4, none⟩ = some (.slice D m dc) := B9.cell 4; have u5 := (K9.out.cell (cell_lt s4)).trans s4; clear k9 B9 oa))
 go_wp2_with fail
 go_ret;rw [HTT.out.1] at NA;exact ⟨v, _, rfl, OA.out, NA.out, S7, S8.out.below K9.out, N8.out.trans (Next.of_below S7 K9.out)⟩

end Go.Proofs.YtedlibkkeegnaaaGreat
