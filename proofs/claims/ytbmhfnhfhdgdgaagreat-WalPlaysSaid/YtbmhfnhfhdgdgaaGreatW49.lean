/- Steps that came in, the law's own 'heavy' over them, any step in both logs, and the walk of the law WalPlays. Condition: no text and no row of bytes is longer t -/
import Derived.Test.YtbmhfnhfhdgdgaaGreatW47
import Derived.Test.YtbmhfnhfhdgdgaaGreatW48
import Derived.Deep.Matrix
import Derived.Lib.SmallJoins
namespace Go.Proofs.YtbmhfnhfhdgdgaaGreat
open Go.RowKit Go.Maps
variable {w w' : World} {F G Fd Gd : Nat -> Prop} {L : DiskL} {s : ByteArray} {M : LogL} {B room l d p m q i N : Nat}
structure St10 where
 kind : Int
 n : Int
 k : Int
 a : Option Addr
 c : Nat
 d : List Nat
 y : Nat
instance : Inhabited St10 := ⟨⟨0, 0, 0, none, 0, [], 0⟩⟩
def St10.val (q : St10) : Value := .agg #[.int .i64 q.kind, .int .i64 q.n, .int .i64 q.k, .slice q.a q.d.length q.c, .int .u8 (q.y : Int)]
structure St10.Fine (w : World) (q : St10) : Prop where
 row : IsB w (.slice q.a q.d.length q.c) q.d
 byte : ∀ x ∈ q.d, x < 256
 by_ : q.y < 256
 nb : -9223372036854775808 <= q.n /\ q.n <= 9223372036854775807
 ld : q.d.length <= 140737488351232
def IsSt (w : World) (a : Option Addr) (X : List St10) : Prop :=
 ∀ j (h : j < X.length), ∃ b off, a = some ⟨b, off, none⟩ /\ w.cell? ⟨b, off + j * 5, none⟩ = some (.int .i64 X[j].kind) /\ w.cell? ⟨b, off + j * 5 + 1, none⟩ = some (.int .i64 X[j].n) /\ w.cell? ⟨b, off + j * 5 + 2, none⟩ = some (.int .i64 X[j].k) /\
  w.cell? ⟨b, off + j * 5 + 3, none⟩ = some (.slice X[j].a X[j].d.length X[j].c) /\ w.cell? ⟨b, off + j * 5 + 4, none⟩ = some (.int .u8 (X[j].y : Int)) /\ X[j].Fine w
def sumD (X : List St10) : Nat := (X.map fun q => q.d.length).sum
theorem sumD_next (X : List St10) (j : Nat) (hj : j < X.length) : sumD (X.take (j + 1)) = sumD (X.take j) + X[j].d.length := by
 unfold sumD;rw [List.take_succ_eq_append_getElem hj, List.map_append, List.sum_append];simp
def Told (X : List St10) (e : Ending) : Prop := e = .returned (.bool true) \/ (e = .returned (.bool false) /\ ∀ j, j <= X.length -> j <= 120 -> sumD (X.take j) <= 20000)
set_option maxRecDepth 100000 in
set_option maxHeartbeats 1600000 in
theorem heavy10_any (T c : Nat) (a : Option Addr) (X : List St10) (w : World) (hX : X.length = T) (hI : IsSt w a X) :
  Calls Tryz.prog 5 #[.slice a T c] w fun e w' => Told X e /\ ∃ d, w' = w.drewN d := by
 have HX := hide hX;have HI := hide hI;clear hX hI;go_enter Tryz.func5, Tryz.ntmps5;go_wp2_with fail
 go_loopw [3, 4] (fun k i wr => ∃ j s e : Nat, j <= T /\ j <= 120 /\ s <= 20000 /\ k = .int .i64 (s : Int) /\ i = .int .i64 (j : Int) /\ wr = w.drewN e /\ Hid (s = sumD (X.take j)) /\ Hid (∀ i, i <= j -> sumD (X.take i) <= 20000)) (fun _ i _ => 120 - (intOf i).toNat)
 case atStart => exact ⟨0, 0, 0, Nat.zero_le _, Nat.zero_le _, Nat.zero_le _, rfl, rfl, rfl, hide rfl, hide (by intro i hi; have h0 : i = 0 := (by omega); subst h0; simp [sumD])⟩
 case round =>
  obtain ⟨j, s, e, hj, hj2, hs, rfl, rfl, rfl, hsum, hl⟩ := hrel;by_cases hlt : j < T
  ·have hltz : (j : Int) < (T : Int) := by omega
   by_cases h120 : j < 120
   ·have h2z : (j : Int) < 120 := by omega
    have hjX : j < X.length := by rw [HX.out]; exact hlt
    obtain ⟨b, off, rfl, y0, y1, y2, y3, y4, fine⟩ := HI.out j hjX;have l3 := fine.ld;have hnx := sumD_next X j hjX;obtain ⟨n3, e3⟩ : ∃ n3, n3 = X[j].d.length := ⟨_, rfl⟩;rw [<- e3] at y3 l3 hnx;have hj0 : 0 <= (j : Int) := by omega
    have E := hide (And.intro e3 hnx);obtain ⟨W, hW⟩ : ∃ W, W = w.drewN e := ⟨_, rfl⟩;have y3 : W.cell? ⟨b, off + j * 5 + 3, none⟩ = some (.slice X[j].a n3 X[j].c) := by rw [hW]; exact y3
    rw [<- hW];have HW := hide hW;clear e3 y0 y1 y2 y4 fine hW hnx;by_cases h8 : s + n3 <= 20000
    ·go_wp2_with fail
     go_roundw
     case rel => exact ⟨j + 1, s + n3, e, by omega, by omega, by omega, by go_num, by go_num, by rw [HW.out], hide (by rw [E.out.2, hsum.out]), hide (fun i hi => by
      by_cases hh : i <= j
      ·exact hl.out i hh
      ·obtain rfl : i = j + 1 := by omega
       rw [E.out.2, <- hsum.out]; exact h8)⟩
     case measure => simp [intOf]; omega
    ·go_wp2_with fail
     go_ret;exact ⟨.inl rfl, e, HW.out⟩
   ·have h2z : ¬ ((j : Int) < 120) := by omega
    go_wp2_with fail
    go_ret;exact ⟨.inr ⟨rfl, fun i hi h => hl.out i (by omega)⟩, e, rfl⟩
  ·have hltz : ¬ ((j : Int) < (T : Int)) := by omega
   go_wp2_with fail
   go_ret;exact ⟨.inr ⟨rfl, fun i hi h => hl.out i (by rw [HX.out] at hi; omega)⟩, e, rfl⟩
theorem recs_mem10 {p : List Nat} : ∀ {es : List (List Nat)} {i : Nat}, p ∈ es -> p.length <= (recsL i es).length := by
 intro es
 induction es with
 | nil => intro i h; cases h
 | cons q r ih =>
  intro i h
  show _ <= (recL i q ++ recsL (i + 1) r).length
  rw [List.length_append];rcases List.mem_cons.1 h with rfl | h
  ·rw [rec_len]; omega
  ·have := ih (i := i + 1) h; omega
theorem PairAt.sizes (h : PairAt B q w F G Fd Gd d l p m room s M L) (hi : Inv10 N M L) (hN : N <= 1000000) :
  (∀ x ∈ M.segs, x.1 <= 1099511627776 /\ x.2.length <= 1099511627776 /\ (recsL x.1 x.2).length <= 1099511627776 /\ ∀ p ∈ x.2, p.length <= 1048566 /\ ∀ b ∈ p, b < 256) /\ M.segs.length < 1073741824 /\ (∀ n ∈ M.dirty, n <= 1099511627776) /\ (∀ z, (getE M z).1.length <= 1099511627776) := by
 obtain ⟨P, hb, ht, _, hm⟩ := h.duo.pro;obtain ⟨b1, b2⟩ := ht.bounds h.duo.ref.sane;have each : ∀ x ∈ M.segs, x.1 <= 1099511627776 /\ x.2.length <= 1073741824 /\ (recsL x.1 x.2).length <= N := fun x hx => by
  have hf := ht.file x hx;rw [ht.segs] at hx;obtain ⟨y, hy, rfl⟩ := List.mem_map.1 hx;obtain ⟨c1, c2, c3, _⟩ := b2 y hy;obtain ⟨a, f1, f2⟩ := hf;have f3 := hi.len _ (getK_mem f1);dsimp only at f3;rw [f2] at f3;exact ⟨by show y.1 <= _; omega, c2, f3⟩
 have hmem : ∀ x ∈ M.segs, ∀ p ∈ x.2, p.length <= N := fun x hx p hp => Nat.le_trans (recs_mem10 (i := x.1) hp) (each x hx).2.2
 refine ⟨fun x hx => ?_, ?_, fun n hn => ?_, fun z => ?_⟩
 ·obtain ⟨c1, c2, c3⟩ := each x hx;exact ⟨c1, by omega, by omega, fun p hp => ⟨by have := hmem x hx p hp; omega, hi.byte x hx p hp⟩⟩
 ·rw [ht.segs, List.length_map];omega
 ·have := ht.dirt n hn;omega
 ·unfold getE;split
  ·simp
  ·next t e =>
   have ht := List.mem_of_find?_eq_some e;dsimp only;rw [List.getD_eq_getElem?_getD];rcases e2 : t.2[(z - t.1).toNat]? with _ | p
   ·simp
   ·have := hmem t ht p (List.mem_of_getElem? e2);simp only [Option.getD_some];omega
def Goes (B q d p room N : Nat) (w' : World) : Prop := ∃ l m F G Fd Gd M L, PairAt B q w' F G Fd Gd d l p m room logS M L /\ Inv10 N M L
theorem Stood.goes (h : Stood B q d l p m room logS M L w') (hi : Inv10 N M L) : Goes B q d p room N w' := by
 obtain ⟨F, G, Fd, Gd, h⟩ := h;exact ⟨l, m, F, G, Fd, Gd, M, L, h, hi⟩
theorem Opened.goes (h : Opened B q d p room L w') (hl : ∀ x ∈ L, x.2.1.length <= N) (hN : 256 <= N) : Goes B q d p room N w' := by
 obtain ⟨⟨l, m, F, G, Fd, Gd, h⟩, hb, hn⟩ := h;exact ⟨l, m, F, G, Fd, Gd, _, _, h, inv_open hl hb (by omega)⟩
theorem does_any10 (h : PairAt B q w F G Fd Gd d l p m room logS M L) (hi : Inv10 N M L) (hN : N <= 1000000) (hN2 : 256 <= N) (x : St10) (hx : x.Fine w) (hl : x.d.length <= 1000000) (hPo : x.d ≠ [] -> ∀ g, (Value.slice x.a x.d.length x.c).ownBlock = some g -> g < B) :
  Calls Tryz.prog 12 #[.pointer (some ⟨q, 0, none⟩), x.val] w fun e w' => e = .returned (.bool true) /\ Goes B q d p room (N + x.d.length + 18) w' /\ Below B w w' := by
 obtain ⟨K, n, k, a, c, dd, y⟩ := x;obtain ⟨hrow, hbyte, hby, hnb, _⟩ := hx;obtain ⟨z1, z2, z3, z4⟩ := h.sizes hi hN;have hno := h.chain.2;have hdl := hi.dirt;have hs : logS.size <= 64 := by decide
 unfold St10.val;dsimp only at *;have hm : ∀ {N' : Nat} {w' : World}, N' <= N + dd.length + 18 -> Goes B q d p room N' w' -> Goes B q d p room (N + dd.length + 18) w' := fun hle hg => by
  obtain ⟨l, m, F, G, Fd, Gd, M, L, h, hi⟩ := hg;exact ⟨l, m, F, G, Fd, Gd, M, L, h, hi.more hle⟩
 by_cases k1 : K = 1
 ·subst k1;refine (does_add h n k a dd.length c y dd hrow rfl hbyte hl hPo hs (fun x hx => (z1 x hx).1) z2 (fun x hx => ?_) (by omega)).mono ?_
  ·obtain ⟨P, hb, ht, _, _⟩ := h.duo.pro;obtain ⟨_, b2⟩ := ht.bounds h.duo.ref.sane;rw [ht.segs] at hx;obtain ⟨t, ht2, rfl⟩ := List.mem_map.1 hx;exact (b2 t ht2).2.1
  ·rintro e w' ⟨rfl, h2, k⟩;exact ⟨rfl, h2.goes (inv_add hi hno hbyte), k⟩
 by_cases k2 : K = 2
 ·subst k2;refine (does_sync h hs z3 (by omega) n k a dd.length c y).mono ?_;rintro e w' ⟨rfl, h2, k⟩;exact ⟨rfl, hm (by omega) (h2.goes (inv_sync hi)), k⟩
 by_cases k3 : K = 3
 ·subst k3;refine (does_get h n k a dd.length c y hnb.1 hnb.2 (fun x hx => ⟨(z1 x hx).1, (z1 x hx).2.1, fun p hp => by have := ((z1 x hx).2.2.2 p hp).1; omega⟩) (z4 n)).mono ?_;rintro e w' ⟨rfl, h2, k⟩;exact ⟨rfl, hm (by omega) ⟨_, _, _, _, _, _, _, _, h2, hi⟩, k⟩
 by_cases k4 : K = 4
 ·subst k4;by_cases hz : n < (firstL M : Int) \/ (M.next : Int) < n
  ·refine (does_cut_bad h n k a dd.length c y hno hz).mono ?_;rintro e w' ⟨rfl, h2, k⟩;exact ⟨rfl, hm (by omega) (h2.goes hi), k⟩
  ·obtain ⟨i, rfl⟩ : ∃ i : Nat, n = (i : Int) := ⟨n.toNat, by omega⟩;refine (does_cut_ok h i k a dd.length c y hs hno (by omega) (by omega) z1 z2).mono ?_;rintro e w' ⟨rfl, h2, k⟩;exact ⟨rfl, hm (by omega) (h2.goes (inv_cut hi)), k⟩
 by_cases k5 : K = 5
 ·subst k5;by_cases hz : n < (firstL M : Int) \/ (M.next : Int) < n
  ·refine (does_drop_bad h n k a dd.length c y hno hz).mono ?_;rintro e w' ⟨rfl, h2, k⟩;exact ⟨rfl, hm (by omega) (h2.goes hi), k⟩
  ·obtain ⟨i, rfl⟩ : ∃ i : Nat, n = (i : Int) := ⟨n.toNat, by omega⟩;refine (does_drop_ok h i k a dd.length c y hs hno (by omega) (by omega) (fun x hx => ⟨(z1 x hx).1, (z1 x hx).2.1⟩) z2).mono ?_;rintro e w' ⟨rfl, h2, k⟩;exact ⟨rfl, hm (by omega) (h2.goes (inv_drop hi)), k⟩
 by_cases k6 : K = 6
 ·subst k6;refine (does_crash h.disks n k a dd.length c y).mono ?_;rintro e w' ⟨rfl, h2, k⟩;exact ⟨rfl, hm (by omega) (h2.goes (lens_crash hi.len) hN2), k⟩
 by_cases k8 : K = 8
 ·subst k8;refine (does_rot h.disks n k a dd.length c y hby).mono ?_;rintro e w' ⟨rfl, h2 | ⟨t, h2⟩, k⟩
  ·exact ⟨rfl, hm (by omega) ⟨_, _, _, _, _, _, _, _, h.below h2, hi⟩, k⟩
  ·exact ⟨rfl, hm (by omega) (h2.goes (lens_rot hi.len) hN2), k⟩
 by_cases k9 : K = 9
 ·subst k9;refine (does_cutf h.disks n k a dd.length c y hby).mono ?_;rintro e w' ⟨rfl, h2 | ⟨t, h2⟩, k⟩
  ·exact ⟨rfl, hm (by omega) ⟨_, _, _, _, _, _, _, _, h.below h2, hi⟩, k⟩
  ·exact ⟨rfl, hm (by omega) (h2.goes (lens_cut hi.len) hN2), k⟩
 refine (does_other h.disks n k a dd.length c y K ⟨k1, k2, k3, k4, k5, k6, k8, k9⟩).mono ?_;rintro e w' ⟨rfl, h2, k⟩;exact ⟨rfl, hm (by omega) (h2.goes hi.len hN2), k⟩
end Go.Proofs.YtbmhfnhfhdgdgaaGreat
namespace Go.Proofs.YtbmhfnhfhdgdgaaGreat
open Go.RowKit Go.Deep Go.ChangeShapes Go.WideShapes Go.ChangeAt Go.Joins
variable {w W : World} {n : Nat}
theorem mem_weightsAll {H : Type} {P : Program} {e : TypeId} : ∀ (l : List (DataW H)) (d : DataW H), d ∈ l -> ∀ n ∈ d.weights P e, n ∈ DataW.weightsAll P e l
 | [], _, h, _, _ => absurd h (by simp)
 | x :: r, d, h, n, hn => by
  simp only [DataW.weightsAll, List.mem_append];rcases List.mem_cons.1 h with rfl | h'
  ·exact .inl hn
  ·exact .inr (mem_weightsAll r d h' n hn)
section
variable {H : Type} {enc : TypeId × Value -> H} {P : Program} {w : World}
theorem open_rowW {t e : TypeId} {k : IntKind} {bytes : Nat} {v : Value} {y : DataW H × List MemPlace} (ht : P.underlying t = some (.slice e)) (he : P.underlying e = some (.int k)) (hc : P.cellsOf e = 1) (hby : P.bytesOf e = bytes) (h1 : 1 <= bytes)
  (hf : DataW.trod enc P w 0 (fun _ => true) true n t [v] = some y) (hw : ∀ m ∈ y.1.weights P t, m <= reachBytes) : ∃ a len cap zs, v = .slice a len cap /\ IsRow k w a len cap zs /\ len <= 140737488351232 := by
 rcases open_ints ht he hc hf with ⟨hcs, _⟩ | ⟨x, l, c, zs, hcs, _, hl, hm, hz, hx, hcell, hwz⟩
 ·simp only [List.cons.injEq, and_true] at hcs;exact ⟨none, 0, 0, [], hcs, .inl ⟨rfl, rfl, rfl, rfl⟩, Nat.zero_le _⟩
 ·simp only [List.cons.injEq, and_true] at hcs;have hz' : zs.length = c := by simpa using hz
  refine ⟨some x, l, c, zs, hcs, .inr ⟨x, rfl, hl, hm, hz', hcell, hwz⟩, ?_⟩;subst hx;have hr := hw (((lits (H := H) k (zs.take l)).length + (lits (H := H) k (zs.drop l)).length) * P.bytesOf e) (by simp [DataW.weights, ht]);rw [hby] at hr;simp only [lits, List.length_map, List.length_take, List.length_drop, reachBytes] at hr;have h2 : min l zs.length + (zs.length - l) = zs.length := by omega
  rw [h2] at hr;have h3 : zs.length * 1 <= zs.length * bytes := Nat.mul_le_mul_left _ h1;omega
theorem trod_struct5 {t : TypeId} {f0 f1 f2 f3 f4 : Field} {fuel : Nat} {cs : List Value} {x : DataW H × List MemPlace} (ht : P.underlying t = some (.struct #[f0, f1, f2, f3, f4])) (h : DataW.trod enc P w 0 (fun _ => true) true fuel t cs = some x) :
  ∃ y0 y1 y2 y3 y4 n, x.1 = .agg [y0.1, y1.1, y2.1, y3.1, y4.1] /\ DataW.trod enc P w 0 (fun _ => true) true n f0.type ((cs.drop f0.offset).take (P.cellsOf f0.type)) = some y0 /\
   DataW.trod enc P w 0 (fun _ => true) true n f1.type ((cs.drop f1.offset).take (P.cellsOf f1.type)) = some y1 /\ DataW.trod enc P w 0 (fun _ => true) true n f2.type ((cs.drop f2.offset).take (P.cellsOf f2.type)) = some y2 /\
   DataW.trod enc P w 0 (fun _ => true) true n f3.type ((cs.drop f3.offset).take (P.cellsOf f3.type)) = some y3 /\ DataW.trod enc P w 0 (fun _ => true) true n f4.type ((cs.drop f4.offset).take (P.cellsOf f4.type)) = some y4 := by
 obtain ⟨xs, n, _, rfl, _, hlen, hf⟩ := DataW.trod_struct ht h
 match xs, hlen with
 | [y0, y1, y2, y3, y4], _ => exact ⟨y0, y1, y2, y3, y4, n, by simp, by simpa using hf 0 f0 rfl, by simpa using hf 1 f1 rfl, by simpa using hf 2 f2 rfl, by simpa using hf 3 f3 rfl, by simpa using hf 4 f4 rfl⟩
theorem weights_struct5_3 {t : TypeId} {f0 f1 f2 f3 f4 : Field} {d0 d1 d2 d3 d4 : DataW H} (hs : P.underlying t = some (.struct #[f0, f1, f2, f3, f4])) (hw : ∀ m ∈ (DataW.agg [d0, d1, d2, d3, d4]).weights P t, m <= reachBytes) :
  ∀ m ∈ d3.weights P f3.type, m <= reachBytes := by
 have e : (DataW.agg [d0, d1, d2, d3, d4]).weights P t = DataW.weightsEach P [f0.type, f1.type, f2.type, f3.type, f4.type] [d0, d1, d2, d3, d4] := by simp [DataW.weights, hs]
 rw [e] at hw;exact fun m hm => hw m (DataW.weights_mem_each (j := 3) rfl rfl m hm)
end
theorem Tryz.cells_step10 : Tryz.prog.cellsOf 42 = 5 := by kernel_rfl
theorem Tryz.cells_int10 : Tryz.prog.cellsOf 3 = 1 := by kernel_rfl
theorem Tryz.cells_bytes10 : Tryz.prog.cellsOf 33 = 1 := by kernel_rfl
theorem Tryz.cells_u810 : Tryz.prog.cellsOf 5 = 1 := by kernel_rfl
theorem step_in10 {H : Type} {enc : TypeId × Value -> H} {v0 v1 v2 v3 v4 : Value} {x : DataW H × List MemPlace}
  (h : DataW.trod enc Tryz.prog W 0 (fun _ => true) true n 42 [v0, v1, v2, v3, v4] = some x) (hw : ∀ m ∈ x.1.weights Tryz.prog 42, m <= reachBytes) :
  ∃ q : St10, v0 = .int .i64 q.kind /\ v1 = .int .i64 q.n /\ v2 = .int .i64 q.k /\ v3 = .slice q.a q.d.length q.c /\ v4 = .int .u8 (q.y : Int) /\ q.Fine W := by
 obtain ⟨y0, y1, y2, y3, y4, n1, hx, h0, h1, h2, h3, h4⟩ := trod_struct5 Tryz.underlying42 h;rw [hx] at hw;have hw3 := weights_struct5_3 Tryz.underlying42 hw;simp only [Tryz.cells_int10, Tryz.cells_bytes10, Tryz.cells_u810, List.drop_zero, List.take_succ_cons, List.take_zero, List.drop_succ_cons] at h0 h1 h2 h3 h4;obtain ⟨kd, e0, _, _⟩ := DataW.trod_int Tryz.underlying3 h0;obtain ⟨nn, e1, _, w1⟩ := DataW.trod_int Tryz.underlying3 h1;obtain ⟨kk, e2, _, _⟩ := DataW.trod_int Tryz.underlying3 h2;obtain ⟨yy, e4, _, w4⟩ := DataW.trod_int Tryz.underlying5 h4;simp only [List.cons.injEq, and_true] at e0 e1 e2 e4;obtain ⟨a3, len3, cap3, z3, rfl, w3, b3⟩ := open_rowW Tryz.underlying33 Tryz.underlying5 (by kernel_rfl) (bytes := 1) (by kernel_rfl) (by decide) h3 hw3;obtain ⟨d, l3, hb3, i3, _⟩ := w3.isB;have b4 := bounds_u8 w4;subst l3;exact ⟨⟨kd, nn, kk, a3, cap3, d, yy.toNat⟩, e0, e1, e2, rfl, by rw [e4]; congr 1; dsimp only; omega, ⟨i3, hb3, by dsimp only; omega, bounds_i64 w1, b3⟩⟩
theorem steps_in10 {H : Type} {enc : TypeId × Value -> H} {fuel : Nat} {a0 : Option Addr} {len0 cap0 : Nat} {x : DataW H × List MemPlace}
  (h : DataW.trod enc Tryz.prog W 0 (fun _ => true) true fuel 22 [.slice a0 len0 cap0] = some x) (hw : ∀ m ∈ x.1.weights Tryz.prog 22, m <= reachBytes) : ∃ X : List St10, X.length = len0 /\ IsSt W a0 X := by
 rcases open_slice Tryz.underlying22 h with ⟨hcs, _⟩ | ⟨a, len, cap, m, n, D, Pl, hcs, _, hl, _, hm, rfl, hr⟩
 ·simp only [List.cons.injEq, and_true, Value.slice.injEq] at hcs;obtain ⟨rfl, rfl, rfl⟩ := hcs;exact ⟨[], rfl, fun j hj => by simp at hj⟩
 ·simp only [List.cons.injEq, and_true, Value.slice.injEq] at hcs;obtain ⟨rfl, rfl, rfl⟩ := hcs;have hlm : len0 <= m := by rw [hm]; split <;> omega
  have each : ∀ i, i < len0 -> ∃ q : St10, W.cell? (a.add (i * 5)) = some (.int .i64 q.kind) /\ W.cell? (a.add (i * 5 + 1)) = some (.int .i64 q.n) /\ W.cell? (a.add (i * 5 + 2)) = some (.int .i64 q.k) /\ W.cell? (a.add (i * 5 + 3)) = some (.slice q.a q.d.length q.c) /\ W.cell? (a.add (i * 5 + 4)) = some (.int .u8 (q.y : Int)) /\ q.Fine W := by
   intro i hi;obtain ⟨cs', h1, h2⟩ := hr i (by omega);rw [Tryz.cells_step10] at h1;obtain ⟨_, hlen, hcell⟩ := World.cells?_some h1
   match cs', hlen with
   | [v0, v1, v2, v3, v4], _ =>
    have hD : ∀ k ∈ (D i).weights Tryz.prog 42, k <= reachBytes := fun k hk => by
     refine hw k ?_;simp only [DataW.weights, Tryz.underlying22, List.mem_cons, List.mem_append];exact .inr (.inl (mem_weightsAll _ (D i) (List.mem_map.2 ⟨i, List.mem_range.2 hi, rfl⟩) k hk))
    obtain ⟨q, e0, e1, e2, e3, e4, r⟩ := step_in10 h2 hD;have c0 := hcell 0 (by omega);have c1 := hcell 1 (by omega);have c2 := hcell 2 (by omega);have c3 := hcell 3 (by omega);have c4 := hcell 4 (by omega);rw [add_add] at c0 c1 c2 c3 c4;subst e0; subst e1; subst e2; subst e3; subst e4;exact ⟨q, by simpa using c0, by simpa using c1, by simpa using c2, by simpa using c3, by simpa using c4, r⟩
  obtain ⟨Q, hQ⟩ := choose_lt each;refine ⟨(List.range len0).map Q, by simp, fun j hj => ?_⟩;have hj2 : j < len0 := by simpa using hj
  obtain ⟨c0, c1, c2, c3, c4, r⟩ := hQ j hj2;obtain ⟨b, off, sp⟩ := a;have hsp : sp = none := by simpa [Addr.add] using World.cell?_spot (hQ 0 (by omega)).1
  subst hsp;rw [add_off] at c0 c1 c2 c3 c4;have ej : ((List.range len0).map Q)[j] = Q j := by simp
  rw [ej];exact ⟨b, off, rfl, c0, by rw [Nat.add_assoc]; exact c1, by rw [Nat.add_assoc]; exact c2, by rw [Nat.add_assoc]; exact c3, by rw [Nat.add_assoc]; exact c4, r⟩
end Go.Proofs.YtbmhfnhfhdgdgaaGreat
namespace Go.Proofs.YtbmhfnhfhdgdgaaGreat
open Go.RowKit Go.Maps
variable {w w' w1 w2 : World} {F G : Nat -> Prop} {L : DiskL} {B room d p q N : Nat}
theorem both_new10 (hB : B <= w.heap.size) (d1 : DiskAt w1 F d room L) (lF : ∀ k, F k -> w.heap.size <= k) (k1 : Below w.heap.size w w1) (r2 : RAt w2 G p room L) (lG : ∀ k, G k -> w1.heap.size <= k) (k2 : Below w1.heap.size w1 w2) :
  Both B w2 F G d p room L :=
 ⟨d1.below k2, r2, fun k hf hg => (by have := d1.low k hf; have := lG k hg; omega), fun k hk => (by have := lF k hk; omega), fun k hk => (by have := lG k hk; have := k1.size; omega), Nat.le_trans hB (Nat.le_trans k1.size k2.size)⟩
theorem St10.Fine.keep {q : St10} (h : q.Fine w) (hb : Below w.heap.size w w') : q.Fine w' := ⟨h.row.keep hb, h.byte, h.by_, h.nb, h.ld⟩
theorem fine10_block {q : St10} (h : q.Fine w) : q.d ≠ [] -> ∀ g, (Value.slice q.a q.d.length q.c).ownBlock = some g -> g < w.heap.size := by
 intro hne g hg;obtain ⟨b, off, e, hc⟩ := h.row.rd hne;rw [e] at hg;have hg : b = g := Option.some.inj hg;subst hg;exact cell_lt (hc 0 (List.length_pos_iff.2 hne))
theorem app_lens {k : Str} {p : List Nat} : ∀ x ∈ (appL room k p []).1, x.2.1.length <= p.length := by
 have h := lens_app (N := 0) (room := room) (k := k) (p := p) (L := []) (fun x hx => by cases hx);simpa using h
theorem Goes.stands (h : Goes B q d p room N w) (hN : N <= 1000000) : Calls Tryz.prog 13 #[.pointer (some ⟨q, 0, none⟩)] w fun e w' => e = .returned (.bool true) /\ Goes B q d p room N w' /\ Below B w w' := by
 obtain ⟨l, m, F, G, Fd, Gd, M, L, h, hi⟩ := h;obtain ⟨z1, z2, z3, z4⟩ := h.sizes hi hN;refine (stood10_any h (fun x hx => ⟨(z1 x hx).1, (z1 x hx).2.1, fun p hp => by have := ((z1 x hx).2.2.2 p hp).1; omega⟩) z4).mono ?_;rintro e w' ⟨rfl, k⟩;exact ⟨rfl, ⟨l, m, F, G, Fd, Gd, M, L, h.below k, hi⟩, k.mono h.duo.base⟩
theorem Goes.does (h : Goes B q d p room N w) (hN : N <= 1000000) (hN2 : 256 <= N) (x : St10) (hx : x.Fine w) (hl : x.d.length <= 1000000) (hPo : x.d ≠ [] -> ∀ g, (Value.slice x.a x.d.length x.c).ownBlock = some g -> g < B) :
  Calls Tryz.prog 12 #[.pointer (some ⟨q, 0, none⟩), x.val] w fun e w' => e = .returned (.bool true) /\ Goes B q d p room (N + x.d.length + 18) w' /\ Below B w w' := by
 obtain ⟨l, m, F, G, Fd, Gd, M, L, h, hi⟩ := h;exact does_any10 h hi hN hN2 x hx hl hPo
theorem Goes.base (h : Goes B q d p room N w) : B <= w.heap.size := by
 obtain ⟨l, m, F, G, Fd, Gd, M, L, h, hi⟩ := h;exact h.duo.base
set_option maxRecDepth 100000 in
set_option maxHeartbeats 6400000 in
theorem walPlays_core (z : Int) (s : ByteArray) (T c : Nat) (a : Option Addr) (X : List St10) (w : World) (hX : X.length = T) (hI : IsSt w a X) (hsz : s.size <= 140737488351232) :
  Calls Tryz.prog 3 #[.int .i64 z, .string s, .slice a T c] w fun e w' => e = .returned (.bool true) /\ Below w.heap.size w w' := by
 have kc := const_bytes;have HX := hide hX;have HI := hide hI;obtain ⟨n1, f1⟩ : ∃ n, n = s.size := ⟨_, rfl⟩;have g1 := f1.symm;rw [g1] at hsz;have HN1 := hide f1;clear hX hI f1;go_enter Tryz.func3, Tryz.ntmps3;go_wp2_with fail
 refine (heavy10_any T c a X w HX.out HI.out).mono ?_;rintro e w1 ⟨hT, d1, rfl⟩;rcases hT with rfl | ⟨rfl, hH⟩
 ·go_wp2_with fail
  refine (known_any _).mono ?_;rintro e w1 ⟨rfl, k1⟩;go_wp2_with fail
  go_ret;exact ⟨rfl, (below_drewN (Below.refl _ _) d1).trans k1⟩
 ·have LT := hide hH;clear hH;by_cases h60 : 60 < n1
  ·have h60z : (60 : Int) < (n1 : Int) := by omega
   go_wp2_with fail
   refine (known_any _).mono ?_;rintro e w1 ⟨rfl, k1⟩;go_wp2_with fail
   go_ret;exact ⟨rfl, (below_drewN (Below.refl _ _) d1).trans k1⟩
  have h60z : ¬ (60 : Int) < (n1 : Int) := by omega
  have HS40 : Hid (s.size <= 1099511627776) := hide (by rw [g1]; omega);by_cases hz : z < 0 \/ 1073741824 < z
  ·go_wp2_with fail
   refine (new_bad z (w.drewN d1) hz).mono ?_;rintro e w1 ⟨rfl, rfl⟩;go_wp2_with fail
   refine (rnew_bad z (w.drewN d1) hz).mono ?_;rintro e w1 ⟨rfl, rfl⟩;go_wp2_with fail
   refine (known_any _).mono ?_;rintro e w1 ⟨rfl, k1⟩;go_wp2_with fail
   go_ret;exact ⟨rfl, (below_drewN (Below.refl _ _) d1).trans k1⟩
  ·obtain ⟨room, rfl⟩ : ∃ r : Nat, z = (r : Int) := ⟨z.toNat, by omega⟩;have hroom : room <= 1073741824 := by omega
   clear hz;go_wp2_with fail
   refine (new_any room (w.drewN d1) hroom).mono ?_;rintro e w1 ⟨d, F, rfl, D1, lF, k1⟩;go_wp2_with fail
   refine (rnew_any room w1 hroom).mono ?_;rintro e w2 ⟨p, G, rfl, R2, lG, k2⟩;have hB := both_new10 (B := w.heap.size) (w := w.drewN d1) (Nat.le_refl _) D1 lF k1 R2 lG k2;have hK : Below w.heap.size w w2 := (below_drewN (Below.refl _ _) d1).trans (k1.trans (k2.mono k1.size));have HB := hide hB;have HK := hide hK;clear D1 lF k1 R2 lG k2 hB hK h60 hsz;clear g1;go_wp2_with fail
   have ka := below_alloc w2 (.cells #[.int .u8 120] 5 (1, 2));refine (append_any F d room [] s _ 1 1 [120] _ (HB.out.disk.below ka) HS40.out (isB_const w2 _ _ _ rfl (by decide) _ _ rfl rfl) rfl (by decide) (by decide)).mono ?_;rintro e w3 ⟨rfl, F1, D3, n3⟩;have hB3 := HB.out.below ka;obtain ⟨r1, a1, u1, k3⟩ := hB3.first n3;have D3 := hide D3;have R3 := hide r1;have A3 := hide a1;have U3 := hide u1;have BS3 := hide (Nat.le_trans hB3.base n3.turn.size);have HK3 := hide ((HK.out.trans (ka.mono HB.out.base)).trans k3);have SA := hide HB.out.disk.sane;have UG := hide HB.out.upG;clear hB3 r1 a1 u1 k3 n3 HK HB ka;go_wp2_with fail
   have ka := below_alloc w3 (.cells #[.int .u8 120] 5 (1, 2));have hlo := R3.out.low;refine (rappend_at G p room [] s _ (R3.out.below ka) SA.out _ 1 1 [120] (isB_const w3 _ _ _ rfl (by decide) _ _ rfl rfl) rfl (by decide) (fun _ g hg hf => by have h8 := hlo g hf; have h9 : w3.heap.size = g := Option.some.inj hg; omega) HS40.out (by decide)).mono ?_;rintro e w4 ⟨rfl, G4, R4, n4⟩;have hbb := both_second (B := w.heap.size) (D3.out.below ka) A3.out U3.out UG.out (Nat.le_trans BS3.out ka.size) R4 n4;have hlens := app_lens (room := room) (k := s.data.toList) (p := [120]);obtain ⟨L1, hL1⟩ : ∃ L, L = (appL room s.data.toList [120] []).1 := ⟨_, rfl⟩;rw [<- hL1] at hbb hlens;have HB4 := hide hbb;have HL1 := hide hlens;have HK4 := hide ((HK3.out.trans (ka.mono BS3.out)).trans (n4.below (Nat.le_trans BS3.out ka.size) UG.out));clear R4 n4 hbb hlens hL1 D3 R3 A3 U3 SA UG hlo HK3 BS3 ka;go_wp2_with fail
   have hdat : DisksAt w.heap.size w4.heap.size (w4.alloc (.cells #[.pointer (some ⟨d, 0, none⟩), .pointer (some ⟨p, 0, none⟩), .pointer none, .pointer none] 39)) F1 G4 d p room (.pointer none) (.pointer none) L1 := by
    have ka := below_alloc w4 (.cells #[.pointer (some ⟨d, 0, none⟩), .pointer (some ⟨p, 0, none⟩), .pointer none, .pointer none] 39);have hb := HB4.out.below ka;exact ⟨hb.disk, hb.ref, hb.disk.sane, hb.apart, hb.upF, hb.upG, hb.base, Blk.new w4 39 #[.pointer (some ⟨d, 0, none⟩), .pointer (some ⟨p, 0, none⟩), .pointer none, .pointer none] HB4.out.base, fun k hk => by
     rcases hk with hk | hk
     ·have := HB4.out.disk.low k hk; omega
     ·have := HB4.out.ref.low k hk; omega⟩
   have hk5 := HK4.out.trans ((below_alloc w4 (.cells #[.pointer (some ⟨d, 0, none⟩), .pointer (some ⟨p, 0, none⟩), .pointer none, .pointer none] 39)).mono HB4.out.base);have hfx := hdat.disk.facts;refine (pair_open hdat).mono ?_;rintro e w6 ⟨rfl, ho, k6⟩;obtain ⟨q, hq⟩ : ∃ q, q = w4.heap.size := ⟨_, rfl⟩;rw [<- hq] at ho;rw [<- hq];have HG : Hid (Goes w.heap.size q d p room (256 + sumD (X.take 0) + 18 * 0) w6) := hide (Opened.goes ⟨ho, fun x hx => (hfx.2.2.2.2.1 x hx).2, hfx.2.1⟩ (fun x hx => Nat.le_trans (HL1.out x hx) (by simp [sumD])) (by simp [sumD]));have HK6 := hide (hk5.trans k6);clear ho hfx hk5 hdat k6 hq HB4 HL1 HK4;go_wp2_with fail
   go_loopw [12] (fun i wr => ∃ k : Nat, k <= T /\ k <= 120 /\ i = .int .i64 (k : Int) /\ Hid (Goes w.heap.size q d p room (256 + sumD (X.take k) + 18 * k) wr) /\ Hid (Below w.heap.size w wr)) (fun i _ => 120 - (intOf i).toNat)
   case atStart => exact ⟨0, Nat.zero_le _, Nat.zero_le _, rfl, HG, HK6⟩
   case round =>
    clear HG HK6;obtain ⟨k, hk, hk2, rfl, HG, HK⟩ := hrel;have hj0 : 0 <= (k : Int) := by omega
    have hsm := LT.out k (by rw [HX.out]; exact hk) hk2;have HN : Hid (256 + sumD (X.take k) + 18 * k <= 100000) := hide (by omega);by_cases hgo : k < T /\ k < 120
    ·obtain ⟨hlt, h120⟩ := hgo;have hltz : (k : Int) < (T : Int) := by omega
     have h2z : (k : Int) < 120 := by omega
     have hkX : k < X.length := by rw [HX.out]; exact hlt
     obtain ⟨b, off, rfl, y0, y1, y2, y3, y4, fine⟩ := HI.out k hkX;have hsm2 := LT.out (k + 1) (by omega) (by omega);have hnx := sumD_next X k hkX;obtain ⟨x, hx⟩ : ∃ x, x = X[k] := ⟨_, rfl⟩;rw [<- hx] at y0 y1 y2 y3 y4 fine hnx;have hbo := fine10_block fine;have FI := hide (fine.keep HK.out);have BO := hide hbo;have HNX := hide (And.intro hnx hsm2);have hbw : b < w.heap.size := cell_lt y0;have x0 := (HK.out.cell (p := ⟨b, off + k * 5, none⟩) hbw).trans y0;have x1 := (HK.out.cell (p := ⟨b, off + k * 5 + 1, none⟩) hbw).trans y1;have x2 := (HK.out.cell (p := ⟨b, off + k * 5 + 2, none⟩) hbw).trans y2;have x3 := (HK.out.cell (p := ⟨b, off + k * 5 + 3, none⟩) hbw).trans y3;have x4 := (HK.out.cell (p := ⟨b, off + k * 5 + 4, none⟩) hbw).trans y4;have Y0 := hide y0;clear y0 y1 y2 y3 y4 fine hbo hx hnx hsm hsm2;go_wp2_with fail
     refine (HG.out.does (by have := HN.out; omega) (by omega) x FI.out (by have := HNX.out; omega) BO.out).mono ?_;rintro e w3 ⟨rfl, G3, K3⟩;have e9 : 256 + sumD (X.take k) + 18 * k + x.d.length + 18 = 256 + sumD (X.take (k + 1)) + 18 * (k + 1) := by have := HNX.out.1; omega
     rw [e9] at G3;have GG := hide G3;have KK := hide (HK.out.trans K3);have HN3 : Hid (256 + sumD (X.take (k + 1)) + 18 * (k + 1) <= 1000000) := hide (by have := HNX.out.2; omega);have x0 := (KK.out.cell (p := ⟨b, off + k * 5, none⟩) hbw).trans Y0.out;clear G3 K3 x1 x2 x3 x4 e9 HG HK;obtain ⟨kd, hkd⟩ : ∃ kd, kd = x.kind := ⟨_, rfl⟩;rw [<- hkd] at x0;clear hkd;have hm0 : 0 <= (k : Int) % 7 := by omega
     have hm1 : (k : Int) % 7 < 7 := by omega
     by_cases hst : (k : Int) % 7 = 0 \/ 4 <= kd
     ·have hb : (((k : Int) % 7 == 0) = true) \/ (((k : Int) % 7 == 0) = false /\ decide ((4 : Int) <= kd) = true) := by
       rcases hst with h | h
       ·exact .inl (by simpa using h)
       ·by_cases h7 : (k : Int) % 7 = 0
        ·exact .inl (by simpa using h7)
        ·exact .inr ⟨by simpa using h7, by simpa using h⟩
      clear hst;rcases hb with hb | ⟨hb, hb2⟩
      all_goals
       go_wp2_with fail
       refine (GG.out.stands HN3.out).mono ?_;rintro e w4 ⟨rfl, G4, K4⟩;have K5 := hide (KK.out.trans K4);have G5 := hide G4;clear x0 G4 K4;go_wp2_with fail
       go_roundw
       case rel => exact ⟨k + 1, by omega, by omega, by go_num, G5, K5⟩
       case measure => simp [intOf]; omega
     ·have hb : ((k : Int) % 7 == 0) = false := by simp; omega
      have hb2 : decide ((4 : Int) <= kd) = false := by simp; omega
      clear hst;go_wp2_with fail
      go_roundw
      case rel => exact ⟨k + 1, by omega, by omega, by go_num, GG, KK⟩
      case measure => simp [intOf]; omega
    ·have hend : ¬ ((k : Int) < (T : Int)) \/ ((k : Int) < (T : Int)) /\ ¬ ((k : Int) < 120) := by omega
     clear hgo;rcases hend with hltz | ⟨hltz, h2z⟩
     all_goals
      go_wp2_with fail
      refine (HG.out.stands (by have := HN.out; omega)).mono ?_;rintro e w5 ⟨rfl, G5, K5⟩;have KK := hide (HK.out.trans K5);clear G5 K5;go_wp2_with fail
      refine (known_any _).mono ?_;rintro e w6 ⟨rfl, k6⟩;go_wp2_with fail
      go_ret;exact ⟨rfl, KK.out.trans (k6.mono KK.out.size)⟩
end Go.Proofs.YtbmhfnhfhdgdgaaGreat
