/- The document's Open. Condition: a prefix of 1 to 55 bytes. -/
import Derived.Test.YtbmhfnhfhdgdgaaGreatW41
import Derived.Test.YtbmhfnhfhdgdgaaGreatW44
import Derived.Test.YtbmhfnhfhdgdgaaGreatW27
namespace Go.Proofs.YtbmhfnhfhdgdgaaGreat
open Go.RowKit Go.Maps
variable {w w' : World} {G Gd Gd' : Nat -> Prop} {L L' : DiskL} {s : ByteArray} {M : LogL} {room dp l : Nat}
theorem open_take (k : Str) (L : DiskL) (j : Nat) (hj : j < L.length) : ((L.map (·.1)).take (j + 1)).foldl (openStep k) ⟨false, ⟨[], 1, []⟩, L⟩ = openStep k (((L.map (·.1)).take j).foldl (openStep k) ⟨false, ⟨[], 1, []⟩, L⟩) ((L.map (·.1)).getD j []) := by
 have hj2 : j < (L.map (·.1)).length := by rw [List.length_map]; exact hj
 rw [List.take_succ_eq_append_getElem hj2, List.foldl_append];simp [hj]
theorem open_count (k : Str) (L : DiskL) : ∀ (j : Nat) (l : List Str), l.length <= j -> ∀ o : OpenS, (l.foldl (openStep k) o).log.segs.length <= o.log.segs.length + l.length /\ (l.foldl (openStep k) o).log.dirty.length <= o.log.dirty.length + l.length
 | j, [], _, o => ⟨Nat.le_refl _, Nat.le_refl _⟩
 | 0, c :: cs, h, o => absurd h (by simp)
 | j + 1, c :: cs, h, o => by
  obtain ⟨h1, h2⟩ := open_count k L j cs (by simpa using h) (openStep k o c);have h3 : (openStep k o c).log.segs.length <= o.log.segs.length + 1 /\ (openStep k o c).log.dirty.length <= o.log.dirty.length + 1 := by
   unfold openStep;split
   ·exact ⟨by omega, by omega⟩
   ·split
    ·exact ⟨by simp, by simp⟩
    ·split
     ·exact ⟨by simp, by simp⟩
     ·split
      ·exact ⟨by simp, by simp⟩
      ·exact ⟨by simp, by simp⟩
  rw [List.foldl_cons, List.length_cons];omega
theorem readF_count : ∀ (f : Nat) (b : List Nat) (i : Nat), (readF f b i).1.length <= f
 | 0, _, _ => Nat.le_refl _
 | f + 1, b, i => by
  unfold readF;split
  ·exact Nat.zero_le _
  ·split
   ·exact Nat.zero_le _
   ·split
    ·exact Nat.zero_le _
    ·have := readF_count f (b.drop (decL b).2.1) (i + 1);simp only [List.length_cons];omega
theorem seg_count (b : List Nat) (i : Nat) : (segL b i).1.length <= b.length := readF_count _ _ _
theorem RBoth.disked (h : RBoth w Gd G dp l room s M L) (n : Next Gd w Gd' w') (r : RAt w' Gd' dp room L') (hs : Sane room L') : RBoth w' Gd' G dp l room s M L' :=
 ⟨r, h.log.turn n.turn (fun g hg hd => h.apart g hd hg), fun q hq hg => (n.foot q hq).elim (fun h1 => h.apart q h1 hg) (fun h1 => by have := h.log.low q hg; omega), hs⟩
theorem RBoth.below (h : RBoth w Gd G dp l room s M L) (k : Below w.heap.size w w') : RBoth w' Gd G dp l room s M L :=
 ⟨h.disk.below k, h.log.below k, h.apart, h.sane⟩
set_option maxRecDepth 100000 in
set_option maxHeartbeats 6400000 in
theorem rlogopen_any (w : World) (Gd : Nat -> Prop) (dp room : Nat) (s : ByteArray) (L : DiskL) (hR : RAt w Gd dp room L) (hS : Sane room L) (h1 : 1 <= s.size) (h2 : s.size <= 55) :
  Calls Tryz.prog 35 #[.pointer (some ⟨dp, 0, none⟩), .string s] w fun e w' => ∃ l, e = .returned (.tuple #[.pointer (some ⟨l, 0, none⟩), .int .i64 0]) /\ ∃ Gd' G, RBoth w' Gd' G dp l room s (openR s.data.toList L).log (openR s.data.toList L).disk /\
   Turn Gd w w' /\ (∀ k, Gd' k -> Gd k \/ w.heap.size <= k) /\ (∀ k, G k -> w.heap.size <= k) := by
 have hz1 : ((s.size : Int) < 1) = False := eq_false (by omega);have hz2 : ((55 : Int) < (s.size : Int)) = False := eq_false (by omega);have HD := hide hR;have HS := hide hS;have HZ := hide h2;have hlen : L.length <= 256 := hS.few;clear hR hS h1 h2;go_enter Tryz.func35, Tryz.ntmps35;go_wp2_with fail
 have k0 := below_alloc w (.cells #[.pointer (some ⟨dp, 0, none⟩), .string s, .slice none 0 0, .int .i64 1, .slice none 0 0] 152);have b0 := Blk.new w (B := 0) 152 #[.pointer (some ⟨dp, 0, none⟩), .string s, .slice none 0 0, .int .i64 1, .slice none 0 0] (Nat.zero_le _);refine (rlist_at10 Gd dp room L _ (HD.out.below k0) HS.out).mono ?_;rintro e w1 ⟨vN, rfl, oN, kN⟩;obtain ⟨A, c, rfl, hlc, hc63, hcell⟩ := oN.form;rw [List.length_map] at hlc hcell;obtain ⟨N, hN⟩ : ∃ N, N = L.length := ⟨_, rfl⟩;have hNl : (L.map (·.1)).length = N := by rw [List.length_map, hN]
 rw [hNl];rw [<- hN] at hlc hcell hlen;have b1 := b0.turn (Turn.of_below (fun _ => False) kN) (fun h => h);have K1 := hide (below_step k0 kN);have hlw : w.heap.size < w1.heap.size := b1.lt;have R1 := hide (HD.out.below K1.out);have hW1 : RLogW w1 (fun q => q = w.heap.size) (fun _ => False) w.heap.size dp s (.slice none 0 0) (.slice none 0 0) [] 1 [] :=
  ⟨b1, World.ownsRow_nil _ _ _ _, World.ownsRow_nil _ _ _ _, (fun x hx => absurd hx List.not_mem_nil), rfl, (fun g hg => by cases hg), (fun g hg => by cases hg), (fun g hg => hg.elim), (fun g hg => hg.elim), fun g hg => by rw [hg]; exact hlw⟩
 have B1 : Hid (RBoth w1 Gd (fun q => q = w.heap.size) dp w.heap.size room s ⟨[], 1, []⟩ L) := hide ⟨R1.out, ⟨_, _, _, [], rfl, hW1⟩, fun q hq e => (by have := HD.out.low q hq; omega), HS.out⟩;have HN := hide hN;have HC := hide hcell;have HLW := hide hlw;obtain ⟨l, hl⟩ : ∃ l, l = w.heap.size := ⟨_, rfl⟩;rw [<- hl] at B1 HLW;rw [<- hl];have HL := hide hl;clear hW1 b1 b0 k0 kN oN hN hNl hcell hlw hl;go_wp2_with fail
 go_loopw [8, 9] (fun vb ix wr => ∃ (j : Nat) (Gd' G : Nat -> Prop) (o : OpenS), j <= N /\ ix = .int .i64 (j : Int) /\ vb = .bool o.bad /\ Hid (o = ((L.map (·.1)).take j).foldl (openStep s.data.toList) ⟨false, ⟨[], 1, []⟩, L⟩) /\ Hid (RBoth wr Gd' G dp l room s o.log o.disk) /\
   Hid (Turn (fun q => Gd q \/ q = l) w1 wr) /\ Hid (∀ q, Gd' q -> Gd q \/ w1.heap.size <= q) /\ Hid (∀ q, G q -> q = l \/ w1.heap.size <= q)) (fun _ ix _ => N - (intOf ix).toNat)
 case atStart => exact ⟨0, Gd, fun q => q = l, ⟨false, ⟨[], 1, []⟩, L⟩, Nat.zero_le _, rfl, rfl, hide rfl, B1.out, Turn.refl _ _, fun _ => .inl, fun _ => .inl⟩
 case round =>
  obtain ⟨j, Gd', G, o, hj, rfl, rfl, ho, hB, hT, hFd, hFg⟩ := hrel;by_cases hlt : j < N
  ·obtain ⟨g, rfl, hgw, hgl, q0⟩ := HC.out j hlt;have hgd : ¬ (Gd g \/ g = l) := fun h => h.elim (fun h => by have := HD.out.low g h; have := HL.out; simp at hgw; omega) (fun h => by have := HL.out; simp at hgw; omega)
   obtain ⟨t, ht, htk⟩ : ∃ t : ByteArray, encStr ((L.map (·.1)).getD j []) = .string t /\ t.data.toList = (L.map (·.1)).getD j [] := ⟨_, rfl, rfl⟩;rw [ht] at q0;have q1 : wr.cell? ⟨g, j, none⟩ = some (.string t) := by rw [World.cell?_of_block (hT.out.block g hgl hgd)]; exact q0
   have hst := open_take s.data.toList L j (by rw [<- HN.out]; exact hlt);rw [<- ho.out, <- htk] at hst;have HST := hide hst;have HGD := hide hgd;have hcnt := open_count s.data.toList L _ ((L.map (·.1)).take j) (Nat.le_refl _) ⟨false, ⟨[], 1, []⟩, L⟩;rw [<- ho.out] at hcnt;have hcnt2 : o.log.segs.length <= 256 /\ o.log.dirty.length <= 256 := by
    have : ((L.map (·.1)).take j).length <= j := by rw [List.length_take]; omega
    simp only [List.length_nil, Nat.zero_add] at hcnt;omega
   have HCNT := hide hcnt2;clear hst hgd hcnt hcnt2 ht q0;obtain ⟨bad, ⟨segs, nx, dy⟩, Lo⟩ := o;simp only at hB HST HCNT;clear ho;have hks : s.size <= 1099511627776 := by have := HZ.out; omega
   go_wp2_with fail
   refine (rnumber_any s t wr hks).mono ?_;rintro e wz ⟨rfl, d2, rfl⟩;have B2 := hide (hB.out.drewN d2);have T2 := hide (show Turn (fun q => Gd q \/ q = l) w1 (wr.drewN d2) from ⟨hT.out.os, hT.out.tape, hT.out.output, hT.out.size, hT.out.block⟩);obtain ⟨W2, hW2⟩ : ∃ z, z = wr.drewN d2 := ⟨_, rfl⟩;have q2 : W2.cell? ⟨g, j, none⟩ = some (.string t) := by rw [hW2]; exact q1
   rw [<- hW2] at B2 T2 ⊢;clear hW2 q1 hB hT hks;rcases hn : numL s.data.toList t.data.toList with _ | n
   ·rw [numI_none hn];have hnum := hide hn;clear hn;go_wp2_with fail
    go_roundw
    case rel =>
     refine ⟨j + 1, Gd', G, ⟨bad, ⟨segs, nx, dy⟩, Lo⟩, by omega, by go_num, rfl, ?_, B2.out, T2.out, hFd.out, hFg.out⟩;unfold Hid;rw [HST.out];simp only [openStep, hnum.out]
    case measure => simp [intOf]; omega
   ·rw [numI_some hn];have hn9 := num_max hn;have hnum := hide hn;have hn0 : ((n : Int) < 0) = False := eq_false (by omega);clear hn;obtain ⟨E, vS, vD, X, e, hW⟩ := B2.out.log;simp only at e hW;obtain ⟨c0, c1, c2, c3, c4⟩ := hW.logCells;obtain ⟨AS, cS, eS, hlS, hcS, -, -⟩ := hW.row.form;subst eS;obtain ⟨XL, hXL⟩ : ∃ XL, XL = X.length := ⟨_, rfl⟩;rw [<- hXL] at c2 hlS;have hsl : segs.length = XL := by rw [e, List.length_map, hXL]
    have hne : segs ≠ [] ↔ 0 < XL := by rw [<- List.length_pos_iff, hsl]
    have HNE := hide hne;have HSL := hide hsl;clear hW e hXL hne hsl;cases bad with
    | true =>
     go_wp2_with fail
     refine (rremove_at Gd' dp room Lo t _ B2.out.disk B2.out.sane).mono ?_;rintro e w8 ⟨rfl, G8, r8, n8⟩;have R8 := hide r8;have N8 := hide n8;clear r8 n8;go_wp2_with fail
     go_roundw
     case rel =>
      have hTs := T2.out.size;refine ⟨j + 1, G8, G, ⟨true, ⟨segs, nx, dy⟩, (remL t.data.toList Lo).1⟩, by omega, by go_num, rfl, ?_, B2.out.disked N8.out R8.out (rem_sane10 B2.out.sane), T2.out.then N8.out.turn (fun q hq => (hFd.out q hq).imp .inl id), fun q hq => (N8.out.foot q hq).elim (hFd.out q) (fun h => .inr (by omega)), hFg.out⟩;unfold Hid;rw [HST.out];unfold openStep;rw [hnum.out];dsimp only;rw [if_pos (by exact .inl rfl)]
     case measure => simp [intOf]; omega
    | false =>
     by_cases b1 : n < 1
     ·have hn1 : ((n : Int) < 1) = True := eq_true (by omega);have HB1 := hide b1;clear b1;go_wp2_with fail
      refine (rremove_at Gd' dp room Lo t _ B2.out.disk B2.out.sane).mono ?_;rintro e w8 ⟨rfl, G8, r8, n8⟩;have R8 := hide r8;have N8 := hide n8;clear r8 n8;go_wp2_with fail
      go_roundw
      case rel =>
       have hTs := T2.out.size;refine ⟨j + 1, G8, G, ⟨true, ⟨segs, nx, dy⟩, (remL t.data.toList Lo).1⟩, by omega, by go_num, rfl, ?_, B2.out.disked N8.out R8.out (rem_sane10 B2.out.sane), T2.out.then N8.out.turn (fun q hq => (hFd.out q hq).imp .inl id), fun q hq => (N8.out.foot q hq).elim (hFd.out q) (fun h => .inr (by omega)), hFg.out⟩;unfold Hid;rw [HST.out];unfold openStep;rw [hnum.out];dsimp only;rw [if_pos (by exact .inr (.inl HB1.out))]
      case measure => simp [intOf]; omega
     ·have hn1 : ((n : Int) < 1) = False := eq_false (by omega);by_cases b2 : 0 < XL
      ·have hx1 : ((0 : Int) < (XL : Int)) = True := eq_true (by omega);by_cases b3 : n = nx
       ·have hb3 : ((n : Int) != (nx : Int)) = false := by simp; omega
        have HNB := hide (show ¬ (false = true \/ n < 1 \/ (segs ≠ [] /\ n ≠ nx)) from fun h => h.elim (fun h => by cases h) (fun h => h.elim b1 (fun h => h.2 b3)));clear b3;go_wp2_with fail
        refine (rread_any Gd' dp room Lo t W2 B2.out.disk B2.out.sane).mono ?_;rintro e w3 ⟨v3, rfl, o3, k3⟩;obtain ⟨xs, hxs⟩ : ∃ xs, xs = (readL t.data.toList Lo).1 := ⟨_, rfl⟩;obtain ⟨re, hre⟩ : ∃ re, re = (readL t.data.toList Lo).2 := ⟨_, rfl⟩;rw [<- hre];rw [<- hxs] at o3;have hxl : xs.length <= 1073741824 := by rw [hxs]; exact read_len B2.out.sane _
        have hxb : ∀ x ∈ xs, x < 256 := by rw [hxs]; exact read_bytes B2.out.disk _
        obtain ⟨m3, hm3⟩ : ∃ m, m = xs.length := ⟨_, rfl⟩;obtain ⟨A3, cp3, rfl, -, -, -⟩ := o3.isB.form hm3.symm;obtain ⟨es, good, whole, hsg⟩ : ∃ es good whole, segL xs n = (es, good, whole) := ⟨_, _, _, rfl⟩;have HSG := hide (show segL (readL t.data.toList Lo).1 n = (es, good, whole) by rw [<- hxs]; exact hsg);have IS3 := hide o3.isB;have HM3 := hide hm3.symm;have HXB := hide hxb;have K3 := hide k3;have q3 := (k3.cell (p := ⟨g, j, none⟩) (cell_lt q2)).trans q2;have H3L : Hid (m3 <= 549755813888) := hide (by omega);have H3I : Hid (n <= 1099511627776) := hide (by omega);have HXL := hide hxl;clear o3 k3 hxs hre hxl hxb hm3;go_wp2_with fail
        refine (rseg_any A3 m3 cp3 xs n w3 IS3.out HM3.out HXB.out H3L.out H3I.out).mono ?_;rw [hsg];rintro e w4 ⟨v4, rfl, h4, k4⟩;obtain ⟨A4, cq, rfl, -, hlc4, hc4⟩ := h4.form;obtain ⟨n4, hn4⟩ : ∃ n4, n4 = es.length := ⟨_, rfl⟩;have H4 := hide h4;rw [<- hn4] at H4 hlc4 ⊢;have HN4 := hide hn4;have K4 := hide k4;have k5 := below_alloc w4 (.cells #[.int .i64 (n : Int), .slice A4 n4 cq] 156);have b5 := Blk.new w4 (B := 0) 156 #[.int .i64 (n : Int), .slice A4 n4 cq] (Nat.zero_le _);have q4 := (k4.cell (p := ⟨g, j, none⟩) (cell_lt q3)).trans q3;have q5 := (k5.cell (p := ⟨g, j, none⟩) (cell_lt q4)).trans q4;have KA := hide (K3.out.trans ((k4.trans (k5.mono k4.size)).mono K3.out.size));obtain ⟨hb, hhb⟩ : ∃ hb, hb = w4.heap.size := ⟨_, rfl⟩;have HHB := hide hhb;have B5 := hide (B2.out.below KA.out);have T5 := hide (T2.out.trans (Turn.of_below _ KA.out));clear h4 k4 k5 hn4 hhb q3 q4;have s0 : (w4.alloc (.cells #[.int .i64 (n : Int), .slice A4 n4 cq] 156)).cell? ⟨w4.heap.size, 0, none⟩ = some (.int .i64 (n : Int)) := b5.cell 0;have s1 : (w4.alloc (.cells #[.int .i64 (n : Int), .slice A4 n4 cq] 156)).cell? ⟨w4.heap.size, 1, none⟩ = some (.slice A4 n4 cq) := b5.cell 1;have BS := hide b5;clear b5;have H4L := hide (show n4 <= 1073741824 by have := HXL.out; have h9 := seg_count xs n; rw [hsg] at h9; have h9 : es.length <= xs.length := h9; have := HN4.out; omega);clear hsg;have hW2s := B2.out.log.low;have hD2s := B2.out.disk.low;have hsz3 := K3.out.size;have hsz4 : w3.heap.size <= w4.heap.size := K4.out.size;have hszA := KA.out.size;have hszT := T2.out.size;have RW5 := hide (((H4.out.rowsE (E := fun g => w3.heap.size <= g) (fun _ => id) (fun _ => id)).low).turn (S := fun _ => False) (Turn.of_below _ (below_alloc w4 (.cells #[.int .i64 (n : Int), .slice A4 n4 cq] 156))) (fun _ _ => id));have HGW := hide (fun (q : Nat) (hq : G q) => show q ≠ w4.heap.size from fun e => by have := hW2s q hq; omega);have HEA := hide (fun (q : Nat) (hq : w3.heap.size <= q /\ q < w4.heap.size) => show q < (w4.alloc (.cells #[.int .i64 (n : Int), .slice A4 n4 cq] 156)).heap.size /\ ¬ Gd' q /\ ¬ G q /\ w1.heap.size <= q from ⟨by simp; omega, fun h => by have := hD2s q h; omega, fun h => by have := hW2s q h; omega, by omega⟩);clear hW2s hD2s hsz3 hsz4 hszT;obtain ⟨w5, hw5⟩ : ∃ z, z = (w4.alloc (.cells #[.int .i64 (n : Int), .slice A4 n4 cq] 156)) := ⟨_, rfl⟩;cases whole with
        | true =>
         have HSC := hide (show openStep s.data.toList ⟨false, ⟨segs, nx, dy⟩, Lo⟩ t.data.toList = ⟨false, ⟨segs ++ [(n, es)], n + es.length, dy ++ [n]⟩, Lo⟩ by
          unfold openStep;rw [hnum.out];dsimp only;rw [if_neg HNB.out, HSG.out, if_pos rfl])
         go_wp2_with fail
         rw [<- hw5] at B5 T5 q5 s0 s1 BS RW5 HEA ⊢;clear hw5;obtain ⟨EC, vS, vD, X, e, hW⟩ := B5.out.log;simp only at e hW;obtain ⟨c0, c1, c2, c3, c4⟩ := hW.logCells;obtain ⟨AS, cS, eS, hlS, hcS, -, -⟩ := hW.row.form;subst eS;obtain ⟨XL2, hXL⟩ : ∃ XL, XL = X.length := ⟨_, rfl⟩;rw [<- hXL] at c2 hlS hW;have hX256 : XL2 <= 256 := by have h1 := HCNT.out.1; rw [e, List.length_map, <- hXL] at h1; exact h1
         have s0 : w5.cell? ⟨w4.heap.size, 0, none⟩ = some (.int .i64 (n : Int)) := BS.out.cell 0;have s1 : w5.cell? ⟨w4.heap.size, 1, none⟩ = some (.slice A4 n4 cq) := BS.out.cell 1;have HWW := hide hW;have HXX := hide hXL;have EE := hide e;have hlC := cell_lt c2;have HX256 := hide hX256;have kA := below_alloc w5 (.cells #[.int .i64 (n : Int), .slice A4 n4 cq] 156);have kD : Below w5.heap.size w5 (w5.drew.alloc (.cells #[.int .i64 (n : Int), .slice A4 n4 cq] 156)) := ⟨kA.os, kA.tape, kA.output, kA.size, kA.block⟩;have KD := hide kD;clear kA kD hW e hXL hlS hcS hX256;refine Ways.start (fun W => W.cell? ⟨l, 2, none⟩ = some (.slice AS XL2 cS) /\ W.cell? ⟨w4.heap.size, 0, none⟩ = some (.int .i64 (n : Int)) /\ W.cell? ⟨w4.heap.size, 1, none⟩ = some (.slice A4 n4 cq)) 10 11 #[false, false, false, false, false, false, false, false, false, false, false] (by kernel_rfl) (by kernel_rfl) (by kernel_rfl) ?_;have hHeld : w5.drew.cell? ⟨l, 2, none⟩ = some (.slice AS XL2 cS) /\ w5.drew.cell? ⟨w4.heap.size, 0, none⟩ = some (.int .i64 (n : Int)) /\ w5.drew.cell? ⟨w4.heap.size, 1, none⟩ = some (.slice A4 n4 cq) := ⟨c2, s0, s1⟩
         iterate 6
          first | refine' tkW 0 rfl hHeld rfl ?_ ?_ | refine' tkW 1 rfl hHeld rfl ?_ ?_ | refine' tkW 2 rfl hHeld rfl ?_ ?_ | refine' tkW 3 rfl hHeld rfl ?_ ?_ | refine' tkW 4 rfl hHeld rfl ?_ ?_ | refine' tkW 5 rfl hHeld rfl ?_ ?_
          rotate_left
          ·(intro W hW; (try dsimp only at hW); go_simp; (try with_reducible rfl))
          try simp only [Act.put, List.setIfInBounds_toArray, List.set_cons_zero, List.set_cons_succ]
         refine Ways.one (i := 6) (by kernel_rfl) rfl (fun K hK => ?_);go_simp;have x2 := (KD.out.cell (p := ⟨l, 2, none⟩) hlC).trans c2;have x5 := (KD.out.cell (p := ⟨w4.heap.size, 0, none⟩) (cell_lt s0)).trans s0;have x6 := (KD.out.cell (p := ⟨w4.heap.size, 1, none⟩) (cell_lt s1)).trans s1;refine hK.out _ _ ⟨x2, x5, x6⟩ ?_;clear hK hHeld
         (try simp only [List.setIfInBounds_toArray, List.set_cons_zero, List.set_cons_succ])
         refine Ways.one (i := 7) (by kernel_rfl) rfl (fun K hK => ?_);have R5 := HWW.out.below KD.out;have m0 : (w5.drew.alloc (.cells #[.int .i64 (n : Int), .slice A4 n4 cq] 156)).cell? ⟨w5.heap.size, 0, none⟩ = some (.int .i64 (n : Int)) := cell_two_0d w5.drew _ _ _;have m1 : (w5.drew.alloc (.cells #[.int .i64 (n : Int), .slice A4 n4 cq] 156)).cell? ⟨w5.heap.size, 1, none⟩ = some (.slice A4 n4 cq) := cell_two_1d w5.drew _ _ _;refine step_append_seg rfl (.tmp 118) (.tmp 120) rfl 0 (.slice AS XL2 cS) X (by rfl) R5.row w5.heap.size (n, .slice A4 n4 cq, es) (by rfl) m0 m1 rfl (by have := HX256.out; have := HXX.out; omega) (Nat.zero_le _) ?_;rintro vS' w7 o5 g5 hv5;have hvG : ∀ q, (Value.slice AS XL2 cS).ownBlock = some q -> G q := HWW.out.mineS;have R6 := R5.pushSeg (x := (n, .slice A4 n4 cq, es)) (E1 := (fun q => w3.heap.size <= q /\ q < w4.heap.size)) g5 o5 hv5 (RW5.out.turn (Turn.of_below (fun _ => False) KD.out) (fun _ _ => id)) (fun q hq => ⟨Nat.lt_of_lt_of_le (HEA.out q hq).1 KD.out.size, fun e => (HEA.out q hq).2.2.1 (by rw [e]; exact HWW.out.own), fun e => (HEA.out q hq).2.2.1 (hvG q e), fun e => (HEA.out q hq).2.2.1 (HWW.out.mineD q e)⟩);have hSl : (Value.slice AS XL2 cS).ownBlock ≠ some l := ownsRow_notIn R5.row R5.cells (by decide);have hc1 := R5.cells.turn (Turn.of_grown g5) (fun e => hSl e.symm);have b5 := (BS.out.turn (Turn.of_below (fun _ => False) KD.out) (fun h => h)).turn (Turn.of_grown g5) (fun e => HGW.out _ (hvG _ e.symm) rfl);have y2 : w7.cell? ⟨l, 2, none⟩ = some (.slice AS XL2 cS) := hc1.cell 2;have f2 := hc1.frozen 2;have y5 : w7.cell? ⟨w4.heap.size, 0, none⟩ = some (.int .i64 (n : Int)) := b5.cell 0;have y6 : w7.cell? ⟨w4.heap.size, 1, none⟩ = some (.slice A4 n4 cq) := b5.cell 1;obtain ⟨A7, c7, e7⟩ := row_form o5;obtain ⟨n7, hn7⟩ : ∃ n7, n7 = (X ++ [((n, Value.slice A4 n4 cq, es) : Sgx)]).length := ⟨_, rfl⟩;rw [<- hn7] at e7;subst e7;have hlw4 : w4.heap.size ≠ l := fun e => HGW.out l HWW.out.own e.symm
         have b6 := hide (b5.turn ((Turn.of_grown (grown_set w7 l 2 (.slice A7 n7 c7))).mono (S' := fun q => q = l) (fun q e => Option.some.inj e)) hlw4);have R6' := hide R6;have G5 := hide g5;refine hK.out _ _ ⟨y2, y5, y6⟩ ?_;clear hK R5 m0 m1 o5 g5 hv5 R6 hSl hc1 b5 hn7
         (try simp only [Act.put, List.setIfInBounds_toArray, List.set_cons_zero, List.set_cons_succ])
         refine Ways.one (i := 8) (by kernel_rfl) rfl (fun K hK => ?_);go_simp;refine hK.out _ _ ⟨y2, y5, y6⟩ ?_;clear hK
         (try simp only [List.setIfInBounds_toArray, List.set_cons_zero, List.set_cons_succ])
         refine Ways.one (i := 9) (by kernel_rfl) rfl (fun K hK => ?_);go_simp;refine hK.out _ _ ⟨y2, y5, y6⟩ ?_;clear hK
         (try simp only [List.setIfInBounds_toArray, List.set_cons_zero, List.set_cons_succ])
         refine Ways.last (by kernel_rfl) rfl (by kernel_rfl) (fun K hK => ?_);go_simp;refine hK.out _ _ ?_;clear hK;obtain ⟨W6, hW6⟩ : ∃ z, z = w7.setCell ⟨l, 2, none⟩ (.slice A7 n7 c7) := ⟨_, rfl⟩;have t6 : Turn G w7 W6 := by rw [hW6]; exact (Turn.of_grown (grown_set w7 l 2 (.slice A7 n7 c7))).mono (fun q e => by rw [Option.some.inj e]; exact HWW.out.own)
         rw [<- hW6] at R6' b6 ⊢;have T6 := hide t6;obtain ⟨d0, d1, d2', d3, d4⟩ := R6'.out.logCells;have z6 : W6.cell? ⟨w4.heap.size, 1, none⟩ = some (.slice A4 n4 cq) := b6.out.cell 1;have fz3 := R6'.out.cells.frozen 3;obtain ⟨nn, hnn⟩ : ∃ nn, nn = n + n4 := ⟨_, rfl⟩;have hwn : IntKind.i64.wrap ((n : Int) + (n4 : Int)) = (nn : Int) := by rw [IntKind.wrap_i64]; have := H4L.out; omega
         have R7 := hide (R6'.out.setNext nn);have v4' : (W6.setCell ⟨l, 3, none⟩ (.int .i64 (nn : Int))).cell? ⟨l, 4, none⟩ = some vD := R7.out.cells.cell 4;have HNN := hide hnn;clear hW6 t6 y2 y5 y6 f2 x2 x5 x6 hnn;go_wp2_with (at_builtin; refine halt ?_)
         refine ⟨wpList_of_step (fun K hK => ?_)⟩;have kB := below_alloc (W6.setCell ⟨l, 3, none⟩ (.int .i64 (nn : Int))) (.cells #[.int .i64 (n : Int)] 3);have R8 := R7.out.below kB;have hzz : (W6.setCell ⟨l, 3, none⟩ (.int .i64 (nn : Int))).heap.size = W6.heap.size := by simp
         have m5 := cell_new (W6.setCell ⟨l, 3, none⟩ (.int .i64 (nn : Int))) (.int .i64 (n : Int)) 3;rw [hzz] at m5;refine step_append_num rfl (.tmp 136) (.tmp 138) rfl 0 vD (dy.map fun n : Nat => (n : Int)) (by rfl) R8.dirt W6.heap.size (n : Int) (by rfl) m5 (by rw [List.length_map]; have h9 : dy.length <= 256 := HCNT.out.2; omega) (Nat.zero_le _) ?_;rintro vD' w9 o9 g9 hv9;have hDl : vD.ownBlock ≠ some l := ownsRow_notIn R8.dirt R8.cells (by decide);have R9 := hide (R8.pushDirty g9 o9 hv9);have hc9 := R8.cells.turn (Turn.of_grown g9) (fun e => hDl e.symm);have a4 : w9.cell? ⟨l, 4, none⟩ = some vD := hc9.cell 4;have fz4 := hc9.frozen 4;obtain ⟨AD, cD, eD⟩ := row_form o9;obtain ⟨nD, hnD⟩ : ∃ nD, nD = (dy.map (fun n : Nat => (n : Int)) ++ [(n : Int)]).length := ⟨_, rfl⟩;rw [<- hnD] at eD;subst eD;have G9 := hide g9;have KB := hide kB;refine hK.out _ _ ?_;clear hK o9 g9 hv9 R8 hc9 kB hnD hDl m5 hzz v4';simp only [Act.put, List.setIfInBounds_toArray, List.set_cons_zero, List.set_cons_succ];go_wp2_with fail
         go_roundw
         case rel =>
          have tA : Turn G w5 (w5.drew.alloc (.cells #[.int .i64 (n : Int), .slice A4 n4 cq] 156)) := Turn.of_below G KD.out;have tB := (Turn.of_grown G5.out).mono (S' := G) (fun q e => hvG q e.symm);have tC : Turn G W6 (W6.setCell ⟨l, 3, none⟩ (.int .i64 (nn : Int))) := (Turn.of_grown (grown_set W6 l 3 (.int .i64 (nn : Int)))).mono (fun q e => by rw [Option.some.inj e]; exact HWW.out.own);have tD := Turn.of_below G KB.out;have tE := (Turn.of_grown G9.out).mono (S' := G) (fun q e => HWW.out.mineD q e.symm);have tF : Turn G w9 (w9.setCell ⟨l, 4, none⟩ (.slice AD nD cD)) := (Turn.of_grown (grown_set w9 l 4 (.slice AD nD cD))).mono (fun q e => by rw [Option.some.inj e]; exact HWW.out.own);have tX := (((((tA.trans tB).trans T6.out).trans tC).trans tD).trans tE).trans tF;have z1 := tA.size;have z2 := tB.size;have z3 := T6.out.size;have z4 := tC.size;have z5 := T5.out.size;have z7 := KB.out.size;have z9 : (w5.drew.alloc (.cells #[.int .i64 (n : Int), .slice A4 n4 cq] 156)).heap.size = (w5.alloc (.cells #[.int .i64 (n : Int), .slice A4 n4 cq] 156)).drew.heap.size := rfl;have hLg : ∃ G', RLogAt (w9.setCell ⟨l, 4, none⟩ (.slice AD nD cD)) G' l dp s ⟨segs ++ [(n, es)], nn, dy ++ [n]⟩ /\ ∀ q, G' q -> G q \/ (w3.heap.size <= q /\ q < w4.heap.size) \/ w5.heap.size <= q := by
           refine ⟨_, ⟨_, _, _, _, ?_, R9.out⟩, fun q h5 => ?_⟩
           ·show segs ++ [(n, es)] = _
            rw [EE.out];simp
           ·rcases h5 with (h5 | h5 | h5) | h5
            ·exact .inl h5
            ·exact .inr (.inl h5)
            ·exact .inr (.inr (by omega))
            ·exact .inr (.inr (by omega))
          obtain ⟨G5', hL5, hG5⟩ := hLg;refine ⟨j + 1, Gd', G5', ⟨false, ⟨segs ++ [(n, es)], nn, dy ++ [n]⟩, Lo⟩, by omega, by go_num, rfl, ?_, ⟨B5.out.disk.turn tX B5.out.apart, hL5, fun q h4 h5 => ?_, B5.out.sane⟩, T5.out.then tX (fun q hq => (hFg.out q hq).elim (fun h => .inl (.inr h)) .inr), hFd.out, fun q h5 => ?_⟩
          ·unfold Hid;rw [HST.out, HSC.out, HNN.out, HN4.out]
          ·have := B5.out.disk.low q h4;rcases hG5 q h5 with h5 | h5 | h5
           ·exact B5.out.apart q h4 h5
           ·exact (HEA.out q h5).2.1 h4
           ·omega
          ·rcases hG5 q h5 with h5 | h5 | h5
           ·exact hFg.out q h5
           ·exact .inr (HEA.out q h5).2.2.2
           ·exact .inr (by omega)
         case measure => simp [intOf]; omega
        | false =>
         by_cases hg0 : good = 0
         ·subst hg0;go_wp2_with fail
          rw [<- hw5] at B5 T5 q5 s0 s1 BS RW5 HEA ⊢;refine (rremove_at Gd' dp room Lo t _ B5.out.disk B5.out.sane).mono ?_;rintro e w8 ⟨rfl, G8, r8, n8⟩;have B8 := hide (B5.out.disked n8 r8 (rem_sane10 B5.out.sane));have N8 := hide n8;clear r8 n8 hw5;obtain ⟨E8, vS8, vD8, X8, e8, h8⟩ := B8.out.log;obtain ⟨g0, g1, g2, g3, g4⟩ := h8.logCells;obtain ⟨A8, c8, e8', -, -, -, -⟩ := h8.row.form;subst e8';obtain ⟨XL8, hXL8⟩ : ∃ XL, XL = X8.length := ⟨_, rfl⟩;rw [<- hXL8] at g2;clear h8 e8 hXL8;have hSC : openStep s.data.toList ⟨false, ⟨segs, nx, dy⟩, Lo⟩ t.data.toList = ⟨true, ⟨segs, nx, dy⟩, (remL t.data.toList Lo).1⟩ := by
           unfold openStep;rw [hnum.out];dsimp only;rw [if_neg HNB.out, HSG.out, if_neg (show ¬ (false = true) from fun h => by cases h), if_pos rfl]
          have HSC := hide hSC;clear hSC;by_cases hxz : XL8 = 0
          ·have hxz1 : ((XL8 : Int) == 0) = true := by rw [hxz]; rfl
           clear hxz;go_wp2_with fail
           go_roundw
           case rel =>
            have hTs := T5.out.size;refine ⟨j + 1, G8, G, ⟨true, ⟨segs, nx, dy⟩, (remL t.data.toList Lo).1⟩, by omega, by go_num, rfl, ?_, B8.out, T5.out.then N8.out.turn (fun q hq => (hFd.out q hq).imp .inl id), fun q hq => (N8.out.foot q hq).elim (hFd.out q) (fun h => .inr (by omega)), hFg.out⟩;unfold Hid;rw [HST.out, HSC.out]
           case measure => simp [intOf]; omega
          ·have hxz1 : ((XL8 : Int) == 0) = false := by simp; omega
           clear hxz;go_wp2_with fail
           go_roundw
           case rel =>
            have hTs := T5.out.size;refine ⟨j + 1, G8, G, ⟨true, ⟨segs, nx, dy⟩, (remL t.data.toList Lo).1⟩, by omega, by go_num, rfl, ?_, B8.out, T5.out.then N8.out.turn (fun q hq => (hFd.out q hq).imp .inl id), fun q hq => (N8.out.foot q hq).elim (hFd.out q) (fun h => .inr (by omega)), hFg.out⟩;unfold Hid;rw [HST.out, HSC.out]
           case measure => simp [intOf]; omega
         ·have hg1 : ((good : Int) == 0) = false := by simp; omega
          have HSC := hide (show openStep s.data.toList ⟨false, ⟨segs, nx, dy⟩, Lo⟩ t.data.toList = ⟨true, ⟨segs ++ [(n, es)], n + es.length, dy ++ [n]⟩, (cutL t.data.toList (good : Int) Lo).1⟩ by
           unfold openStep;rw [hnum.out];dsimp only;rw [if_neg HNB.out, HSG.out, if_neg (show ¬ (false = true) from fun h => by cases h), if_neg hg0])
          clear hg0;go_wp2_with fail
          rw [<- hw5] at B5 T5 q5 s0 s1 BS RW5 HEA ⊢;refine (rcut_any Gd' dp room Lo t _ B5.out.disk B5.out.sane (good : Int)).mono ?_;rintro e w6 ⟨rfl, G8, r8, n8⟩;have B8 := hide (B5.out.disked n8 r8 (cut_sane10 B5.out.sane));have hz45 : w4.heap.size < w5.heap.size := by rw [hw5]; simp
          have T8 := hide (T5.out.then n8.turn (fun q hq => (hFd.out q hq).imp .inl id));have hTs := T5.out.size;have F8 := hide (fun (q : Nat) (hq : G8 q) => (n8.foot q hq).elim (hFd.out q) (fun h => .inr (show w1.heap.size <= q by omega)));have hgw4 : ¬ Gd' w4.heap.size := fun h => by have := B2.out.disk.low _ h; have := K3.out.size; have := K4.out.size; omega
          have BS8 := hide (BS.out.turn n8.turn hgw4);have RW8 := hide (RW5.out.turn n8.turn (fun q hq hd => (HEA.out q hq).2.1 hd));have HE8 := hide (fun (q : Nat) (hq : w3.heap.size <= q /\ q < w4.heap.size) => show q < w6.heap.size /\ ¬ G8 q /\ ¬ G q /\ w1.heap.size <= q from ⟨Nat.lt_of_lt_of_le (HEA.out q hq).1 n8.turn.size, fun h => (n8.foot q h).elim (HEA.out q hq).2.1 (fun h => by omega), (HEA.out q hq).2.2⟩);clear r8 n8 hw5 hgw4 s0 s1;go_wp2_with fail
          obtain ⟨EC, vS, vD, X, e, hW⟩ := B8.out.log;simp only at e hW;obtain ⟨c0, c1, c2, c3, c4⟩ := hW.logCells;obtain ⟨AS, cS, eS, hlS, hcS, -, -⟩ := hW.row.form;subst eS;obtain ⟨XL2, hXL⟩ : ∃ XL, XL = X.length := ⟨_, rfl⟩;rw [<- hXL] at c2 hlS hW;have hX256 : XL2 <= 256 := by have h1 := HCNT.out.1; rw [e, List.length_map, <- hXL] at h1; exact h1
          have s0 : w6.cell? ⟨w4.heap.size, 0, none⟩ = some (.int .i64 (n : Int)) := BS8.out.cell 0;have s1 : w6.cell? ⟨w4.heap.size, 1, none⟩ = some (.slice A4 n4 cq) := BS8.out.cell 1;have HWW := hide hW;have HXX := hide hXL;have EE := hide e;have hlC := cell_lt c2;have HX256 := hide hX256;have kA := below_alloc w6 (.cells #[.int .i64 (n : Int), .slice A4 n4 cq] 156);have kD : Below w6.heap.size w6 (w6.drew.alloc (.cells #[.int .i64 (n : Int), .slice A4 n4 cq] 156)) := ⟨kA.os, kA.tape, kA.output, kA.size, kA.block⟩;have KD := hide kD;clear kA kD hW e hXL hlS hcS hX256;refine Ways.start (fun W => W.cell? ⟨l, 2, none⟩ = some (.slice AS XL2 cS) /\ W.cell? ⟨w4.heap.size, 0, none⟩ = some (.int .i64 (n : Int)) /\ W.cell? ⟨w4.heap.size, 1, none⟩ = some (.slice A4 n4 cq)) 10 11 #[false, false, false, false, false, false, false, false, false, false, false] (by kernel_rfl) (by kernel_rfl) (by kernel_rfl) ?_;have hHeld : w6.drew.cell? ⟨l, 2, none⟩ = some (.slice AS XL2 cS) /\ w6.drew.cell? ⟨w4.heap.size, 0, none⟩ = some (.int .i64 (n : Int)) /\ w6.drew.cell? ⟨w4.heap.size, 1, none⟩ = some (.slice A4 n4 cq) := ⟨c2, s0, s1⟩
          iterate 6
           first | refine' tkW 0 rfl hHeld rfl ?_ ?_ | refine' tkW 1 rfl hHeld rfl ?_ ?_ | refine' tkW 2 rfl hHeld rfl ?_ ?_ | refine' tkW 3 rfl hHeld rfl ?_ ?_ | refine' tkW 4 rfl hHeld rfl ?_ ?_ | refine' tkW 5 rfl hHeld rfl ?_ ?_
           rotate_left
           ·(intro W hW; (try dsimp only at hW); go_simp; (try with_reducible rfl))
           try simp only [Act.put, List.setIfInBounds_toArray, List.set_cons_zero, List.set_cons_succ]
          refine Ways.one (i := 6) (by kernel_rfl) rfl (fun K hK => ?_);go_simp;have x2 := (KD.out.cell (p := ⟨l, 2, none⟩) hlC).trans c2;have x5 := (KD.out.cell (p := ⟨w4.heap.size, 0, none⟩) (cell_lt s0)).trans s0;have x6 := (KD.out.cell (p := ⟨w4.heap.size, 1, none⟩) (cell_lt s1)).trans s1;refine hK.out _ _ ⟨x2, x5, x6⟩ ?_;clear hK hHeld
          (try simp only [List.setIfInBounds_toArray, List.set_cons_zero, List.set_cons_succ])
          refine Ways.one (i := 7) (by kernel_rfl) rfl (fun K hK => ?_);have R5 := HWW.out.below KD.out;have m0 : (w6.drew.alloc (.cells #[.int .i64 (n : Int), .slice A4 n4 cq] 156)).cell? ⟨w6.heap.size, 0, none⟩ = some (.int .i64 (n : Int)) := cell_two_0d w6.drew _ _ _;have m1 : (w6.drew.alloc (.cells #[.int .i64 (n : Int), .slice A4 n4 cq] 156)).cell? ⟨w6.heap.size, 1, none⟩ = some (.slice A4 n4 cq) := cell_two_1d w6.drew _ _ _;refine step_append_seg rfl (.tmp 118) (.tmp 120) rfl 0 (.slice AS XL2 cS) X (by rfl) R5.row w6.heap.size (n, .slice A4 n4 cq, es) (by rfl) m0 m1 rfl (by have := HX256.out; have := HXX.out; omega) (Nat.zero_le _) ?_;rintro vS' w7 o5 g5 hv5;have hvG : ∀ q, (Value.slice AS XL2 cS).ownBlock = some q -> G q := HWW.out.mineS;have R6 := R5.pushSeg (x := (n, .slice A4 n4 cq, es)) (E1 := (fun q => w3.heap.size <= q /\ q < w4.heap.size)) g5 o5 hv5 (RW8.out.turn (Turn.of_below (fun _ => False) KD.out) (fun _ _ => id)) (fun q hq => ⟨Nat.lt_of_lt_of_le (HE8.out q hq).1 KD.out.size, fun e => (HE8.out q hq).2.2.1 (by rw [e]; exact HWW.out.own), fun e => (HE8.out q hq).2.2.1 (hvG q e), fun e => (HE8.out q hq).2.2.1 (HWW.out.mineD q e)⟩);have hSl : (Value.slice AS XL2 cS).ownBlock ≠ some l := ownsRow_notIn R5.row R5.cells (by decide);have hc1 := R5.cells.turn (Turn.of_grown g5) (fun e => hSl e.symm);have b5 := (BS8.out.turn (Turn.of_below (fun _ => False) KD.out) (fun h => h)).turn (Turn.of_grown g5) (fun e => HGW.out _ (hvG _ e.symm) rfl);have y2 : w7.cell? ⟨l, 2, none⟩ = some (.slice AS XL2 cS) := hc1.cell 2;have f2 := hc1.frozen 2;have y5 : w7.cell? ⟨w4.heap.size, 0, none⟩ = some (.int .i64 (n : Int)) := b5.cell 0;have y6 : w7.cell? ⟨w4.heap.size, 1, none⟩ = some (.slice A4 n4 cq) := b5.cell 1;obtain ⟨A7, c7, e7⟩ := row_form o5;obtain ⟨n7, hn7⟩ : ∃ n7, n7 = (X ++ [((n, Value.slice A4 n4 cq, es) : Sgx)]).length := ⟨_, rfl⟩;rw [<- hn7] at e7;subst e7;have hlw4 : w4.heap.size ≠ l := fun e => HGW.out l HWW.out.own e.symm
          have b6 := hide (b5.turn ((Turn.of_grown (grown_set w7 l 2 (.slice A7 n7 c7))).mono (S' := fun q => q = l) (fun q e => Option.some.inj e)) hlw4);have R6' := hide R6;have G5 := hide g5;refine hK.out _ _ ⟨y2, y5, y6⟩ ?_;clear hK R5 m0 m1 o5 g5 hv5 R6 hSl hc1 b5 hn7
          (try simp only [Act.put, List.setIfInBounds_toArray, List.set_cons_zero, List.set_cons_succ])
          refine Ways.one (i := 8) (by kernel_rfl) rfl (fun K hK => ?_);go_simp;refine hK.out _ _ ⟨y2, y5, y6⟩ ?_;clear hK
          (try simp only [List.setIfInBounds_toArray, List.set_cons_zero, List.set_cons_succ])
          refine Ways.one (i := 9) (by kernel_rfl) rfl (fun K hK => ?_);go_simp;refine hK.out _ _ ⟨y2, y5, y6⟩ ?_;clear hK
          (try simp only [List.setIfInBounds_toArray, List.set_cons_zero, List.set_cons_succ])
          refine Ways.last (by kernel_rfl) rfl (by kernel_rfl) (fun K hK => ?_);go_simp;refine hK.out _ _ ?_;clear hK;obtain ⟨W6, hW6⟩ : ∃ z, z = w7.setCell ⟨l, 2, none⟩ (.slice A7 n7 c7) := ⟨_, rfl⟩;have t6 : Turn G w7 W6 := by rw [hW6]; exact (Turn.of_grown (grown_set w7 l 2 (.slice A7 n7 c7))).mono (fun q e => by rw [Option.some.inj e]; exact HWW.out.own)
          rw [<- hW6] at R6' b6 ⊢;have T6 := hide t6;obtain ⟨d0, d1, d2', d3, d4⟩ := R6'.out.logCells;have z6 : W6.cell? ⟨w4.heap.size, 1, none⟩ = some (.slice A4 n4 cq) := b6.out.cell 1;have fz3 := R6'.out.cells.frozen 3;obtain ⟨nn, hnn⟩ : ∃ nn, nn = n + n4 := ⟨_, rfl⟩;have hwn : IntKind.i64.wrap ((n : Int) + (n4 : Int)) = (nn : Int) := by rw [IntKind.wrap_i64]; have := H4L.out; omega
          have R7 := hide (R6'.out.setNext nn);have v4' : (W6.setCell ⟨l, 3, none⟩ (.int .i64 (nn : Int))).cell? ⟨l, 4, none⟩ = some vD := R7.out.cells.cell 4;have HNN := hide hnn;clear hW6 t6 y2 y5 y6 f2 x2 x5 x6 hnn;go_wp2_with (at_builtin; refine halt ?_)
          refine ⟨wpList_of_step (fun K hK => ?_)⟩;have kB := below_alloc (W6.setCell ⟨l, 3, none⟩ (.int .i64 (nn : Int))) (.cells #[.int .i64 (n : Int)] 3);have R8 := R7.out.below kB;have hzz : (W6.setCell ⟨l, 3, none⟩ (.int .i64 (nn : Int))).heap.size = W6.heap.size := by simp
          have m5 := cell_new (W6.setCell ⟨l, 3, none⟩ (.int .i64 (nn : Int))) (.int .i64 (n : Int)) 3;rw [hzz] at m5;refine step_append_num rfl (.tmp 136) (.tmp 138) rfl 0 vD (dy.map fun n : Nat => (n : Int)) (by rfl) R8.dirt W6.heap.size (n : Int) (by rfl) m5 (by rw [List.length_map]; have h9 : dy.length <= 256 := HCNT.out.2; omega) (Nat.zero_le _) ?_;rintro vD' w9 o9 g9 hv9;have hDl : vD.ownBlock ≠ some l := ownsRow_notIn R8.dirt R8.cells (by decide);have R9 := hide (R8.pushDirty g9 o9 hv9);have hc9 := R8.cells.turn (Turn.of_grown g9) (fun e => hDl e.symm);have a4 : w9.cell? ⟨l, 4, none⟩ = some vD := hc9.cell 4;have fz4 := hc9.frozen 4;obtain ⟨AD, cD, eD⟩ := row_form o9;obtain ⟨nD, hnD⟩ : ∃ nD, nD = (dy.map (fun n : Nat => (n : Int)) ++ [(n : Int)]).length := ⟨_, rfl⟩;rw [<- hnD] at eD;subst eD;have G9 := hide g9;have KB := hide kB;refine hK.out _ _ ?_;clear hK o9 g9 hv9 R8 hc9 kB hnD hDl m5 hzz v4';simp only [Act.put, List.setIfInBounds_toArray, List.set_cons_zero, List.set_cons_succ];go_wp2_with fail
          go_roundw
          case rel =>
           have tA : Turn G w6 (w6.drew.alloc (.cells #[.int .i64 (n : Int), .slice A4 n4 cq] 156)) := Turn.of_below G KD.out;have tB := (Turn.of_grown G5.out).mono (S' := G) (fun q e => hvG q e.symm);have tC : Turn G W6 (W6.setCell ⟨l, 3, none⟩ (.int .i64 (nn : Int))) := (Turn.of_grown (grown_set W6 l 3 (.int .i64 (nn : Int)))).mono (fun q e => by rw [Option.some.inj e]; exact HWW.out.own);have tD := Turn.of_below G KB.out;have tE := (Turn.of_grown G9.out).mono (S' := G) (fun q e => HWW.out.mineD q e.symm);have tF : Turn G w9 (w9.setCell ⟨l, 4, none⟩ (.slice AD nD cD)) := (Turn.of_grown (grown_set w9 l 4 (.slice AD nD cD))).mono (fun q e => by rw [Option.some.inj e]; exact HWW.out.own);have tX := (((((tA.trans tB).trans T6.out).trans tC).trans tD).trans tE).trans tF;have z1 := tA.size;have z2 := tB.size;have z3 := T6.out.size;have z4 := tC.size;have z5 := T8.out.size;have z7 := KB.out.size;have z9 : (w6.drew.alloc (.cells #[.int .i64 (n : Int), .slice A4 n4 cq] 156)).heap.size = (w6.alloc (.cells #[.int .i64 (n : Int), .slice A4 n4 cq] 156)).drew.heap.size := rfl;have hLg : ∃ G', RLogAt (w9.setCell ⟨l, 4, none⟩ (.slice AD nD cD)) G' l dp s ⟨segs ++ [(n, es)], nn, dy ++ [n]⟩ /\ ∀ q, G' q -> G q \/ (w3.heap.size <= q /\ q < w4.heap.size) \/ w6.heap.size <= q := by
            refine ⟨_, ⟨_, _, _, _, ?_, R9.out⟩, fun q h5 => ?_⟩
            ·show segs ++ [(n, es)] = _
             rw [EE.out];simp
            ·rcases h5 with (h5 | h5 | h5) | h5
             ·exact .inl h5
             ·exact .inr (.inl h5)
             ·exact .inr (.inr (by omega))
             ·exact .inr (.inr (by omega))
           obtain ⟨G5', hL5, hG5⟩ := hLg;refine ⟨j + 1, G8, G5', ⟨true, ⟨segs ++ [(n, es)], nn, dy ++ [n]⟩, (cutL t.data.toList (good : Int) Lo).1⟩, by omega, by go_num, rfl, ?_, ⟨B8.out.disk.turn tX B8.out.apart, hL5, fun q h4 h5 => ?_, B8.out.sane⟩, T8.out.then tX (fun q hq => (hFg.out q hq).elim (fun h => .inl (.inr h)) .inr), F8.out, fun q h5 => ?_⟩
           ·unfold Hid;rw [HST.out, HSC.out, HNN.out, HN4.out]
           ·have := B8.out.disk.low q h4;rcases hG5 q h5 with h5 | h5 | h5
            ·exact B8.out.apart q h4 h5
            ·exact (HE8.out q h5).2.1 h4
            ·omega
           ·rcases hG5 q h5 with h5 | h5 | h5
            ·exact hFg.out q h5
            ·exact .inr (HE8.out q h5).2.2.2
            ·exact .inr (by omega)
          case measure => simp [intOf]; omega
       ·have hb3 : ((n : Int) != (nx : Int)) = true := by simp; omega
        have HB3 := hide b3;have HB2 := hide b2;clear b3;go_wp2_with fail
        refine (rremove_at Gd' dp room Lo t _ B2.out.disk B2.out.sane).mono ?_;rintro e w8 ⟨rfl, G8, r8, n8⟩;have R8 := hide r8;have N8 := hide n8;clear r8 n8;go_wp2_with fail
        go_roundw
        case rel =>
         have hTs := T2.out.size;refine ⟨j + 1, G8, G, ⟨true, ⟨segs, nx, dy⟩, (remL t.data.toList Lo).1⟩, by omega, by go_num, rfl, ?_, B2.out.disked N8.out R8.out (rem_sane10 B2.out.sane), T2.out.then N8.out.turn (fun q hq => (hFd.out q hq).imp .inl id), fun q hq => (N8.out.foot q hq).elim (hFd.out q) (fun h => .inr (by omega)), hFg.out⟩;unfold Hid;rw [HST.out];unfold openStep;rw [hnum.out];dsimp only;rw [if_pos (by exact .inr (.inr ⟨HNE.out.2 HB2.out, HB3.out⟩))]
        case measure => simp [intOf]; omega
      ·have hx1 : ((0 : Int) < (XL : Int)) = False := eq_false (by omega);have HNB := hide (show ¬ (false = true \/ n < 1 \/ (segs ≠ [] /\ n ≠ nx)) from fun h => h.elim (fun h => by cases h) (fun h => h.elim b1 (fun h => b2 (HNE.out.1 h.1))));go_wp2_with fail
       refine (rread_any Gd' dp room Lo t W2 B2.out.disk B2.out.sane).mono ?_;rintro e w3 ⟨v3, rfl, o3, k3⟩;obtain ⟨xs, hxs⟩ : ∃ xs, xs = (readL t.data.toList Lo).1 := ⟨_, rfl⟩;obtain ⟨re, hre⟩ : ∃ re, re = (readL t.data.toList Lo).2 := ⟨_, rfl⟩;rw [<- hre];rw [<- hxs] at o3;have hxl : xs.length <= 1073741824 := by rw [hxs]; exact read_len B2.out.sane _
       have hxb : ∀ x ∈ xs, x < 256 := by rw [hxs]; exact read_bytes B2.out.disk _
       obtain ⟨m3, hm3⟩ : ∃ m, m = xs.length := ⟨_, rfl⟩;obtain ⟨A3, cp3, rfl, -, -, -⟩ := o3.isB.form hm3.symm;obtain ⟨es, good, whole, hsg⟩ : ∃ es good whole, segL xs n = (es, good, whole) := ⟨_, _, _, rfl⟩;have HSG := hide (show segL (readL t.data.toList Lo).1 n = (es, good, whole) by rw [<- hxs]; exact hsg);have IS3 := hide o3.isB;have HM3 := hide hm3.symm;have HXB := hide hxb;have K3 := hide k3;have q3 := (k3.cell (p := ⟨g, j, none⟩) (cell_lt q2)).trans q2;have H3L : Hid (m3 <= 549755813888) := hide (by omega);have H3I : Hid (n <= 1099511627776) := hide (by omega);have HXL := hide hxl;clear o3 k3 hxs hre hxl hxb hm3;go_wp2_with fail
       refine (rseg_any A3 m3 cp3 xs n w3 IS3.out HM3.out HXB.out H3L.out H3I.out).mono ?_;rw [hsg];rintro e w4 ⟨v4, rfl, h4, k4⟩;obtain ⟨A4, cq, rfl, -, hlc4, hc4⟩ := h4.form;obtain ⟨n4, hn4⟩ : ∃ n4, n4 = es.length := ⟨_, rfl⟩;have H4 := hide h4;rw [<- hn4] at H4 hlc4 ⊢;have HN4 := hide hn4;have K4 := hide k4;have k5 := below_alloc w4 (.cells #[.int .i64 (n : Int), .slice A4 n4 cq] 156);have b5 := Blk.new w4 (B := 0) 156 #[.int .i64 (n : Int), .slice A4 n4 cq] (Nat.zero_le _);have q4 := (k4.cell (p := ⟨g, j, none⟩) (cell_lt q3)).trans q3;have q5 := (k5.cell (p := ⟨g, j, none⟩) (cell_lt q4)).trans q4;have KA := hide (K3.out.trans ((k4.trans (k5.mono k4.size)).mono K3.out.size));obtain ⟨hb, hhb⟩ : ∃ hb, hb = w4.heap.size := ⟨_, rfl⟩;have HHB := hide hhb;have B5 := hide (B2.out.below KA.out);have T5 := hide (T2.out.trans (Turn.of_below _ KA.out));clear h4 k4 k5 hn4 hhb q3 q4;have s0 : (w4.alloc (.cells #[.int .i64 (n : Int), .slice A4 n4 cq] 156)).cell? ⟨w4.heap.size, 0, none⟩ = some (.int .i64 (n : Int)) := b5.cell 0;have s1 : (w4.alloc (.cells #[.int .i64 (n : Int), .slice A4 n4 cq] 156)).cell? ⟨w4.heap.size, 1, none⟩ = some (.slice A4 n4 cq) := b5.cell 1;have BS := hide b5;clear b5;have H4L := hide (show n4 <= 1073741824 by have := HXL.out; have h9 := seg_count xs n; rw [hsg] at h9; have h9 : es.length <= xs.length := h9; have := HN4.out; omega);clear hsg;have hW2s := B2.out.log.low;have hD2s := B2.out.disk.low;have hsz3 := K3.out.size;have hsz4 : w3.heap.size <= w4.heap.size := K4.out.size;have hszA := KA.out.size;have hszT := T2.out.size;have RW5 := hide (((H4.out.rowsE (E := fun g => w3.heap.size <= g) (fun _ => id) (fun _ => id)).low).turn (S := fun _ => False) (Turn.of_below _ (below_alloc w4 (.cells #[.int .i64 (n : Int), .slice A4 n4 cq] 156))) (fun _ _ => id));have HGW := hide (fun (q : Nat) (hq : G q) => show q ≠ w4.heap.size from fun e => by have := hW2s q hq; omega);have HEA := hide (fun (q : Nat) (hq : w3.heap.size <= q /\ q < w4.heap.size) => show q < (w4.alloc (.cells #[.int .i64 (n : Int), .slice A4 n4 cq] 156)).heap.size /\ ¬ Gd' q /\ ¬ G q /\ w1.heap.size <= q from ⟨by simp; omega, fun h => by have := hD2s q h; omega, fun h => by have := hW2s q h; omega, by omega⟩);clear hW2s hD2s hsz3 hsz4 hszT;obtain ⟨w5, hw5⟩ : ∃ z, z = (w4.alloc (.cells #[.int .i64 (n : Int), .slice A4 n4 cq] 156)) := ⟨_, rfl⟩;cases whole with
       | true =>
        have HSC := hide (show openStep s.data.toList ⟨false, ⟨segs, nx, dy⟩, Lo⟩ t.data.toList = ⟨false, ⟨segs ++ [(n, es)], n + es.length, dy ++ [n]⟩, Lo⟩ by
         unfold openStep;rw [hnum.out];dsimp only;rw [if_neg HNB.out, HSG.out, if_pos rfl])
        go_wp2_with fail
        rw [<- hw5] at B5 T5 q5 s0 s1 BS RW5 HEA ⊢;clear hw5;obtain ⟨EC, vS, vD, X, e, hW⟩ := B5.out.log;simp only at e hW;obtain ⟨c0, c1, c2, c3, c4⟩ := hW.logCells;obtain ⟨AS, cS, eS, hlS, hcS, -, -⟩ := hW.row.form;subst eS;obtain ⟨XL2, hXL⟩ : ∃ XL, XL = X.length := ⟨_, rfl⟩;rw [<- hXL] at c2 hlS hW;have hX256 : XL2 <= 256 := by have h1 := HCNT.out.1; rw [e, List.length_map, <- hXL] at h1; exact h1
        have s0 : w5.cell? ⟨w4.heap.size, 0, none⟩ = some (.int .i64 (n : Int)) := BS.out.cell 0;have s1 : w5.cell? ⟨w4.heap.size, 1, none⟩ = some (.slice A4 n4 cq) := BS.out.cell 1;have HWW := hide hW;have HXX := hide hXL;have EE := hide e;have hlC := cell_lt c2;have HX256 := hide hX256;have kA := below_alloc w5 (.cells #[.int .i64 (n : Int), .slice A4 n4 cq] 156);have kD : Below w5.heap.size w5 (w5.drew.alloc (.cells #[.int .i64 (n : Int), .slice A4 n4 cq] 156)) := ⟨kA.os, kA.tape, kA.output, kA.size, kA.block⟩;have KD := hide kD;clear kA kD hW e hXL hlS hcS hX256;refine Ways.start (fun W => W.cell? ⟨l, 2, none⟩ = some (.slice AS XL2 cS) /\ W.cell? ⟨w4.heap.size, 0, none⟩ = some (.int .i64 (n : Int)) /\ W.cell? ⟨w4.heap.size, 1, none⟩ = some (.slice A4 n4 cq)) 10 11 #[false, false, false, false, false, false, false, false, false, false, false] (by kernel_rfl) (by kernel_rfl) (by kernel_rfl) ?_;have hHeld : w5.drew.cell? ⟨l, 2, none⟩ = some (.slice AS XL2 cS) /\ w5.drew.cell? ⟨w4.heap.size, 0, none⟩ = some (.int .i64 (n : Int)) /\ w5.drew.cell? ⟨w4.heap.size, 1, none⟩ = some (.slice A4 n4 cq) := ⟨c2, s0, s1⟩
        iterate 6
         first | refine' tkW 0 rfl hHeld rfl ?_ ?_ | refine' tkW 1 rfl hHeld rfl ?_ ?_ | refine' tkW 2 rfl hHeld rfl ?_ ?_ | refine' tkW 3 rfl hHeld rfl ?_ ?_ | refine' tkW 4 rfl hHeld rfl ?_ ?_ | refine' tkW 5 rfl hHeld rfl ?_ ?_
         rotate_left
         ·(intro W hW; (try dsimp only at hW); go_simp; (try with_reducible rfl))
         try simp only [Act.put, List.setIfInBounds_toArray, List.set_cons_zero, List.set_cons_succ]
        refine Ways.one (i := 6) (by kernel_rfl) rfl (fun K hK => ?_);go_simp;have x2 := (KD.out.cell (p := ⟨l, 2, none⟩) hlC).trans c2;have x5 := (KD.out.cell (p := ⟨w4.heap.size, 0, none⟩) (cell_lt s0)).trans s0;have x6 := (KD.out.cell (p := ⟨w4.heap.size, 1, none⟩) (cell_lt s1)).trans s1;refine hK.out _ _ ⟨x2, x5, x6⟩ ?_;clear hK hHeld
        (try simp only [List.setIfInBounds_toArray, List.set_cons_zero, List.set_cons_succ])
        refine Ways.one (i := 7) (by kernel_rfl) rfl (fun K hK => ?_);have R5 := HWW.out.below KD.out;have m0 : (w5.drew.alloc (.cells #[.int .i64 (n : Int), .slice A4 n4 cq] 156)).cell? ⟨w5.heap.size, 0, none⟩ = some (.int .i64 (n : Int)) := cell_two_0d w5.drew _ _ _;have m1 : (w5.drew.alloc (.cells #[.int .i64 (n : Int), .slice A4 n4 cq] 156)).cell? ⟨w5.heap.size, 1, none⟩ = some (.slice A4 n4 cq) := cell_two_1d w5.drew _ _ _;refine step_append_seg rfl (.tmp 118) (.tmp 120) rfl 0 (.slice AS XL2 cS) X (by rfl) R5.row w5.heap.size (n, .slice A4 n4 cq, es) (by rfl) m0 m1 rfl (by have := HX256.out; have := HXX.out; omega) (Nat.zero_le _) ?_;rintro vS' w7 o5 g5 hv5;have hvG : ∀ q, (Value.slice AS XL2 cS).ownBlock = some q -> G q := HWW.out.mineS;have R6 := R5.pushSeg (x := (n, .slice A4 n4 cq, es)) (E1 := (fun q => w3.heap.size <= q /\ q < w4.heap.size)) g5 o5 hv5 (RW5.out.turn (Turn.of_below (fun _ => False) KD.out) (fun _ _ => id)) (fun q hq => ⟨Nat.lt_of_lt_of_le (HEA.out q hq).1 KD.out.size, fun e => (HEA.out q hq).2.2.1 (by rw [e]; exact HWW.out.own), fun e => (HEA.out q hq).2.2.1 (hvG q e), fun e => (HEA.out q hq).2.2.1 (HWW.out.mineD q e)⟩);have hSl : (Value.slice AS XL2 cS).ownBlock ≠ some l := ownsRow_notIn R5.row R5.cells (by decide);have hc1 := R5.cells.turn (Turn.of_grown g5) (fun e => hSl e.symm);have b5 := (BS.out.turn (Turn.of_below (fun _ => False) KD.out) (fun h => h)).turn (Turn.of_grown g5) (fun e => HGW.out _ (hvG _ e.symm) rfl);have y2 : w7.cell? ⟨l, 2, none⟩ = some (.slice AS XL2 cS) := hc1.cell 2;have f2 := hc1.frozen 2;have y5 : w7.cell? ⟨w4.heap.size, 0, none⟩ = some (.int .i64 (n : Int)) := b5.cell 0;have y6 : w7.cell? ⟨w4.heap.size, 1, none⟩ = some (.slice A4 n4 cq) := b5.cell 1;obtain ⟨A7, c7, e7⟩ := row_form o5;obtain ⟨n7, hn7⟩ : ∃ n7, n7 = (X ++ [((n, Value.slice A4 n4 cq, es) : Sgx)]).length := ⟨_, rfl⟩;rw [<- hn7] at e7;subst e7;have hlw4 : w4.heap.size ≠ l := fun e => HGW.out l HWW.out.own e.symm
        have b6 := hide (b5.turn ((Turn.of_grown (grown_set w7 l 2 (.slice A7 n7 c7))).mono (S' := fun q => q = l) (fun q e => Option.some.inj e)) hlw4);have R6' := hide R6;have G5 := hide g5;refine hK.out _ _ ⟨y2, y5, y6⟩ ?_;clear hK R5 m0 m1 o5 g5 hv5 R6 hSl hc1 b5 hn7
        (try simp only [Act.put, List.setIfInBounds_toArray, List.set_cons_zero, List.set_cons_succ])
        refine Ways.one (i := 8) (by kernel_rfl) rfl (fun K hK => ?_);go_simp;refine hK.out _ _ ⟨y2, y5, y6⟩ ?_;clear hK
        (try simp only [List.setIfInBounds_toArray, List.set_cons_zero, List.set_cons_succ])
        refine Ways.one (i := 9) (by kernel_rfl) rfl (fun K hK => ?_);go_simp;refine hK.out _ _ ⟨y2, y5, y6⟩ ?_;clear hK
        (try simp only [List.setIfInBounds_toArray, List.set_cons_zero, List.set_cons_succ])
        refine Ways.last (by kernel_rfl) rfl (by kernel_rfl) (fun K hK => ?_);go_simp;refine hK.out _ _ ?_;clear hK;obtain ⟨W6, hW6⟩ : ∃ z, z = w7.setCell ⟨l, 2, none⟩ (.slice A7 n7 c7) := ⟨_, rfl⟩;have t6 : Turn G w7 W6 := by rw [hW6]; exact (Turn.of_grown (grown_set w7 l 2 (.slice A7 n7 c7))).mono (fun q e => by rw [Option.some.inj e]; exact HWW.out.own)
        rw [<- hW6] at R6' b6 ⊢;have T6 := hide t6;obtain ⟨d0, d1, d2', d3, d4⟩ := R6'.out.logCells;have z6 : W6.cell? ⟨w4.heap.size, 1, none⟩ = some (.slice A4 n4 cq) := b6.out.cell 1;have fz3 := R6'.out.cells.frozen 3;obtain ⟨nn, hnn⟩ : ∃ nn, nn = n + n4 := ⟨_, rfl⟩;have hwn : IntKind.i64.wrap ((n : Int) + (n4 : Int)) = (nn : Int) := by rw [IntKind.wrap_i64]; have := H4L.out; omega
        have R7 := hide (R6'.out.setNext nn);have v4' : (W6.setCell ⟨l, 3, none⟩ (.int .i64 (nn : Int))).cell? ⟨l, 4, none⟩ = some vD := R7.out.cells.cell 4;have HNN := hide hnn;clear hW6 t6 y2 y5 y6 f2 x2 x5 x6 hnn;go_wp2_with (at_builtin; refine halt ?_)
        refine ⟨wpList_of_step (fun K hK => ?_)⟩;have kB := below_alloc (W6.setCell ⟨l, 3, none⟩ (.int .i64 (nn : Int))) (.cells #[.int .i64 (n : Int)] 3);have R8 := R7.out.below kB;have hzz : (W6.setCell ⟨l, 3, none⟩ (.int .i64 (nn : Int))).heap.size = W6.heap.size := by simp
        have m5 := cell_new (W6.setCell ⟨l, 3, none⟩ (.int .i64 (nn : Int))) (.int .i64 (n : Int)) 3;rw [hzz] at m5;refine step_append_num rfl (.tmp 136) (.tmp 138) rfl 0 vD (dy.map fun n : Nat => (n : Int)) (by rfl) R8.dirt W6.heap.size (n : Int) (by rfl) m5 (by rw [List.length_map]; have h9 : dy.length <= 256 := HCNT.out.2; omega) (Nat.zero_le _) ?_;rintro vD' w9 o9 g9 hv9;have hDl : vD.ownBlock ≠ some l := ownsRow_notIn R8.dirt R8.cells (by decide);have R9 := hide (R8.pushDirty g9 o9 hv9);have hc9 := R8.cells.turn (Turn.of_grown g9) (fun e => hDl e.symm);have a4 : w9.cell? ⟨l, 4, none⟩ = some vD := hc9.cell 4;have fz4 := hc9.frozen 4;obtain ⟨AD, cD, eD⟩ := row_form o9;obtain ⟨nD, hnD⟩ : ∃ nD, nD = (dy.map (fun n : Nat => (n : Int)) ++ [(n : Int)]).length := ⟨_, rfl⟩;rw [<- hnD] at eD;subst eD;have G9 := hide g9;have KB := hide kB;refine hK.out _ _ ?_;clear hK o9 g9 hv9 R8 hc9 kB hnD hDl m5 hzz v4';simp only [Act.put, List.setIfInBounds_toArray, List.set_cons_zero, List.set_cons_succ];go_wp2_with fail
        go_roundw
        case rel =>
         have tA : Turn G w5 (w5.drew.alloc (.cells #[.int .i64 (n : Int), .slice A4 n4 cq] 156)) := Turn.of_below G KD.out;have tB := (Turn.of_grown G5.out).mono (S' := G) (fun q e => hvG q e.symm);have tC : Turn G W6 (W6.setCell ⟨l, 3, none⟩ (.int .i64 (nn : Int))) := (Turn.of_grown (grown_set W6 l 3 (.int .i64 (nn : Int)))).mono (fun q e => by rw [Option.some.inj e]; exact HWW.out.own);have tD := Turn.of_below G KB.out;have tE := (Turn.of_grown G9.out).mono (S' := G) (fun q e => HWW.out.mineD q e.symm);have tF : Turn G w9 (w9.setCell ⟨l, 4, none⟩ (.slice AD nD cD)) := (Turn.of_grown (grown_set w9 l 4 (.slice AD nD cD))).mono (fun q e => by rw [Option.some.inj e]; exact HWW.out.own);have tX := (((((tA.trans tB).trans T6.out).trans tC).trans tD).trans tE).trans tF;have z1 := tA.size;have z2 := tB.size;have z3 := T6.out.size;have z4 := tC.size;have z5 := T5.out.size;have z7 := KB.out.size;have z9 : (w5.drew.alloc (.cells #[.int .i64 (n : Int), .slice A4 n4 cq] 156)).heap.size = (w5.alloc (.cells #[.int .i64 (n : Int), .slice A4 n4 cq] 156)).drew.heap.size := rfl;have hLg : ∃ G', RLogAt (w9.setCell ⟨l, 4, none⟩ (.slice AD nD cD)) G' l dp s ⟨segs ++ [(n, es)], nn, dy ++ [n]⟩ /\ ∀ q, G' q -> G q \/ (w3.heap.size <= q /\ q < w4.heap.size) \/ w5.heap.size <= q := by
          refine ⟨_, ⟨_, _, _, _, ?_, R9.out⟩, fun q h5 => ?_⟩
          ·show segs ++ [(n, es)] = _
           rw [EE.out];simp
          ·rcases h5 with (h5 | h5 | h5) | h5
           ·exact .inl h5
           ·exact .inr (.inl h5)
           ·exact .inr (.inr (by omega))
           ·exact .inr (.inr (by omega))
         obtain ⟨G5', hL5, hG5⟩ := hLg;refine ⟨j + 1, Gd', G5', ⟨false, ⟨segs ++ [(n, es)], nn, dy ++ [n]⟩, Lo⟩, by omega, by go_num, rfl, ?_, ⟨B5.out.disk.turn tX B5.out.apart, hL5, fun q h4 h5 => ?_, B5.out.sane⟩, T5.out.then tX (fun q hq => (hFg.out q hq).elim (fun h => .inl (.inr h)) .inr), hFd.out, fun q h5 => ?_⟩
         ·unfold Hid;rw [HST.out, HSC.out, HNN.out, HN4.out]
         ·have := B5.out.disk.low q h4;rcases hG5 q h5 with h5 | h5 | h5
          ·exact B5.out.apart q h4 h5
          ·exact (HEA.out q h5).2.1 h4
          ·omega
         ·rcases hG5 q h5 with h5 | h5 | h5
          ·exact hFg.out q h5
          ·exact .inr (HEA.out q h5).2.2.2
          ·exact .inr (by omega)
        case measure => simp [intOf]; omega
       | false =>
        by_cases hg0 : good = 0
        ·subst hg0;go_wp2_with fail
         rw [<- hw5] at B5 T5 q5 s0 s1 BS RW5 HEA ⊢;refine (rremove_at Gd' dp room Lo t _ B5.out.disk B5.out.sane).mono ?_;rintro e w8 ⟨rfl, G8, r8, n8⟩;have B8 := hide (B5.out.disked n8 r8 (rem_sane10 B5.out.sane));have N8 := hide n8;clear r8 n8 hw5;obtain ⟨E8, vS8, vD8, X8, e8, h8⟩ := B8.out.log;obtain ⟨g0, g1, g2, g3, g4⟩ := h8.logCells;obtain ⟨A8, c8, e8', -, -, -, -⟩ := h8.row.form;subst e8';obtain ⟨XL8, hXL8⟩ : ∃ XL, XL = X8.length := ⟨_, rfl⟩;rw [<- hXL8] at g2;clear h8 e8 hXL8;have hSC : openStep s.data.toList ⟨false, ⟨segs, nx, dy⟩, Lo⟩ t.data.toList = ⟨true, ⟨segs, nx, dy⟩, (remL t.data.toList Lo).1⟩ := by
          unfold openStep;rw [hnum.out];dsimp only;rw [if_neg HNB.out, HSG.out, if_neg (show ¬ (false = true) from fun h => by cases h), if_pos rfl]
         have HSC := hide hSC;clear hSC;by_cases hxz : XL8 = 0
         ·have hxz1 : ((XL8 : Int) == 0) = true := by rw [hxz]; rfl
          clear hxz;go_wp2_with fail
          go_roundw
          case rel =>
           have hTs := T5.out.size;refine ⟨j + 1, G8, G, ⟨true, ⟨segs, nx, dy⟩, (remL t.data.toList Lo).1⟩, by omega, by go_num, rfl, ?_, B8.out, T5.out.then N8.out.turn (fun q hq => (hFd.out q hq).imp .inl id), fun q hq => (N8.out.foot q hq).elim (hFd.out q) (fun h => .inr (by omega)), hFg.out⟩;unfold Hid;rw [HST.out, HSC.out]
          case measure => simp [intOf]; omega
         ·have hxz1 : ((XL8 : Int) == 0) = false := by simp; omega
          clear hxz;go_wp2_with fail
          go_roundw
          case rel =>
           have hTs := T5.out.size;refine ⟨j + 1, G8, G, ⟨true, ⟨segs, nx, dy⟩, (remL t.data.toList Lo).1⟩, by omega, by go_num, rfl, ?_, B8.out, T5.out.then N8.out.turn (fun q hq => (hFd.out q hq).imp .inl id), fun q hq => (N8.out.foot q hq).elim (hFd.out q) (fun h => .inr (by omega)), hFg.out⟩;unfold Hid;rw [HST.out, HSC.out]
          case measure => simp [intOf]; omega
        ·have hg1 : ((good : Int) == 0) = false := by simp; omega
         have HSC := hide (show openStep s.data.toList ⟨false, ⟨segs, nx, dy⟩, Lo⟩ t.data.toList = ⟨true, ⟨segs ++ [(n, es)], n + es.length, dy ++ [n]⟩, (cutL t.data.toList (good : Int) Lo).1⟩ by
          unfold openStep;rw [hnum.out];dsimp only;rw [if_neg HNB.out, HSG.out, if_neg (show ¬ (false = true) from fun h => by cases h), if_neg hg0])
         clear hg0;go_wp2_with fail
         rw [<- hw5] at B5 T5 q5 s0 s1 BS RW5 HEA ⊢;refine (rcut_any Gd' dp room Lo t _ B5.out.disk B5.out.sane (good : Int)).mono ?_;rintro e w6 ⟨rfl, G8, r8, n8⟩;have B8 := hide (B5.out.disked n8 r8 (cut_sane10 B5.out.sane));have hz45 : w4.heap.size < w5.heap.size := by rw [hw5]; simp
         have T8 := hide (T5.out.then n8.turn (fun q hq => (hFd.out q hq).imp .inl id));have hTs := T5.out.size;have F8 := hide (fun (q : Nat) (hq : G8 q) => (n8.foot q hq).elim (hFd.out q) (fun h => .inr (show w1.heap.size <= q by omega)));have hgw4 : ¬ Gd' w4.heap.size := fun h => by have := B2.out.disk.low _ h; have := K3.out.size; have := K4.out.size; omega
         have BS8 := hide (BS.out.turn n8.turn hgw4);have RW8 := hide (RW5.out.turn n8.turn (fun q hq hd => (HEA.out q hq).2.1 hd));have HE8 := hide (fun (q : Nat) (hq : w3.heap.size <= q /\ q < w4.heap.size) => show q < w6.heap.size /\ ¬ G8 q /\ ¬ G q /\ w1.heap.size <= q from ⟨Nat.lt_of_lt_of_le (HEA.out q hq).1 n8.turn.size, fun h => (n8.foot q h).elim (HEA.out q hq).2.1 (fun h => by omega), (HEA.out q hq).2.2⟩);clear r8 n8 hw5 hgw4 s0 s1;go_wp2_with fail
         obtain ⟨EC, vS, vD, X, e, hW⟩ := B8.out.log;simp only at e hW;obtain ⟨c0, c1, c2, c3, c4⟩ := hW.logCells;obtain ⟨AS, cS, eS, hlS, hcS, -, -⟩ := hW.row.form;subst eS;obtain ⟨XL2, hXL⟩ : ∃ XL, XL = X.length := ⟨_, rfl⟩;rw [<- hXL] at c2 hlS hW;have hX256 : XL2 <= 256 := by have h1 := HCNT.out.1; rw [e, List.length_map, <- hXL] at h1; exact h1
         have s0 : w6.cell? ⟨w4.heap.size, 0, none⟩ = some (.int .i64 (n : Int)) := BS8.out.cell 0;have s1 : w6.cell? ⟨w4.heap.size, 1, none⟩ = some (.slice A4 n4 cq) := BS8.out.cell 1;have HWW := hide hW;have HXX := hide hXL;have EE := hide e;have hlC := cell_lt c2;have HX256 := hide hX256;have kA := below_alloc w6 (.cells #[.int .i64 (n : Int), .slice A4 n4 cq] 156);have kD : Below w6.heap.size w6 (w6.drew.alloc (.cells #[.int .i64 (n : Int), .slice A4 n4 cq] 156)) := ⟨kA.os, kA.tape, kA.output, kA.size, kA.block⟩;have KD := hide kD;clear kA kD hW e hXL hlS hcS hX256;refine Ways.start (fun W => W.cell? ⟨l, 2, none⟩ = some (.slice AS XL2 cS) /\ W.cell? ⟨w4.heap.size, 0, none⟩ = some (.int .i64 (n : Int)) /\ W.cell? ⟨w4.heap.size, 1, none⟩ = some (.slice A4 n4 cq)) 10 11 #[false, false, false, false, false, false, false, false, false, false, false] (by kernel_rfl) (by kernel_rfl) (by kernel_rfl) ?_;have hHeld : w6.drew.cell? ⟨l, 2, none⟩ = some (.slice AS XL2 cS) /\ w6.drew.cell? ⟨w4.heap.size, 0, none⟩ = some (.int .i64 (n : Int)) /\ w6.drew.cell? ⟨w4.heap.size, 1, none⟩ = some (.slice A4 n4 cq) := ⟨c2, s0, s1⟩
         iterate 6
          first | refine' tkW 0 rfl hHeld rfl ?_ ?_ | refine' tkW 1 rfl hHeld rfl ?_ ?_ | refine' tkW 2 rfl hHeld rfl ?_ ?_ | refine' tkW 3 rfl hHeld rfl ?_ ?_ | refine' tkW 4 rfl hHeld rfl ?_ ?_ | refine' tkW 5 rfl hHeld rfl ?_ ?_
          rotate_left
          ·(intro W hW; (try dsimp only at hW); go_simp; (try with_reducible rfl))
          try simp only [Act.put, List.setIfInBounds_toArray, List.set_cons_zero, List.set_cons_succ]
         refine Ways.one (i := 6) (by kernel_rfl) rfl (fun K hK => ?_);go_simp;have x2 := (KD.out.cell (p := ⟨l, 2, none⟩) hlC).trans c2;have x5 := (KD.out.cell (p := ⟨w4.heap.size, 0, none⟩) (cell_lt s0)).trans s0;have x6 := (KD.out.cell (p := ⟨w4.heap.size, 1, none⟩) (cell_lt s1)).trans s1;refine hK.out _ _ ⟨x2, x5, x6⟩ ?_;clear hK hHeld
         (try simp only [List.setIfInBounds_toArray, List.set_cons_zero, List.set_cons_succ])
         refine Ways.one (i := 7) (by kernel_rfl) rfl (fun K hK => ?_);have R5 := HWW.out.below KD.out;have m0 : (w6.drew.alloc (.cells #[.int .i64 (n : Int), .slice A4 n4 cq] 156)).cell? ⟨w6.heap.size, 0, none⟩ = some (.int .i64 (n : Int)) := cell_two_0d w6.drew _ _ _;have m1 : (w6.drew.alloc (.cells #[.int .i64 (n : Int), .slice A4 n4 cq] 156)).cell? ⟨w6.heap.size, 1, none⟩ = some (.slice A4 n4 cq) := cell_two_1d w6.drew _ _ _;refine step_append_seg rfl (.tmp 118) (.tmp 120) rfl 0 (.slice AS XL2 cS) X (by rfl) R5.row w6.heap.size (n, .slice A4 n4 cq, es) (by rfl) m0 m1 rfl (by have := HX256.out; have := HXX.out; omega) (Nat.zero_le _) ?_;rintro vS' w7 o5 g5 hv5;have hvG : ∀ q, (Value.slice AS XL2 cS).ownBlock = some q -> G q := HWW.out.mineS;have R6 := R5.pushSeg (x := (n, .slice A4 n4 cq, es)) (E1 := (fun q => w3.heap.size <= q /\ q < w4.heap.size)) g5 o5 hv5 (RW8.out.turn (Turn.of_below (fun _ => False) KD.out) (fun _ _ => id)) (fun q hq => ⟨Nat.lt_of_lt_of_le (HE8.out q hq).1 KD.out.size, fun e => (HE8.out q hq).2.2.1 (by rw [e]; exact HWW.out.own), fun e => (HE8.out q hq).2.2.1 (hvG q e), fun e => (HE8.out q hq).2.2.1 (HWW.out.mineD q e)⟩);have hSl : (Value.slice AS XL2 cS).ownBlock ≠ some l := ownsRow_notIn R5.row R5.cells (by decide);have hc1 := R5.cells.turn (Turn.of_grown g5) (fun e => hSl e.symm);have b5 := (BS8.out.turn (Turn.of_below (fun _ => False) KD.out) (fun h => h)).turn (Turn.of_grown g5) (fun e => HGW.out _ (hvG _ e.symm) rfl);have y2 : w7.cell? ⟨l, 2, none⟩ = some (.slice AS XL2 cS) := hc1.cell 2;have f2 := hc1.frozen 2;have y5 : w7.cell? ⟨w4.heap.size, 0, none⟩ = some (.int .i64 (n : Int)) := b5.cell 0;have y6 : w7.cell? ⟨w4.heap.size, 1, none⟩ = some (.slice A4 n4 cq) := b5.cell 1;obtain ⟨A7, c7, e7⟩ := row_form o5;obtain ⟨n7, hn7⟩ : ∃ n7, n7 = (X ++ [((n, Value.slice A4 n4 cq, es) : Sgx)]).length := ⟨_, rfl⟩;rw [<- hn7] at e7;subst e7;have hlw4 : w4.heap.size ≠ l := fun e => HGW.out l HWW.out.own e.symm
         have b6 := hide (b5.turn ((Turn.of_grown (grown_set w7 l 2 (.slice A7 n7 c7))).mono (S' := fun q => q = l) (fun q e => Option.some.inj e)) hlw4);have R6' := hide R6;have G5 := hide g5;refine hK.out _ _ ⟨y2, y5, y6⟩ ?_;clear hK R5 m0 m1 o5 g5 hv5 R6 hSl hc1 b5 hn7
         (try simp only [Act.put, List.setIfInBounds_toArray, List.set_cons_zero, List.set_cons_succ])
         refine Ways.one (i := 8) (by kernel_rfl) rfl (fun K hK => ?_);go_simp;refine hK.out _ _ ⟨y2, y5, y6⟩ ?_;clear hK
         (try simp only [List.setIfInBounds_toArray, List.set_cons_zero, List.set_cons_succ])
         refine Ways.one (i := 9) (by kernel_rfl) rfl (fun K hK => ?_);go_simp;refine hK.out _ _ ⟨y2, y5, y6⟩ ?_;clear hK
         (try simp only [List.setIfInBounds_toArray, List.set_cons_zero, List.set_cons_succ])
         refine Ways.last (by kernel_rfl) rfl (by kernel_rfl) (fun K hK => ?_);go_simp;refine hK.out _ _ ?_;clear hK;obtain ⟨W6, hW6⟩ : ∃ z, z = w7.setCell ⟨l, 2, none⟩ (.slice A7 n7 c7) := ⟨_, rfl⟩;have t6 : Turn G w7 W6 := by rw [hW6]; exact (Turn.of_grown (grown_set w7 l 2 (.slice A7 n7 c7))).mono (fun q e => by rw [Option.some.inj e]; exact HWW.out.own)
         rw [<- hW6] at R6' b6 ⊢;have T6 := hide t6;obtain ⟨d0, d1, d2', d3, d4⟩ := R6'.out.logCells;have z6 : W6.cell? ⟨w4.heap.size, 1, none⟩ = some (.slice A4 n4 cq) := b6.out.cell 1;have fz3 := R6'.out.cells.frozen 3;obtain ⟨nn, hnn⟩ : ∃ nn, nn = n + n4 := ⟨_, rfl⟩;have hwn : IntKind.i64.wrap ((n : Int) + (n4 : Int)) = (nn : Int) := by rw [IntKind.wrap_i64]; have := H4L.out; omega
         have R7 := hide (R6'.out.setNext nn);have v4' : (W6.setCell ⟨l, 3, none⟩ (.int .i64 (nn : Int))).cell? ⟨l, 4, none⟩ = some vD := R7.out.cells.cell 4;have HNN := hide hnn;clear hW6 t6 y2 y5 y6 f2 x2 x5 x6 hnn;go_wp2_with (at_builtin; refine halt ?_)
         refine ⟨wpList_of_step (fun K hK => ?_)⟩;have kB := below_alloc (W6.setCell ⟨l, 3, none⟩ (.int .i64 (nn : Int))) (.cells #[.int .i64 (n : Int)] 3);have R8 := R7.out.below kB;have hzz : (W6.setCell ⟨l, 3, none⟩ (.int .i64 (nn : Int))).heap.size = W6.heap.size := by simp
         have m5 := cell_new (W6.setCell ⟨l, 3, none⟩ (.int .i64 (nn : Int))) (.int .i64 (n : Int)) 3;rw [hzz] at m5;refine step_append_num rfl (.tmp 136) (.tmp 138) rfl 0 vD (dy.map fun n : Nat => (n : Int)) (by rfl) R8.dirt W6.heap.size (n : Int) (by rfl) m5 (by rw [List.length_map]; have h9 : dy.length <= 256 := HCNT.out.2; omega) (Nat.zero_le _) ?_;rintro vD' w9 o9 g9 hv9;have hDl : vD.ownBlock ≠ some l := ownsRow_notIn R8.dirt R8.cells (by decide);have R9 := hide (R8.pushDirty g9 o9 hv9);have hc9 := R8.cells.turn (Turn.of_grown g9) (fun e => hDl e.symm);have a4 : w9.cell? ⟨l, 4, none⟩ = some vD := hc9.cell 4;have fz4 := hc9.frozen 4;obtain ⟨AD, cD, eD⟩ := row_form o9;obtain ⟨nD, hnD⟩ : ∃ nD, nD = (dy.map (fun n : Nat => (n : Int)) ++ [(n : Int)]).length := ⟨_, rfl⟩;rw [<- hnD] at eD;subst eD;have G9 := hide g9;have KB := hide kB;refine hK.out _ _ ?_;clear hK o9 g9 hv9 R8 hc9 kB hnD hDl m5 hzz v4';simp only [Act.put, List.setIfInBounds_toArray, List.set_cons_zero, List.set_cons_succ];go_wp2_with fail
         go_roundw
         case rel =>
          have tA : Turn G w6 (w6.drew.alloc (.cells #[.int .i64 (n : Int), .slice A4 n4 cq] 156)) := Turn.of_below G KD.out;have tB := (Turn.of_grown G5.out).mono (S' := G) (fun q e => hvG q e.symm);have tC : Turn G W6 (W6.setCell ⟨l, 3, none⟩ (.int .i64 (nn : Int))) := (Turn.of_grown (grown_set W6 l 3 (.int .i64 (nn : Int)))).mono (fun q e => by rw [Option.some.inj e]; exact HWW.out.own);have tD := Turn.of_below G KB.out;have tE := (Turn.of_grown G9.out).mono (S' := G) (fun q e => HWW.out.mineD q e.symm);have tF : Turn G w9 (w9.setCell ⟨l, 4, none⟩ (.slice AD nD cD)) := (Turn.of_grown (grown_set w9 l 4 (.slice AD nD cD))).mono (fun q e => by rw [Option.some.inj e]; exact HWW.out.own);have tX := (((((tA.trans tB).trans T6.out).trans tC).trans tD).trans tE).trans tF;have z1 := tA.size;have z2 := tB.size;have z3 := T6.out.size;have z4 := tC.size;have z5 := T8.out.size;have z7 := KB.out.size;have z9 : (w6.drew.alloc (.cells #[.int .i64 (n : Int), .slice A4 n4 cq] 156)).heap.size = (w6.alloc (.cells #[.int .i64 (n : Int), .slice A4 n4 cq] 156)).drew.heap.size := rfl;have hLg : ∃ G', RLogAt (w9.setCell ⟨l, 4, none⟩ (.slice AD nD cD)) G' l dp s ⟨segs ++ [(n, es)], nn, dy ++ [n]⟩ /\ ∀ q, G' q -> G q \/ (w3.heap.size <= q /\ q < w4.heap.size) \/ w6.heap.size <= q := by
           refine ⟨_, ⟨_, _, _, _, ?_, R9.out⟩, fun q h5 => ?_⟩
           ·show segs ++ [(n, es)] = _
            rw [EE.out];simp
           ·rcases h5 with (h5 | h5 | h5) | h5
            ·exact .inl h5
            ·exact .inr (.inl h5)
            ·exact .inr (.inr (by omega))
            ·exact .inr (.inr (by omega))
          obtain ⟨G5', hL5, hG5⟩ := hLg;refine ⟨j + 1, G8, G5', ⟨true, ⟨segs ++ [(n, es)], nn, dy ++ [n]⟩, (cutL t.data.toList (good : Int) Lo).1⟩, by omega, by go_num, rfl, ?_, ⟨B8.out.disk.turn tX B8.out.apart, hL5, fun q h4 h5 => ?_, B8.out.sane⟩, T8.out.then tX (fun q hq => (hFg.out q hq).elim (fun h => .inl (.inr h)) .inr), F8.out, fun q h5 => ?_⟩
          ·unfold Hid;rw [HST.out, HSC.out, HNN.out, HN4.out]
          ·have := B8.out.disk.low q h4;rcases hG5 q h5 with h5 | h5 | h5
           ·exact B8.out.apart q h4 h5
           ·exact (HE8.out q h5).2.1 h4
           ·omega
          ·rcases hG5 q h5 with h5 | h5 | h5
           ·exact hFg.out q h5
           ·exact .inr (HE8.out q h5).2.2.2
           ·exact .inr (by omega)
         case measure => simp [intOf]; omega
  ·obtain rfl : j = N := by omega
   go_wp2_with fail
   refine bodyPost_ret (v := .tuple #[.pointer (some ⟨l, 0, none⟩), .int .i64 0]) (by simp [results, Tryz.results35, go_sem]) rfl ?_;have hoe : o = openR s.data.toList L := by
    rw [ho.out];unfold openR;rw [List.take_of_length_le (by rw [List.length_map, <- HN.out]; exact Nat.le_refl _)]
   rw [<- hoe];have hs1 := K1.out.size;refine ⟨l, rfl, Gd', G, hB.out, (Turn.of_below Gd K1.out).then hT.out (fun q hq => hq.imp id (fun h => by have := HL.out; omega)), fun q hq => (hFd.out q hq).imp id (fun h => by omega), fun q hq => (hFg.out q hq).elim (fun h => by have := HL.out; omega) (fun h => by omega)⟩
end Go.Proofs.YtbmhfnhfhdgdgaaGreat
