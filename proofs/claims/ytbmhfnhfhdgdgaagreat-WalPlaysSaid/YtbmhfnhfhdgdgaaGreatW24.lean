/- The document's insert. No condition but the widths. The document's Read, Sync, Remove, Rename, Cut, Rot where the name is none that is there, or wrong. No condi -/
import Derived.Test.YtbmhfnhfhdgdgaaGreatW23
namespace Go.Proofs.YtbmhfnhfhdgdgaaGreat
open Go.RowKit Go.Maps
variable {w w' w1 w3 W : World} {G : Nat -> Prop} {B room p g c i b : Nat}
theorem own_emptyF (hB : B <= W.heap.size) (b : Nat) (hb : b = W.heap.size) : OwnF (W.alloc (.cells #[] 91)) B (.slice (some ⟨b, 0, none⟩) 0 0) [] := by
 subst hb;exact (OwnF.empty W).down hB
theorem Blk.under {e : TypeId} {cs : List Value} (h : Blk w B e g cs) (k : Below b w w') (hg : g < b) : Blk w' B e g cs := by
 obtain ⟨hB, cur, hh, rfl⟩ := h;exact ⟨hB, cur, by rw [k.block g hg]; exact hh, rfl⟩
theorem OwnF.shape {v : Value} {X : List (Str × Fil)} (h : OwnF w B v X) : ∃ A n c, v = .slice A n c := by
 unfold OwnF at h;rcases h.2 with ⟨rfl, _⟩ | ⟨g, cap, cur, rfl, _⟩
 ·exact ⟨_, _, _, rfl⟩
 ·exact ⟨_, _, _, rfl⟩
set_option maxRecDepth 100000 in
set_option maxHeartbeats 1600000 in
theorem insert_any (G : Nat -> Prop) (p room : Nat) (v : Value) (X : List (Str × Fil)) (i : Nat) (s : ByteArray) (A : Option Addr) (n c : Nat) (xs : List Nat) (l : Nat) (w : World) (h : RShell w G p room v X) (hlen : X.length <= 256) (hi : i <= X.length)
  (ho : Own w 0 (.slice A n c) xs) (hm : ∀ b, (Value.slice A n c).ownBlock = some b -> G b) (hb : ∀ x ∈ xs, x < 256) :
  Calls Tryz.prog 34 #[.pointer (some ⟨p, 0, none⟩), .int .i64 (i : Int), .agg #[.string s, .slice A n c, .int .i64 (l : Int)]] w fun e w' => e = .returned (.tuple #[]) /\ ∃ G' v', RShell w' G' p room v' (X.take i ++ (s.data.toList, (.slice A n c, xs, l)) :: X.drop i) /\ Next G w G' w' := by
 obtain ⟨A0, c0, rfl, hlc, hc63, hn0, hcell⟩ := h.form;have c1 : w.cell? ⟨p, 1, none⟩ = some (.slice A0 X.length c0) := h.cells.cell 1;have hpl := h.low p h.own;have f1 := h.cells.frozen 1;obtain ⟨N, hN⟩ : ∃ N, N = X.length := ⟨_, rfl⟩;have HX := hide h;have HO := hide ho;have HM := hide hm;have HB := hide hb;have HE := hide (fun q hq => (h.each q hq).1 : ∀ q ∈ X, Own w 0 q.2.1 q.2.2.1);have HR := hide h.row;rw [<- hN] at c1 hlc hi hlen;have HN := hide hN;have hAA : A0 = none /\ i = 0 /\ c0 = 0 \/ ∃ g, A0 = some ⟨g, 0, none⟩ := by
  rcases A0 with _ | ad
  ·have := hn0 rfl;exact .inl ⟨rfl, by omega, this⟩
  ·have hr := h.row;unfold OwnF at hr;rcases hr.2 with ⟨e, _⟩ | ⟨g, cap, cur, e, _⟩
   ·simp at e
   ·simp only [Value.slice.injEq, Option.some.injEq] at e;exact .inr ⟨g, by rw [e.1]⟩
 clear h ho hm hb hcell hN hn0;go_enter Tryz.func34, Tryz.ntmps34;go_wp2_with (at_builtin; refine halt ?_)
 refine ⟨?_⟩;have nb := below_step (below_alloc w (.cells #[.string s, .slice A n c, .int .i64 (l : Int)] 91)) (below_alloc (w.alloc (.cells #[.string s, .slice A n c, .int .i64 (l : Int)] 91)) (.cells #[] 91));have bb := (Blk.new w (B := 0) 91 #[.string s, .slice A n c, .int .i64 (l : Int)] (Nat.zero_le _)).keep (below_alloc (w.alloc (.cells #[.string s, .slice A n c, .int .i64 (l : Int)] 91)) (.cells #[] 91));obtain ⟨W, hW⟩ : ∃ W, W = (w.alloc (.cells #[.string s, .slice A n c, .int .i64 (l : Int)] 91)).alloc (.cells #[] 91) := ⟨_, rfl⟩;have hWs : W.heap.size = w.heap.size + 2 := by rw [hW]; simp
 have oe : OwnF W (w.heap.size + 1) (.slice (some ⟨w.heap.size + 1, 0, none⟩) 0 0) [] := by rw [hW]; exact own_emptyF (by simp) _ (by simp)
 rw [<- hW] at nb bb ⊢;clear hW;refine wpList_append_files rfl (.tmp 7) (.tmp 13) rfl (w.heap.size + 1) _ [] rfl oe _ (X.take i) rfl ((HR.out.take HE.out i (by rw [<- HN.out]; exact hi)).below nb) (by rw [List.length_nil, List.length_take]; omega) (by omega) ?_;intro v2 w2 o2 _ k2 _;rw [List.nil_append] at o2;have b2 := bb.under k2 (by omega);have n2 := nb.trans (k2.mono (by omega));have q0 : w2.cell? ⟨w.heap.size, 0, none⟩ = some (.string s) := b2.cell 0;have q1 : w2.cell? ⟨w.heap.size, 1, none⟩ = some (.slice A n c) := b2.cell 1;have q2 : w2.cell? ⟨w.heap.size, 2, none⟩ = some (.int .i64 (l : Int)) := b2.cell 2;have hW2 : w.heap.size + 2 <= w2.heap.size := by have := k2.size; omega
 have O2 := hide o2;have N2 := hide n2;clear nb bb oe hWs o2 k2 b2 n2;go_wp2_with (at_builtin; refine halt ?_)
 refine ⟨?_⟩;have k3 := below_alloc w2 (.cells #[.string s, .slice A n c, .int .i64 (l : Int)] 91);have o3 : OwnF (w2.alloc (.cells #[.string s, .slice A n c, .int .i64 (l : Int)] 91)) (w.heap.size + 1) v2 (X.take i) := O2.out.turn (S := fun _ => False) (Turn.of_below _ k3) (fun _ _ => id);have hs2 := N2.out.size;refine wpList_append_files rfl (.tmp 15) (.tmp 17) rfl (w.heap.size + 1) _ (X.take i) rfl o3 _ [(s.data.toList, (.slice A n c, xs, l))] rfl (isF_one w2 s.data.toList A n c xs l _ rfl) (by rw [List.length_take, List.length_singleton]; omega) (by have := O2.out.lt; simp; omega) ?_;intro v4 w4 o4 _ k4 _;have n4 := (below_step N2.out k3).trans (k4.mono (by omega));have r4 := HR.out.turn (S := fun _ => False) (Turn.of_below _ n4) (fun _ _ => id);have he4 : ∀ q ∈ X, Own w4 0 q.2.1 q.2.2.1 := fun q hq => (HE.out q hq).turn (S := fun _ => False) (Turn.of_below _ n4) (fun _ _ => id)
 have c4 : w4.cell? ⟨p, 1, none⟩ = some (.slice A0 N c0) := (n4.cell hpl).trans c1;have f4 : w4.frozen? ⟨p, 1, none⟩ = false := by
  rw [<- f1];exact n4.frozen hpl
 have hW4 : w.heap.size + 2 <= w4.heap.size := by have := k3.size; have := k4.size; omega
 have R4 := hide r4;have E4 := hide he4;have O4 := hide o4;have N4 := hide n4;clear k3 o3 k4 o4 n4 r4 he4;have fin : ∀ v5 w5, OwnF w5 (w.heap.size + 1) v5 (X.take i ++ [(s.data.toList, (.slice A n c, xs, l))] ++ X.drop i) -> Below (w.heap.size + 1) w4 w5 -> ∃ G' v', RShell (w5.setCell ⟨p, 1, none⟩ v5) G' p room v' (X.take i ++ (s.data.toList, (.slice A n c, xs, l)) :: X.drop i) /\ Next G w G' (w5.setCell ⟨p, 1, none⟩ v5) := by
  intro v5 w5 o5 k5;rw [List.append_assoc, List.singleton_append] at o5;have n5 := N4.out.trans (k5.mono (by omega));refine ⟨fun k => G k \/ (w.heap.size <= k /\ k < w5.heap.size), v5, ?_, ?_⟩
  ·refine ((HX.out.below n5).more (fun k hk => .inl hk) (fun k hk => ?_)).newrow (o5.down (Nat.zero_le _)) (fun g hg => .inr ?_) (fun q hq => ?_)
   ·rcases hk with hk | hk
    ·exact (HX.out.below n5).low k hk
    ·exact hk.2
   ·have := o5.lt g hg;exact ⟨by omega, this.2⟩
   ·rcases List.mem_append.1 hq with hq | hq
    ·have := (HX.out.below n5).each q (List.mem_of_mem_take hq);exact ⟨this.1, fun g hg => .inl (this.2.1 g hg), this.2.2⟩
    ·rcases List.mem_cons.1 hq with rfl | hq
     ·exact ⟨HO.out.turn (S := fun _ => False) (Turn.of_below _ n5) (fun _ _ => id), fun g hg => .inl (HM.out g hg), HB.out⟩
     ·have := (HX.out.below n5).each q (List.mem_of_mem_drop hq);exact ⟨this.1, fun g hg => .inl (this.2.1 g hg), this.2.2⟩
  ·refine ⟨(Turn.of_below _ n5).then (S' := fun k => some k = some p) (Turn.of_grown (grown_set w5 p 1 v5)) (fun k hk => .inl ?_), fun k hk => ?_⟩
   ·have hk : k = p := by simpa using hk
    rw [hk];exact HX.out.own
   ·rcases hk with hk | hk
    ·exact .inl hk
    ·exact .inr hk.1
 have hd : (A0 = none /\ i = 0 /\ c0 = 0) \/ (∃ g, A0 = some ⟨g, 0, none⟩ /\ c0 = i) \/ ∃ g, A0 = some ⟨g, 0, none⟩ /\ ¬ c0 = i := by
  rcases hAA with h | ⟨g, h⟩
  ·exact .inl h
  ·by_cases hc : c0 = i
   ·exact .inr (.inl ⟨g, h, hc⟩)
   ·exact .inr (.inr ⟨g, h, hc⟩)
 have hlenT : (X.take i ++ [(s.data.toList, ((.slice A n c, xs, l) : Fil))]).length + (X.drop i).length <= 1073741824 := by
  rw [List.length_append, List.length_take, List.length_drop, List.length_singleton];have := HN.out;omega
 have FIN := hide fin;have hsz : w.heap.size + 1 <= w4.heap.size := by omega
 clear hAA fin;rcases hd with ⟨rfl, rfl, rfl⟩ | ⟨g, rfl, hc⟩ | ⟨g, rfl, hc⟩
 ·go_wp2_with (at_builtin; refine halt ?_)
  refine ⟨?_⟩;refine wpList_append_files rfl (.tmp 20) (.tmp 26) rfl (w.heap.size + 1) _ _ rfl O4.out _ (X.drop 0) rfl (by have := R4.out.drop E4.out 0 (Nat.zero_le _) none (.inl ⟨rfl, rfl⟩); rw [<- HN.out, show N - 0 = 0 by omega] at this; exact this) hlenT hsz ?_;intro v5 w5 o5 _ k5 _;obtain ⟨A5, n5, c5, rfl⟩ := o5.shape;have HR5 := hide (FIN.out _ w5 o5 k5);have f5 : w5.frozen? ⟨p, 1, none⟩ = false := by
   rw [<- f4];exact k5.frozen (show p < w.heap.size + 1 by omega)
  have c5 := (k5.cell (p := ⟨p, 1, none⟩) (show p < w.heap.size + 1 by omega)).trans c4;clear o5 k5;go_wp2_with fail
  go_end0;exact ⟨rfl, HR5.out⟩
 ·go_wp2_with (at_builtin; refine halt ?_)
  refine ⟨?_⟩;refine wpList_append_files rfl (.tmp 20) (.tmp 26) rfl (w.heap.size + 1) _ _ rfl O4.out _ (X.drop i) rfl (by have := R4.out.drop E4.out i (by rw [<- HN.out]; exact hi) _ (.inr ⟨g, rfl, rfl⟩); rw [if_pos hc, <- HN.out, show c0 - i = 0 by omega] at this; exact this) hlenT hsz ?_;intro v5 w5 o5 _ k5 _;obtain ⟨A5, n5, c5, rfl⟩ := o5.shape;have HR5 := hide (FIN.out _ w5 o5 k5);have f5 : w5.frozen? ⟨p, 1, none⟩ = false := by
   rw [<- f4];exact k5.frozen (show p < w.heap.size + 1 by omega)
  have c5 := (k5.cell (p := ⟨p, 1, none⟩) (show p < w.heap.size + 1 by omega)).trans c4;clear o5 k5;go_wp2_with fail
  go_end0;exact ⟨rfl, HR5.out⟩
 ·go_wp2_with (at_builtin; refine halt ?_)
  refine ⟨?_⟩;refine wpList_append_files rfl (.tmp 20) (.tmp 26) rfl (w.heap.size + 1) _ _ rfl O4.out _ (X.drop i) rfl (by have := R4.out.drop E4.out i (by rw [<- HN.out]; exact hi) _ (.inr ⟨g, rfl, rfl⟩); rw [if_neg hc, <- HN.out] at this; exact this) hlenT hsz ?_;intro v5 w5 o5 _ k5 _;obtain ⟨A5, n5, c5, rfl⟩ := o5.shape;have HR5 := hide (FIN.out _ w5 o5 k5);have f5 : w5.frozen? ⟨p, 1, none⟩ = false := by
   rw [<- f4];exact k5.frozen (show p < w.heap.size + 1 by omega)
  have c5 := (k5.cell (p := ⟨p, 1, none⟩) (show p < w.heap.size + 1 by omega)).trans c4;clear o5 k5;go_wp2_with fail
  go_end0;exact ⟨rfl, HR5.out⟩
section
variable (G : Nat -> Prop) (p room : Nat) (v : Value) (X : List (Str × Fil)) (s : ByteArray) (w : World) (h : RShell w G p room v X) (hr : Rise X) (hg : getK s.data.toList X = none)
include h hr hg
theorem rspot_none : ∃ j : Nat, Calls Tryz.prog 32 #[.pointer (some ⟨p, 0, none⟩), .string s] w fun e w' => e = .returned (.tuple #[.int .i64 (j : Int), .bool false]) /\ ∃ d, w' = w.drewN d := by
 have := spot_any G p room v X s w h hr;rw [hg] at this;exact ⟨_, this⟩
theorem rremove_none : Calls Tryz.prog 68 #[.pointer (some ⟨p, 0, none⟩), .string s] w fun e w' => e = .returned (.int .i64 7) /\ ∃ d, w' = w.drewN d := by
 obtain ⟨j, hS⟩ := rspot_none G p room v X s w h hr hg;have HS := hide hS;clear hS h hr hg;go_enter Tryz.func68, Tryz.ntmps68;go_wp2_with fail
 refine HS.out.mono ?_;rintro e w1 ⟨rfl, dd, rfl⟩;go_wp2_with fail
 go_ret;exact ⟨rfl, dd, rfl⟩
theorem rsync_none : Calls Tryz.prog 69 #[.pointer (some ⟨p, 0, none⟩), .string s] w fun e w' => e = .returned (.int .i64 7) /\ ∃ d, w' = w.drewN d := by
 obtain ⟨j, hS⟩ := rspot_none G p room v X s w h hr hg;have HS := hide hS;clear hS h hr hg;go_enter Tryz.func69, Tryz.ntmps69;go_wp2_with fail
 refine HS.out.mono ?_;rintro e w1 ⟨rfl, dd, rfl⟩;go_wp2_with fail
 go_ret;exact ⟨rfl, dd, rfl⟩
theorem rread_none : Calls Tryz.prog 86 #[.pointer (some ⟨p, 0, none⟩), .string s] w fun e w' => e = .returned (.tuple #[.slice none 0 0, .int .i64 7]) /\ ∃ d, w' = w.drewN d := by
 obtain ⟨j, hS⟩ := rspot_none G p room v X s w h hr hg;have HS := hide hS;clear hS h hr hg;go_enter Tryz.func86, Tryz.ntmps86;go_wp2_with fail
 refine HS.out.mono ?_;rintro e w1 ⟨rfl, dd, rfl⟩;go_wp2_with fail
 go_ret2;exact ⟨rfl, dd, rfl⟩
theorem rcut_none (z : Int) : Calls Tryz.prog 53 #[.pointer (some ⟨p, 0, none⟩), .string s, .int .i64 z] w fun e w' => e = .returned (.int .i64 7) /\ ∃ d, w' = w.drewN d := by
 obtain ⟨j, hS⟩ := rspot_none G p room v X s w h hr hg;have HS := hide hS;clear hS h hr hg;go_enter Tryz.func53, Tryz.ntmps53;go_wp2_with fail
 refine HS.out.mono ?_;rintro e w1 ⟨rfl, dd, rfl⟩;go_wp2_with fail
 go_ret;exact ⟨rfl, dd, rfl⟩
theorem rrot_none (z : Int) (y : Int) : Calls Tryz.prog 51 #[.pointer (some ⟨p, 0, none⟩), .string s, .int .i64 z, .int .u8 y] w fun e w' => e = .returned (.int .i64 7) /\ ∃ d, w' = w.drewN d := by
 obtain ⟨j, hS⟩ := rspot_none G p room v X s w h hr hg;have HS := hide hS;clear hS h hr hg;go_enter Tryz.func51, Tryz.ntmps51;go_wp2_with fail
 refine HS.out.mono ?_;rintro e w1 ⟨rfl, dd, rfl⟩;go_wp2_with fail
 go_ret;exact ⟨rfl, dd, rfl⟩
end
theorem rfound {v : Value} {X : List (Str × Fil)} {k : Str} {a : Fil} (h : RShell w G p room v X) (hr : Rise X) (hg : getK k X = some a) :
  ∃ g c A n cc, v = .slice (some ⟨g, 0, none⟩) X.length c /\ a.1 = .slice A n cc /\ a.2.1.length = n /\ n <= cc /\ cc <= 9223372036854775807 /\ X.length <= c /\ c <= 9223372036854775807 /\ G g /\ g < w.heap.size /\ w.cell? ⟨g, posK k X * 3, none⟩ = some (encStr k) /\ w.cell? ⟨g, posK k X * 3 + 1, none⟩ = some (.slice A n cc) /\ w.cell? ⟨g, posK k X * 3 + 2, none⟩ = some (.int .i64 (a.2.2 : Int)) /\ ∀ i, w.frozen? ⟨g, i, none⟩ = false := by
 obtain ⟨A0, c0, rfl, hlc, hc63, hn0, hcell⟩ := h.form;obtain ⟨hjl, hX⟩ := posK_get hr hg;obtain ⟨g, rfl, h1, h2, h3, h4, h5, h6⟩ := hcell _ hjl;obtain ⟨A, cc, e, _, h7, h8⟩ := (h.each (k, a) (getK_mem hg)).1.isB.form rfl;rw [hX] at h3 h4 h5;have e : a.1 = .slice A a.2.1.length cc := e;exact ⟨g, c0, A, _, cc, rfl, e, rfl, h7, h8, hlc, hc63, h1, h2, h3, by rw [h4, e], h5, h6⟩
theorem next_store {u : Value} (hg : G g) (t : Turn G w w1) : Next G w G (w1.setCell ⟨g, i, none⟩ u) := by
 refine ⟨t.then (S' := fun k => some k = some g) (Turn.of_grown (grown_set w1 g i u)) (fun k hk => .inl ?_), fun k hk => .inl hk⟩;have hk : k = g := by simpa using hk
 rw [hk];exact hg
set_option maxRecDepth 100000 in
set_option maxHeartbeats 1600000 in
theorem rsync_some (G : Nat -> Prop) (p room : Nat) (v : Value) (X : List (Str × Fil)) (s : ByteArray) (a : Fil) (w : World) (h : RShell w G p room v X) (hr : Rise X) (hg : getK s.data.toList X = some a) :
  Calls Tryz.prog 69 #[.pointer (some ⟨p, 0, none⟩), .string s] w fun e w' => e = .returned (.int .i64 0) /\ ∃ G' v', RShell w' G' p room v' (putK s.data.toList (a.1, a.2.1, a.2.1.length) X) /\ Next G w G' w' := by
 obtain ⟨g, c, A, n, cc, rfl, ha, hn, hncc, hcc, hXc, hc63, hGg, hgl, q0, q1, q2, fz⟩ := rfound h hr hg;obtain ⟨hjl, hXj⟩ := posK_get hr hg;have c1 : w.cell? ⟨p, 1, none⟩ = some (.slice (some ⟨g, 0, none⟩) X.length c) := h.cells.cell 1;have HS := hide (spot_any G p room _ X s w h hr);have HP := hide (put_at (a.1, a.2.1, a.2.1.length) hr hg);have HX := hide h;obtain ⟨N, hN⟩ : ∃ N, N = X.length := ⟨_, rfl⟩;obtain ⟨j, hj⟩ : ∃ j, j = posK s.data.toList X := ⟨_, rfl⟩;have HXJ : Hid (∃ hj : j < X.length, X[j] = (s.data.toList, a)) := by
  subst hj;exact ⟨hjl, hXj⟩
 clear hXj;rw [<- hj, hg] at HS;rw [<- hj] at HP hjl q0 q1 q2;rw [<- hN] at c1 hjl hXc;rw [hn] at HP ⊢;have HN := hide hN;have HNN := hide hn;have HGG := hide hGg;have f2 := fz (j * 3 + 2);clear h hN hj hg hr hn fz hGg ha q0;go_enter Tryz.func69, Tryz.ntmps69;go_wp2_with fail
 refine HS.out.mono ?_;rintro e w1 ⟨rfl, dd, hd⟩;have k1 : Below w.heap.size w w1 := by rw [hd]; exact below_drewN (Below.refl _ _) dd
 have c1' : w1.cell? ⟨p, 1, none⟩ = some (.slice (some ⟨g, 0, none⟩) N c) := by rw [hd]; exact c1
 have q1' : w1.cell? ⟨g, j * 3 + 1, none⟩ = some (.slice A n cc) := by rw [hd]; exact q1
 have q2' : w1.cell? ⟨g, j * 3 + 2, none⟩ = some (.int .i64 (a.2.2 : Int)) := by rw [hd]; exact q2
 have f2' : w1.frozen? ⟨g, j * 3 + 2, none⟩ = false := by rw [hd]; exact f2
 clear hd c1 f2 q1 q2;have K1 := hide k1;have HX1 := hide (HX.out.below k1);clear k1;go_wp2_with fail
 go_region
 all_goals
  go_wp2_with fail
  go_ret;refine ⟨rfl, ?_⟩;obtain ⟨hjl', hXj⟩ := HXJ.out;have hs := HX1.out.set2 j hjl' n;rw [hXj, <- HP.out] at hs;refine ⟨G, _, hs.turn (S := fun _ => False) (Turn.of_below _ ?_) (fun _ _ => id), ?_⟩
  ·exact ⟨rfl, rfl, rfl, by simp, fun k hk => by rfl⟩
  ·exact (next_store HGG.out (Turn.of_below _ K1.out)).drewN 1
set_option maxRecDepth 100000 in
set_option maxHeartbeats 1600000 in
theorem rread_some (G : Nat -> Prop) (p room : Nat) (v : Value) (X : List (Str × Fil)) (s : ByteArray) (a : Fil) (w : World) (h : RShell w G p room v X) (hr : Rise X) (hg : getK s.data.toList X = some a) (hlen : a.2.1.length <= 1099511627776) :
  Calls Tryz.prog 86 #[.pointer (some ⟨p, 0, none⟩), .string s] w fun e w' => ∃ v, e = .returned (.tuple #[v, .int .i64 0]) /\ Own w' w.heap.size v a.2.1 /\ Below w.heap.size w w' := by
 obtain ⟨g, c, A, n, cc, rfl, ha, hn, hncc, hcc, hXc, hc63, hGg, hgl, q0, q1, q2, fz⟩ := rfound h hr hg;obtain ⟨hjl, hXj⟩ := posK_get hr hg;have c1 : w.cell? ⟨p, 1, none⟩ = some (.slice (some ⟨g, 0, none⟩) X.length c) := h.cells.cell 1;have HS := hide (spot_any G p room _ X s w h hr);have ho := (h.each _ (getK_mem hg)).1;have HB : Hid (IsB w (.slice A n cc) a.2.1) := by
  have := ho.isB;rw [show (s.data.toList, a).2.1 = a.1 from rfl, ha] at this;exact this
 obtain ⟨N, hN⟩ : ∃ N, N = X.length := ⟨_, rfl⟩;obtain ⟨j, hj⟩ : ∃ j, j = posK s.data.toList X := ⟨_, rfl⟩;rw [<- hj, hg] at HS;rw [<- hj] at hjl q0 q1 q2;rw [<- hN] at c1 hjl hXc;obtain ⟨xs, hxs⟩ : ∃ xs, xs = a.2.1 := ⟨_, rfl⟩;rw [<- hxs] at HB hlen hn ⊢;clear h hN hj hg hr fz hGg ha q0 q2 hXj ho hxs;go_enter Tryz.func86, Tryz.ntmps86;go_wp2_with fail
 refine HS.out.mono ?_;rintro e w1 ⟨rfl, dd, hd⟩;have k1 : Below w.heap.size w w1 := by rw [hd]; exact below_drewN (Below.refl _ _) dd
 have c1' : w1.cell? ⟨p, 1, none⟩ = some (.slice (some ⟨g, 0, none⟩) N c) := by rw [hd]; exact c1
 have q1' : w1.cell? ⟨g, j * 3 + 1, none⟩ = some (.slice A n cc) := by rw [hd]; exact q1
 have hpl : p < w1.heap.size := cell_lt c1';have hgl1 : g < w1.heap.size := cell_lt q1';clear hd c1 q1;have K1 := hide k1;clear k1;have HN := hide hn;clear hn;go_wp2_with (at_builtin; refine halt ?_)
 refine ⟨?_⟩;have nb := below_alloc w1 (.cells #[] 5);refine wpList_append_bytes rfl (.tmp 16) (.tmp 24) rfl w1.heap.size _ [] rfl (own_lit w1 #[] [] rfl (by decide)) _ xs rfl ((HB.out.keep K1.out).keep nb) (by rw [List.length_nil]; omega) nb.size ?_;intro v2 w2 o2 k2;rw [List.nil_append] at o2;have O2 := hide (o2.more K1.out.size);have K2 := hide (below_step K1.out (nb.trans k2));clear nb o2 k2;go_wp2_with fail
 go_ret2;exact ⟨_, rfl, O2.out, K2.out⟩
theorem own_emptyB (hB : B <= W.heap.size) (b : Nat) (hb : b = W.heap.size) : Own (W.alloc (.cells #[] 5)) B (.slice (some ⟨b, 0, none⟩) 0 0) [] := by
 subst hb;exact (own_lit W #[] [] rfl (by decide)).more hB
theorem Own.shape {v : Value} {xs : List Nat} (h : Own w B v xs) : ∃ A n c, v = .slice A n c := by
 obtain ⟨A, c, e, _⟩ := h.form;exact ⟨_, _, _, e⟩
theorem RShell.at_ {X : List (Str × Fil)} (h : RShell w G p room (.slice (some ⟨g, 0, none⟩) X.length c) X) (i : Nat) (hi : i < X.length) :
  w.cell? ⟨g, i * 3, none⟩ = some (encStr X[i].1) /\ w.cell? ⟨g, i * 3 + 1, none⟩ = some X[i].2.1 /\ w.cell? ⟨g, i * 3 + 2, none⟩ = some (.int .i64 (X[i].2.2.2 : Int)) /\ ∀ j, w.frozen? ⟨g, j, none⟩ = false := by
 obtain ⟨A0, c0, e, _, _, _, hcell⟩ := h.form;obtain ⟨g', e', _, _, h3, h4, h5, h6⟩ := hcell i hi;simp only [Value.slice.injEq] at e;obtain ⟨rfl, _, rfl⟩ := e;simp only [Option.some.injEq, Addr.mk.injEq] at e';obtain ⟨rfl, _⟩ := e';exact ⟨h3, h4, h5, h6⟩
theorem lay_bytes {X : List (Str × Fil)} {u : Value} {ys : List Nat} (h : RShell w G p room (.slice (some ⟨g, 0, none⟩) X.length c) X) (k : Below w.heap.size w w3) (hG : G g) (j : Nat) (hj : j < X.length)
  (ho : Own w3 B u ys) (hB : w.heap.size <= B) (hy : ∀ x ∈ ys, x < 256) :
  ∃ G', RShell (w3.setCell ⟨g, j * 3 + 1, none⟩ u) G' p room (.slice (some ⟨g, 0, none⟩) X.length c) (X.set j (X[j].1, (u, ys, X[j].2.2.2))) /\ Next G w G' (w3.setCell ⟨g, j * 3 + 1, none⟩ u) /\ G' g := by
 have h3 := h.below k;refine ⟨fun i => G i \/ (w.heap.size <= i /\ i < w3.heap.size), ?_, ?_, .inl hG⟩
 ·refine (h3.more (fun i hi => .inl hi) (fun i hi => ?_)).set1 j hj (ho.more (Nat.zero_le _)) (fun b hb => .inr ?_) hy
  ·rcases hi with hi | hi
   ·exact h3.low i hi
   ·exact hi.2
  ·have := ho.lt b hb;exact ⟨by omega, this.2⟩
 ·refine ⟨(next_store hG (Turn.of_below G k)).turn, fun i hi => ?_⟩;rcases hi with hi | hi
  ·exact .inl hi
  ·exact .inr hi.1
theorem rcut_arg (G : Nat -> Prop) (p room : Nat) (v : Value) (X : List (Str × Fil)) (s : ByteArray) (a : Fil) (z : Int) (w : World) (h : RShell w G p room v X) (hr : Rise X) (hg : getK s.data.toList X = some a) (hz : z < 0 \/ (a.2.1.length : Int) < z) :
  Calls Tryz.prog 53 #[.pointer (some ⟨p, 0, none⟩), .string s, .int .i64 z] w fun e w' => e = .returned (.int .i64 1) /\ ∃ d, w' = w.drewN d := by
 obtain ⟨g, c, A, n, cc, rfl, ha, hn, hncc, hcc, hXc, hc63, hGg, hgl, q0, q1, q2, fz⟩ := rfound h hr hg;obtain ⟨hjl, hXj⟩ := posK_get hr hg;have c1 : w.cell? ⟨p, 1, none⟩ = some (.slice (some ⟨g, 0, none⟩) X.length c) := h.cells.cell 1;have HS := hide (spot_any G p room _ X s w h hr);obtain ⟨N, hN⟩ : ∃ N, N = X.length := ⟨_, rfl⟩;obtain ⟨j, hj⟩ : ∃ j, j = posK s.data.toList X := ⟨_, rfl⟩;rw [<- hj, hg] at HS;rw [<- hj] at hjl q0 q1 q2;rw [<- hN] at c1 hjl hXc;rw [hn] at hz;clear h hN hj hg hr fz hGg ha q0 q2 hXj hn;rcases hz with hz | hz
 ·go_enter Tryz.func53, Tryz.ntmps53;go_wp2_with fail
  refine HS.out.mono ?_;rintro e w1 ⟨rfl, dd, rfl⟩;go_wp2_with fail
  go_ret;exact ⟨rfl, dd, rfl⟩
 ·have hz0 : ¬ z < 0 := by omega
  go_enter Tryz.func53, Tryz.ntmps53;go_wp2_with fail
  refine HS.out.mono ?_;rintro e w1 ⟨rfl, dd, rfl⟩;go_wp2_with fail
  go_ret;exact ⟨rfl, dd, rfl⟩
set_option maxRecDepth 100000 in
set_option maxHeartbeats 3200000 in
theorem rcut_ok (G : Nat -> Prop) (p room : Nat) (v : Value) (X : List (Str × Fil)) (s : ByteArray) (a : Fil) (k : Nat) (w : World) (h : RShell w G p room v X) (hr : Rise X) (hg : getK s.data.toList X = some a) (hk : k <= a.2.1.length) (hlen : a.2.1.length <= 1099511627776) :
  Calls Tryz.prog 53 #[.pointer (some ⟨p, 0, none⟩), .string s, .int .i64 (k : Int)] w fun e w' => e = .returned (.int .i64 0) /\ ∃ G' v' u, RShell w' G' p room v' (putK s.data.toList (u, a.2.1.take k, min a.2.2 k) X) /\ Next G w G' w' := by
 obtain ⟨g, c, A, n, cc, rfl, ha, hn, hncc, hcc, hXc, hc63, hGg, hgl, q0, q1, q2, fz⟩ := rfound h hr hg;obtain ⟨hjl, hXj⟩ := posK_get hr hg;have c1 : w.cell? ⟨p, 1, none⟩ = some (.slice (some ⟨g, 0, none⟩) X.length c) := h.cells.cell 1;have HS := hide (spot_any G p room _ X s w h hr);have HP := hide (fun u : Value => put_at (u, a.2.1.take k, min a.2.2 k) hr hg);have HX := hide h;have ho := (h.each _ (getK_mem hg)).1;have hb8 : ∀ x ∈ a.2.1.take k, x < 256 := fun x hx => (h.each _ (getK_mem hg)).2.2 x (List.mem_of_mem_take hx)
 have HB8 := hide hb8;have HB : Hid (IsB w (.slice A n cc) a.2.1) := by
  have := ho.isB;rw [show (s.data.toList, a).2.1 = a.1 from rfl, ha] at this;exact this
 obtain ⟨N, hN⟩ : ∃ N, N = X.length := ⟨_, rfl⟩;obtain ⟨j, hj⟩ : ∃ j, j = posK s.data.toList X := ⟨_, rfl⟩;have HXJ : Hid (∃ hj : j < X.length, X[j] = (s.data.toList, a)) := by
  subst hj;exact ⟨hjl, hXj⟩
 rw [<- hj, hg] at HS;rw [<- hj] at HP hjl q0 q1 q2;rw [<- hN] at c1 hjl hXc;obtain ⟨u0, xs, l⟩ := a;simp only at ha hn hk hlen HB q2 HB8;subst ha;have HN := hide hN;have HNN := hide hn;have HGG := hide hGg;have HK : Hid ((xs.take k).length <= 1099511627776) := by unfold Hid; rw [List.length_take]; omega
 have hkn : k <= n := by omega
 have hz0 : ¬ ((k : Int) < 0) := by omega
 have hz1 : ¬ ((n : Int) < (k : Int)) := by omega
 have hkc : (k : Int) <= (cc : Int) := by omega
 have HT := hide (HB.out.take k hkn);clear h hN hj hg hr hn hGg q0 hXj ho hb8 hk HB;go_enter Tryz.func53, Tryz.ntmps53;go_wp2_with fail
 refine HS.out.mono ?_;rintro e w1 ⟨rfl, dd, hd⟩;have k1 : Below w.heap.size w w1 := by rw [hd]; exact below_drewN (Below.refl _ _) dd
 have hz : w1.heap.size = w.heap.size := by rw [hd]; rfl
 have c1' : w1.cell? ⟨p, 1, none⟩ = some (.slice (some ⟨g, 0, none⟩) N c) := by rw [hd]; exact c1
 have q1' : w1.cell? ⟨g, j * 3 + 1, none⟩ = some (.slice A n cc) := by rw [hd]; exact q1
 have f1' : ∀ i, w1.frozen? ⟨g, i, none⟩ = false := by rw [hd]; exact fz
 have hpl : p < w1.heap.size := cell_lt c1';have hgl1 : g < w1.heap.size := cell_lt q1';have HT1 := hide (HT.out.keep k1);have K1 := hide k1;have HX1 := hide (HX.out.below k1);have N1 := hide (Next.of_below G k1);have f1 := hide f1';clear hd c1 fz q1 q2 k1 hz f1';have KA := below_alloc w1 (.cells #[] 5);go_wp2_with fail
 go_region_law (first
  | (refine step_append_bytes rfl (.tmp 37) (.tmp 47) rfl w1.heap.size _ [] rfl (own_emptyB (W := w1) (Nat.le_refl _) _ rfl) _ (xs.take k) rfl (HT1.out.keep ⟨KA.os, KA.tape, KA.output, KA.size, KA.block⟩) (by rw [List.length_nil]; have := HK.out; omega) KA.size ?_; intro v3 w3 o3 k3; rw [List.nil_append] at o3; have K3 : Below w1.heap.size w1 w3 := (by refine Below.trans ?_ k3; exact ⟨KA.os, KA.tape, KA.output, KA.size, KA.block⟩); obtain ⟨A3, n3, c3, rfl⟩ := o3.shape; have q3 : w3.cell? ⟨g, j * 3 + 1, none⟩ = some (.slice A n cc) := (by rw [<- q1']; exact K3.cell hgl1); have q3c : w3.cell? ⟨p, 1, none⟩ = some (.slice (some ⟨g, 0, none⟩) N c) := (by rw [<- c1']; exact K3.cell hpl); have f3 : w3.frozen? ⟨g, j * 3 + 1, none⟩ = false := (by rw [<- f1.out (j * 3 + 1)]; exact K3.frozen hgl1); have O3 := hide o3; have KK3 := hide K3; clear o3 k3 K3))
 all_goals
  obtain ⟨hjl', hXj⟩ := HXJ.out;obtain ⟨G', s4, n4, g4⟩ := lay_bytes HX1.out KK3.out HGG.out j hjl' O3.out (Nat.le_refl _) HB8.out;rw [hXj] at s4;obtain ⟨w4, h4⟩ : ∃ w4, w4 = w3.setCell ⟨g, j * 3 + 1, none⟩ (.slice A3 n3 c3) := ⟨_, rfl⟩;rw [<- h4] at s4 n4 ⊢;clear h4 f3 q3 q3c;have hl4 : (X.set j (s.data.toList, (.slice A3 n3 c3, xs.take k, l))).length = X.length := List.length_set;have s5 : RShell w4 G' p room (.slice (some ⟨g, 0, none⟩) (X.set j (s.data.toList, ((.slice A3 n3 c3, xs.take k, l) : Fil))).length c) (X.set j (s.data.toList, (.slice A3 n3 c3, xs.take k, l))) := by rw [hl4]; exact s4
  have hj4 : j < (X.set j (s.data.toList, ((.slice A3 n3 c3, xs.take k, l) : Fil))).length := by rw [hl4]; exact hjl'
  obtain ⟨-, -, t2a, t3a⟩ := s5.at_ j hj4;rw [List.getElem_set_self] at t2a;have t2 : w4.cell? ⟨g, j * 3 + 2, none⟩ = some (.int .i64 (l : Int)) := t2a;have t3 := t3a (j * 3 + 2);clear t2a t3a;have t1 : w4.cell? ⟨p, 1, none⟩ = some (.slice (some ⟨g, 0, none⟩) N c) := by rw [HN.out]; exact s4.cells.cell 1
  have hs6 := s5.set2 j hj4 (min l k);have hm : ((min l k : Nat) : Int) = min (l : Int) (k : Int) := by omega
  rw [List.getElem_set_self, List.set_set, hm] at hs6;have hs7 : ∃ G' v' u, RShell (w4.setCell ⟨g, j * 3 + 2, none⟩ (.int .i64 (min (l : Int) (k : Int)))).drew G' p room v' (putK s.data.toList (u, xs.take k, min l k) X) /\ Next G w G' (w4.setCell ⟨g, j * 3 + 2, none⟩ (.int .i64 (min (l : Int) (k : Int)))).drew := by
   refine ⟨G', .slice (some ⟨g, 0, none⟩) (X.set j (s.data.toList, ((.slice A3 n3 c3, xs.take k, l) : Fil))).length c, .slice A3 n3 c3, ?_, ((N1.out.trans n4).trans (next_store g4 (Turn.refl _ _))).drewN 1⟩;rw [HP.out];exact hs6.turn (S := fun _ => False) (Turn.of_below _ ⟨rfl, rfl, rfl, Nat.le_refl _, fun _ _ => rfl⟩) (fun _ _ => id)
  have HS7 := hide hs7;clear hs7 hs6 s5 s4 n4 hj4 hl4 hXj g4 hm;go_wp2_with fail
  go_region
  all_goals
   go_wp2_with fail
   go_ret;exact ⟨rfl, HS7.out⟩
theorem rrot_out (G : Nat -> Prop) (p room : Nat) (v : Value) (X : List (Str × Fil)) (s : ByteArray) (a : Fil) (z y : Int) (w : World) (h : RShell w G p room v X) (hr : Rise X) (hg : getK s.data.toList X = some a) (hz : z < 0 \/ (a.2.1.length : Int) <= z) :
  Calls Tryz.prog 51 #[.pointer (some ⟨p, 0, none⟩), .string s, .int .i64 z, .int .u8 y] w fun e w' => e = .returned (.int .i64 7) /\ ∃ d, w' = w.drewN d := by
 obtain ⟨g, c, A, n, cc, rfl, ha, hn, hncc, hcc, hXc, hc63, hGg, hgl, q0, q1, q2, fz⟩ := rfound h hr hg;obtain ⟨hjl, hXj⟩ := posK_get hr hg;have c1 : w.cell? ⟨p, 1, none⟩ = some (.slice (some ⟨g, 0, none⟩) X.length c) := h.cells.cell 1;have HS := hide (spot_any G p room _ X s w h hr);obtain ⟨N, hN⟩ : ∃ N, N = X.length := ⟨_, rfl⟩;obtain ⟨j, hj⟩ : ∃ j, j = posK s.data.toList X := ⟨_, rfl⟩;rw [<- hj, hg] at HS;rw [<- hj] at hjl q0 q1 q2;rw [<- hN] at c1 hjl hXc;rw [hn] at hz;clear h hN hj hg hr fz hGg ha q0 q2 hXj hn;rcases hz with hz | hz
 ·go_enter Tryz.func51, Tryz.ntmps51;go_wp2_with fail
  refine HS.out.mono ?_;rintro e w1 ⟨rfl, dd, rfl⟩;go_wp2_with fail
  go_ret;exact ⟨rfl, dd, rfl⟩
 ·have hz0 : ¬ z < 0 := by omega
  go_enter Tryz.func51, Tryz.ntmps51;go_wp2_with fail
  refine HS.out.mono ?_;rintro e w1 ⟨rfl, dd, rfl⟩;go_wp2_with fail
  go_ret;exact ⟨rfl, dd, rfl⟩
set_option maxRecDepth 100000 in
set_option maxHeartbeats 3200000 in
theorem rrot_ok (G : Nat -> Prop) (p room : Nat) (v : Value) (X : List (Str × Fil)) (s : ByteArray) (a : Fil) (k y : Nat) (w : World) (h : RShell w G p room v X) (hr : Rise X) (hg : getK s.data.toList X = some a) (hk : k < a.2.1.length) (hy : y < 256) (hlen : a.2.1.length <= 1099511627776) :
  Calls Tryz.prog 51 #[.pointer (some ⟨p, 0, none⟩), .string s, .int .i64 (k : Int), .int .u8 (y : Int)] w fun e w' => e = .returned (.int .i64 0) /\ ∃ G' v' u, RShell w' G' p room v' (putK s.data.toList (u, a.2.1.set k (a.2.1.getD k 0 ^^^ y), a.2.2) X) /\ Next G w G' w' := by
 obtain ⟨g, c, A, n, cc, rfl, ha, hn, hncc, hcc, hXc, hc63, hGg, hgl, q0, q1, q2, fz⟩ := rfound h hr hg;obtain ⟨hjl, hXj⟩ := posK_get hr hg;have c1 : w.cell? ⟨p, 1, none⟩ = some (.slice (some ⟨g, 0, none⟩) X.length c) := h.cells.cell 1;have HS := hide (spot_any G p room _ X s w h hr);have HP := hide (fun u : Value => put_at (u, a.2.1.set k (a.2.1.getD k 0 ^^^ y), a.2.2) hr hg);have HX := hide h;have ho := (h.each _ (getK_mem hg)).1;have hb8 : ∀ x ∈ a.2.1, x < 256 := (h.each _ (getK_mem hg)).2.2;have HB : Hid (IsB w (.slice A n cc) a.2.1) := by
  have := ho.isB;rw [show (s.data.toList, a).2.1 = a.1 from rfl, ha] at this;exact this
 obtain ⟨N, hN⟩ : ∃ N, N = X.length := ⟨_, rfl⟩;obtain ⟨j, hj⟩ : ∃ j, j = posK s.data.toList X := ⟨_, rfl⟩;have HXJ : Hid (∃ hj : j < X.length, X[j] = (s.data.toList, a)) := by
  subst hj;exact ⟨hjl, hXj⟩
 rw [<- hj, hg] at HS;rw [<- hj] at HP hjl q0 q1 q2;rw [<- hN] at c1 hjl hXc;obtain ⟨u0, xs, l⟩ := a;simp only at ha hn hk hlen HB q2 hb8;subst ha;have hxk : xs.getD k 0 < 256 := by
  have e : xs.getD k 0 = xs[k] := by simp [hk]
  rw [e];exact hb8 _ (List.getElem_mem _)
 have hx8 := xor8 (xs.getD k 0) y hxk hy;obtain ⟨x, hxe⟩ : ∃ x, x = xs.getD k 0 := ⟨_, rfl⟩;have HXE := hide hxe
 show Calls _ _ _ _ fun e w' => e = .returned (.int .i64 0) /\ ∃ G' v' u, RShell w' G' p room v' (putK s.data.toList (u, xs.set k (xs.getD k 0 ^^^ y), l) X) /\ Next G w G' w'
 rw [<- hxe] at hxk hx8 ⊢;have HP : Hid (∀ u : Value, putK s.data.toList (u, xs.set k (x ^^^ y), l) X = X.set j (s.data.toList, u, xs.set k (x ^^^ y), l)) := by
  rw [hxe];exact HP.out
 have hxy : x ^^^ y < 256 := Nat.xor_lt_two_pow (n := 8) hxk hy;have HBB : Hid (∀ z ∈ xs.set k (x ^^^ y), z < 256) := by
  intro z hz;rcases List.mem_or_eq_of_mem_set hz with h | h
  ·exact hb8 z h
  ·rw [h]; exact hxy
 have HN := hide hN;have HNN := hide hn;have HGG := hide hGg;have hkz : ¬ ((k : Int) < 0) := by omega
 have hkn : ¬ ((n : Int) <= (k : Int)) := by omega
 have hkn2 : (k : Int) < (n : Int) := by omega
 clear h hN hj hg hr hn hGg q0 hXj ho hb8 hk hxe q2;go_enter Tryz.func51, Tryz.ntmps51;go_wp2_with fail
 refine HS.out.mono ?_;rintro e w1 ⟨rfl, dd, hd⟩;have k1 : Below w.heap.size w w1 := by rw [hd]; exact below_drewN (Below.refl _ _) dd
 have c1' : w1.cell? ⟨p, 1, none⟩ = some (.slice (some ⟨g, 0, none⟩) N c) := by rw [hd]; exact c1
 have q1' : w1.cell? ⟨g, j * 3 + 1, none⟩ = some (.slice A n cc) := by rw [hd]; exact q1
 have f1' : ∀ i, w1.frozen? ⟨g, i, none⟩ = false := by rw [hd]; exact fz
 have hpl : p < w1.heap.size := cell_lt c1';have hgl1 : g < w1.heap.size := cell_lt q1';have HB1 := hide (HB.out.keep k1);have HX1 := hide (HX.out.below k1);have N1 := hide (Next.of_below G k1);have f1 := hide f1';clear hd c1 fz q1 k1 f1';go_wp2_with (at_builtin; refine halt ?_)
 refine ⟨?_⟩;have nb := below_alloc w1 (.cells #[] 5);refine wpList_append_bytes rfl (.tmp 37) (.tmp 45) rfl w1.heap.size _ [] rfl (own_lit w1 #[] [] rfl (by decide)) _ xs rfl (HB1.out.keep nb) (by rw [List.length_nil]; omega) nb.size ?_;intro v2 w2 o2 k2;rw [List.nil_append] at o2;have K2 : Below w1.heap.size w1 w2 := nb.trans k2;obtain ⟨b, c2, rfl, hb1, hnc2, hc2, hcell, hfr⟩ := o2.at_ HNN.out (by omega);have hck := hcell k (by omega);have hfk := hfr k;rw [<- HXE.out] at hck;have o3 := o2.stored HNN.out k (x ^^^ y);have K3 : Below w1.heap.size w1 (w2.setCell ⟨b, k, none⟩ (.int .u8 ((x ^^^ y : Nat) : Int))) := K2.grown (grown_set w2 b k _) K2.size (fun i hi => by
  have hi : i = b := by simpa using hi.symm
  omega)
 have O3 := hide o3;have KK3 := hide K3;have q3 := (K3.cell (p := ⟨g, j * 3 + 1, none⟩) hgl1).trans q1';have q3c := (K3.cell (p := ⟨p, 1, none⟩) hpl).trans c1';have f3 := (K3.frozen (p := ⟨g, j * 3 + 1, none⟩) hgl1).trans (f1.out (j * 3 + 1));clear nb k2 o2 o3 K3 K2 hcell hfr;obtain ⟨hjl', hXj⟩ := HXJ.out;obtain ⟨G', s4, n4, g4⟩ := lay_bytes HX1.out KK3.out HGG.out j hjl' O3.out (Nat.le_refl _) HBB.out;rw [hXj] at s4;have S4 : Hid (∃ G' v' u, RShell ((w2.setCell ⟨b, k, none⟩ (.int .u8 ((x ^^^ y : Nat) : Int))).setCell ⟨g, j * 3 + 1, none⟩ (.slice (some ⟨b, 0, none⟩) n c2)) G' p room v' (putK s.data.toList (u, xs.set k (x ^^^ y), l) X) /\ Next G w G' ((w2.setCell ⟨b, k, none⟩ (.int .u8 ((x ^^^ y : Nat) : Int))).setCell ⟨g, j * 3 + 1, none⟩ (.slice (some ⟨b, 0, none⟩) n c2))) := by
  refine ⟨G', .slice (some ⟨g, 0, none⟩) X.length c, .slice (some ⟨b, 0, none⟩) n c2, ?_, N1.out.trans n4⟩;rw [HP.out];exact s4
 clear s4 n4 hXj g4;go_wp2_with fail
 go_ret;exact ⟨rfl, S4.out⟩
theorem sumK_take (X : List (Str × Fil)) (j : Nat) (hj : j < X.length) : sumK filL (X.take (j + 1)) = sumK filL (X.take j) + X[j].2.2.1.length := by
 unfold sumK;rw [List.take_succ_eq_append_getElem hj, List.map_append, List.sum_append];simp [filL]
theorem sumK_le (X : List (Str × Fil)) (j : Nat) : sumK filL (X.take j) <= sumK filL X := by
 have h : sumK filL (X.take j) + sumK filL (X.drop j) = sumK filL X := by
  unfold sumK;rw [<- List.sum_append, <- List.map_append, List.take_append_drop]
 omega
set_option maxRecDepth 100000 in
set_option maxHeartbeats 1600000 in
theorem rused_any (G : Nat -> Prop) (p room : Nat) (v : Value) (X : List (Str × Fil)) (w : World) (h : RShell w G p room v X) (hu : sumK filL X <= 1099511627776) :
  Calls Tryz.prog 33 #[.pointer (some ⟨p, 0, none⟩)] w fun e w' => e = .returned (.int .i64 ((sumK filL X : Nat) : Int)) /\ w = w' := by
 obtain ⟨A, c, rfl, hlc, hc63, _, hcell⟩ := h.form;have c1 : w.cell? ⟨p, 1, none⟩ = some (.slice A X.length c) := h.cells.cell 1;obtain ⟨N, hN⟩ : ∃ N, N = X.length := ⟨_, rfl⟩;rw [<- hN] at c1 hlc;have HE := hide (fun q hq => (h.each q hq).1 : ∀ q ∈ X, Own w 0 q.2.1 q.2.2.1);have HN := hide hN;have HC := hide hcell;have HU := hide hu;clear h hcell hN hu;go_enter Tryz.func33, Tryz.ntmps33;go_wp2_with fail
 go_loopw [3, 4] (fun n i wr => ∃ j : Nat, j <= N /\ n = .int .i64 ((sumK filL (X.take j) : Nat) : Int) /\ i = .int .i64 (j : Int) /\ wr = w) (fun _ i _ => N - (intOf i).toNat)
 case atStart => exact ⟨0, Nat.zero_le _, rfl, rfl, rfl⟩
 case round =>
  obtain ⟨j, hj, rfl, rfl, rfl⟩ := hrel;by_cases hlt : j < N
  ·have hjX : j < X.length := by rw [<- HN.out]; exact hlt
   obtain ⟨g, rfl, _, hgl, q0, q1, q2, _⟩ := HC.out j hjX;obtain ⟨A', cc, e, _, h7, h8⟩ := (HE.out X[j] (List.getElem_mem hjX)).isB.form rfl;rw [e] at q1;have ht := sumK_take X j hjX;have hle := sumK_le X (j + 1);have hu := HU.out;obtain ⟨m, hm⟩ : ∃ m, m = sumK filL (X.take j) := ⟨_, rfl⟩;obtain ⟨n, hn⟩ : ∃ n, n = X[j].2.2.1.length := ⟨_, rfl⟩;rw [<- hn] at q1 h7;rw [<- hm, <- hn] at ht;rw [<- hm];have hb : m + n <= 1099511627776 := by omega
   have HT := hide ht;clear ht hle hu hm hn e q0 q2;go_wp2_with fail
   go_roundw
   case rel => exact ⟨j + 1, by omega, by rw [HT.out]; go_num, by go_num, trivial⟩
   case measure => simp [intOf]; omega
  ·obtain rfl : j = N := by omega
   go_wp2_with fail
   go_ret;refine ⟨?_, rfl⟩;rw [HN.out, List.take_length]
   rfl
theorem rappend_arg (p : Nat) (s : ByteArray) (v : Value) (w : World) (hs : ¬ (1 <= s.size /\ s.size <= 64)) (hb : s.size <= 9223372036854775807) :
  Calls Tryz.prog 10 #[.pointer (some ⟨p, 0, none⟩), .string s, v] w fun e w' => e = .returned (.int .i64 1) /\ w = w' := by
 have HT := hide (rIsName_any s w hb);rw [decide_eq_false hs] at HT;clear hs;go_enter Tryz.func10, Tryz.ntmps10;go_wp2_with fail
 refine HT.out.mono ?_;rintro e w0 ⟨rfl, rfl⟩;go_wp2_with fail
 go_ret;exact ⟨rfl, rfl⟩
set_option maxRecDepth 100000 in
set_option maxHeartbeats 1600000 in
theorem rappend_full (G : Nat -> Prop) (p room : Nat) (v : Value) (X : List (Str × Fil)) (s : ByteArray) (P : Option Addr) (m cp : Nat) (w : World) (h : RShell w G p room v X) (hr : Rise X) (hn : 1 <= s.size /\ s.size <= 64) (hroom : room <= 1099511627776) (hu : sumK filL X <= 1099511627776) (hmr : m <= 1099511627776)
  (his : ((getK s.data.toList X).isSome = true \/ (getK s.data.toList X).isSome = false /\ X.length < 256) /\ room < sumK filL X + m \/ (getK s.data.toList X).isSome = false /\ 256 <= X.length) :
  Calls Tryz.prog 10 #[.pointer (some ⟨p, 0, none⟩), .string s, .slice P m cp] w fun e w' => e = .returned (.int .i64 6) /\ ∃ d, w' = w.drewN d := by
 obtain ⟨A, c, rfl, hlc, hc63, _, _⟩ := h.form;have c0 : w.cell? ⟨p, 0, none⟩ = some (.int .i64 (room : Int)) := h.cells.cell 0;have c1 : w.cell? ⟨p, 1, none⟩ = some (.slice A X.length c) := h.cells.cell 1;have HIN := hide (rIsName_any s w (by omega));rw [decide_eq_true hn] at HIN;have HS := hide (spot_any G p room _ X s w h hr);have HX := hide h;obtain ⟨is, hi⟩ : ∃ is, is = (getK s.data.toList X).isSome := ⟨_, rfl⟩;obtain ⟨j, hj⟩ : ∃ j, j = posK s.data.toList X := ⟨_, rfl⟩;obtain ⟨N, hN⟩ : ∃ N, N = X.length := ⟨_, rfl⟩;obtain ⟨u, hU⟩ : ∃ u, u = sumK filL X := ⟨_, rfl⟩;have hjN : j <= N := by rw [hj, hN]; exact pos_le _ _
 rw [<- hi, <- hj] at HS;rw [<- hi, <- hN, <- hU] at his;rw [<- hN] at c1 hlc;have HU := hide hU;have HUU := hide hu;rw [<- hU] at hu;clear h hi hj hN hr hn hU;rcases his with ⟨rfl | ⟨rfl, hfew⟩, hful⟩ | ⟨rfl, hmany⟩
 ·have hgo : (room : Int) < (u : Int) + (m : Int) := by omega
  have hb : u + m <= 9223372036854775807 := by omega
  go_enter Tryz.func10, Tryz.ntmps10;go_wp2_with fail
  refine HIN.out.mono ?_;rintro e w0 ⟨rfl, rfl⟩;go_wp2_with fail
  refine HS.out.mono ?_;rintro e w1 ⟨rfl, dd, hd⟩;have c0' : w1.cell? ⟨p, 0, none⟩ = some (.int .i64 (room : Int)) := by rw [hd]; exact c0
  have c1' : w1.cell? ⟨p, 1, none⟩ = some (.slice A N c) := by rw [hd]; exact c1
  have HX1 := hide (HX.out.below (w' := w1) (by rw [hd]; exact below_drewN (Below.refl _ _) dd));have HD := hide hd;clear hd c0 c1;go_wp2_with fail
  go_quiet ((go_at_call 33; refine Calls.quiet_of (v := .int .i64 (u : Int)) ?_; refine (rused_any G p room _ X _ (HX1.out.below (below_drewN (Below.refl _ _) _)) HUU.out).mono ?_; rintro e w' ⟨rfl, rfl⟩; exact ⟨by rw [HU.out], 0, rfl⟩))
  go_wp2_with fail
  go_ret;exact ⟨rfl, _, by rw [HD.out, World.drewN_drewN]⟩
 ·have hfew2 : (decide (256 <= (N : Int))) = false := decide_eq_false (by omega);have hfew3 : ¬ (256 <= (N : Int)) := by omega
  have hgo : (room : Int) < (u : Int) + (m : Int) := by omega
  have hb : u + m <= 9223372036854775807 := by omega
  go_enter Tryz.func10, Tryz.ntmps10;go_wp2_with fail
  refine HIN.out.mono ?_;rintro e w0 ⟨rfl, rfl⟩;go_wp2_with fail
  refine HS.out.mono ?_;rintro e w1 ⟨rfl, dd, hd⟩;have c0' : w1.cell? ⟨p, 0, none⟩ = some (.int .i64 (room : Int)) := by rw [hd]; exact c0
  have c1' : w1.cell? ⟨p, 1, none⟩ = some (.slice A N c) := by rw [hd]; exact c1
  have HX1 := hide (HX.out.below (w' := w1) (by rw [hd]; exact below_drewN (Below.refl _ _) dd));have HD := hide hd;clear hd c0 c1;go_wp2_with fail
  go_quiet ((go_at_call 33; refine Calls.quiet_of (v := .int .i64 (u : Int)) ?_; refine (rused_any G p room _ X _ (HX1.out.below (below_drewN (Below.refl _ _) _)) HUU.out).mono ?_; rintro e w' ⟨rfl, rfl⟩; exact ⟨by rw [HU.out], 0, rfl⟩))
  go_wp2_with fail
  go_ret;exact ⟨rfl, _, by rw [HD.out, World.drewN_drewN]⟩
 ·have hmany2 : (decide (256 <= (N : Int))) = true := decide_eq_true (by omega);have hmany3 : 256 <= (N : Int) := by omega
  go_enter Tryz.func10, Tryz.ntmps10;go_wp2_with fail
  refine HIN.out.mono ?_;rintro e w0 ⟨rfl, rfl⟩;go_wp2_with fail
  refine HS.out.mono ?_;rintro e w1 ⟨rfl, dd, hd⟩;have c0' : w1.cell? ⟨p, 0, none⟩ = some (.int .i64 (room : Int)) := by rw [hd]; exact c0
  have c1' : w1.cell? ⟨p, 1, none⟩ = some (.slice A N c) := by rw [hd]; exact c1
  have HD := hide hd;clear hd c0 c1;go_wp2_with fail
  go_region
  all_goals
   go_wp2_with fail
   go_ret;exact ⟨rfl, dd + 1, by rw [HD.out]; exact World.drewN_drewN w dd 1⟩
set_option maxRecDepth 100000 in
set_option maxHeartbeats 6400000 in
theorem rappend_old (G : Nat -> Prop) (p room : Nat) (v : Value) (X : List (Str × Fil)) (s : ByteArray) (a : Fil) (P : Option Addr) (m cp : Nat) (ps : List Nat) (w : World) (h : RShell w G p room v X) (hr : Rise X) (hg : getK s.data.toList X = some a) (hn : 1 <= s.size /\ s.size <= 64) (hroom : room <= 1099511627776) (hu : sumK filL X <= 1099511627776) (hmr : m <= 1099511627776)
  (hful : sumK filL X + m <= room) (hPB : IsB w (.slice P m cp) ps) (hPM : ps.length = m) (hP8 : ∀ x ∈ ps, x < 256) (hlen : a.2.1.length <= 1099511627776) :
  Calls Tryz.prog 10 #[.pointer (some ⟨p, 0, none⟩), .string s, .slice P m cp] w fun e w' => e = .returned (.int .i64 0) /\ ∃ G' v' u, RShell w' G' p room v' (putK s.data.toList (u, a.2.1 ++ ps, a.2.2) X) /\ Next G w G' w' := by
 obtain ⟨g, c, A, n, cc, rfl, ha, hxn, hncc, hcc, hXc, hc63, hGg, hgl, q0, q1, q2, fz⟩ := rfound h hr hg;obtain ⟨hjl, hXj⟩ := posK_get hr hg;have c0 : w.cell? ⟨p, 0, none⟩ = some (.int .i64 (room : Int)) := h.cells.cell 0;have c1 : w.cell? ⟨p, 1, none⟩ = some (.slice (some ⟨g, 0, none⟩) X.length c) := h.cells.cell 1;have HIN := hide (rIsName_any s w (by omega));rw [decide_eq_true hn] at HIN;have HS := hide (spot_any G p room _ X s w h hr);have HQ := hide (fun u : Value => put_at (u, a.2.1 ++ ps, a.2.2) hr hg);have HX := hide h;have ho := (h.each _ (getK_mem hg)).1;have hb8 : ∀ x ∈ a.2.1, x < 256 := (h.each _ (getK_mem hg)).2.2;have H8 : Hid (∀ x ∈ a.2.1 ++ ps, x < 256) := by
  intro x hx;rcases List.mem_append.1 hx with hx | hx
  ·exact hb8 x hx
  ·exact hP8 x hx
 have HB : Hid (IsB w (.slice A n cc) a.2.1) := by
  have := ho.isB;rw [show (s.data.toList, a).2.1 = a.1 from rfl, ha] at this;exact this
 have HPB := hide hPB;have HPM := hide hPM;obtain ⟨N, hN⟩ : ∃ N, N = X.length := ⟨_, rfl⟩;obtain ⟨j, hj⟩ : ∃ j, j = posK s.data.toList X := ⟨_, rfl⟩;obtain ⟨u, hU⟩ : ∃ u, u = sumK filL X := ⟨_, rfl⟩;have HXJ : Hid (∃ hj : j < X.length, X[j] = (s.data.toList, a)) := by
  subst hj;exact ⟨hjl, hXj⟩
 rw [<- hj, hg] at HS;rw [<- hj] at HQ hjl q0 q1 q2;rw [<- hN] at c1 hjl hXc;rw [<- hU] at hful;have HU := hide hU;have HUU := hide hu;rw [<- hU] at hu;obtain ⟨u0, xs, l⟩ := a;simp only at ha hxn hlen HB q2 H8;subst ha;have HN := hide hN;have HNN := hide hxn;have HGG := hide hGg;have f2 := fz (j * 3 + 1);have hnl : n <= 1099511627776 := by omega
 have hgo : ¬ ((room : Int) < (u : Int) + (m : Int)) := by omega
 have hb : u + m <= 9223372036854775807 := by omega
 clear h hN hj hg hr hn hxn hGg q0 hXj ho hb8 q2 fz hPB hPM hP8 hU;go_enter Tryz.func10, Tryz.ntmps10;go_wp2_with fail
 refine HIN.out.mono ?_;rintro e w0 ⟨rfl, rfl⟩;go_wp2_with fail
 refine HS.out.mono ?_;rintro e w1 ⟨rfl, dd, hd⟩;have k1 : Below w.heap.size w w1 := by rw [hd]; exact below_drewN (Below.refl _ _) dd
 have c0' : w1.cell? ⟨p, 0, none⟩ = some (.int .i64 (room : Int)) := by rw [hd]; exact c0
 have c1' : w1.cell? ⟨p, 1, none⟩ = some (.slice (some ⟨g, 0, none⟩) N c) := by rw [hd]; exact c1
 have q1' : w1.cell? ⟨g, j * 3 + 1, none⟩ = some (.slice A n cc) := by rw [hd]; exact q1
 have f1' : w1.frozen? ⟨g, j * 3 + 1, none⟩ = false := by rw [hd]; exact f2
 have HK1 := hide k1;have HX1 := hide (HX.out.below k1);clear hd c0 c1 f2 q1 k1;go_wp2_with fail
 go_quiet ((go_at_call 33; refine Calls.quiet_of (v := .int .i64 (u : Int)) ?_; refine (rused_any G p room _ X _ (HX1.out.below (below_drewN (Below.refl _ _) _)) HUU.out).mono ?_; rintro e w' ⟨rfl, rfl⟩; exact ⟨by rw [HU.out], 0, rfl⟩))
 obtain ⟨w2, h2⟩ : ∃ w2, w2 = w1.drewN nq := ⟨_, rfl⟩;rw [<- h2];have k2 : Below w.heap.size w w2 := below_step HK1.out (by rw [h2]; exact below_drewN (Below.refl _ _) _);have c2' : w2.cell? ⟨p, 1, none⟩ = some (.slice (some ⟨g, 0, none⟩) N c) := by rw [h2]; exact c1'
 have q2' : w2.cell? ⟨g, j * 3 + 1, none⟩ = some (.slice A n cc) := by rw [h2]; exact q1'
 have f2' : w2.frozen? ⟨g, j * 3 + 1, none⟩ = false := by rw [h2]; exact f1'
 have hpl : p < w2.heap.size := cell_lt c2';have hgl2 : g < w2.heap.size := cell_lt q2';have HB2 := hide (HB.out.keep k2);have HPB2 := hide (HPB.out.keep k2);have HX2 := hide (HX.out.below k2);have N2 := hide (Next.of_below G k2);clear h2 c0' c1' q1' f1' k2 HX1;have KA := below_alloc w2 (.cells #[] 5);go_wp2_with fail
 go_region_law (first
   | (refine step_append_bytes rfl (.tmp 52) (.tmp 60) rfl w2.heap.size _ [] rfl (own_emptyB (W := w2) (Nat.le_refl _) _ rfl) _ xs rfl (HB2.out.keep ⟨KA.os, KA.tape, KA.output, KA.size, KA.block⟩) (by rw [List.length_nil]; omega) KA.size ?_; intro v3 w3 o3 k3; rw [List.nil_append] at o3; have K3 : Below w2.heap.size w2 w3 := (by refine Below.trans ?_ k3; exact ⟨KA.os, KA.tape, KA.output, KA.size, KA.block⟩); have q3c : w3.cell? ⟨p, 1, none⟩ = some (.slice (some ⟨g, 0, none⟩) N c) := (by rw [<- c2']; exact K3.cell hpl); have q3 : w3.cell? ⟨g, j * 3 + 1, none⟩ = some (.slice A n cc) := (by rw [<- q2']; exact K3.cell hgl2); clear k3)
   | (refine step_append_bytes rfl (.tmp 61) (.tmp 62) rfl w2.heap.size _ xs rfl o3 _ ps rfl (HPB2.out.keep ⟨K3.os, K3.tape, K3.output, K3.size, K3.block⟩) (by rw [HPM.out]; omega) K3.size ?_; intro v4 w4 o4 k4; have K4 : Below w2.heap.size w2 w4 := (by refine Below.trans ?_ k4; exact ⟨K3.os, K3.tape, K3.output, K3.size, K3.block⟩); obtain ⟨A4, n4, c4, rfl⟩ := o4.shape; have q4c : w4.cell? ⟨p, 1, none⟩ = some (.slice (some ⟨g, 0, none⟩) N c) := (by rw [<- c2']; exact K4.cell hpl); have q4 : w4.cell? ⟨g, j * 3 + 1, none⟩ = some (.slice A n cc) := (by rw [<- q2']; exact K4.cell hgl2); have f4 : w4.frozen? ⟨g, j * 3 + 1, none⟩ = false := (by rw [<- f2']; exact K4.frozen hgl2); have O4 := hide o4; have KK4 := hide K4; clear o4 k4 K4))
 all_goals
  obtain ⟨hjl', hXj⟩ := HXJ.out;obtain ⟨G', s4, n4', g4⟩ := lay_bytes HX2.out KK4.out HGG.out j hjl' O4.out (Nat.le_refl _) H8.out;rw [hXj] at s4;have S4 : Hid (∃ G' v' u, RShell (w4.setCell ⟨g, j * 3 + 1, none⟩ (.slice A4 n4 c4)) G' p room v' (putK s.data.toList (u, xs ++ ps, l) X) /\ Next G w G' (w4.setCell ⟨g, j * 3 + 1, none⟩ (.slice A4 n4 c4))) := by
   refine ⟨G', .slice (some ⟨g, 0, none⟩) X.length c, .slice A4 n4 c4, ?_, N2.out.trans n4'⟩;rw [HQ.out];exact s4
  clear s4 n4' hXj g4;go_wp2_with fail
  go_ret;exact ⟨rfl, S4.out⟩
end Go.Proofs.YtbmhfnhfhdgdgaaGreat
