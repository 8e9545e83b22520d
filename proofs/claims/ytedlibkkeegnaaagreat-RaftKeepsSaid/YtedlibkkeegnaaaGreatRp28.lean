/- The program's Get. Condition: fewer than 2 to the 30 segments, numbers and lengths below 2 to the 40. The contracts of slices.Delete of segments and of entries. -/
import Derived.Test.YtedlibkkeegnaaaGreatRp27
import Derived.Test.YtedlibkkeegnaaaGreatRp10
namespace Go.Proofs.YtedlibkkeegnaaaGreat
open Go.RowKit Go.Maps
variable {w w' w1 : World} {G G' : Nat -> Prop} {L : DiskL} {M : LogL} {P : PLog} {g n c i : Nat}
theorem ahead_ex : ∀ (X : List Sgp) (z : Int), (∀ a b (ha : a < X.length) (hb : b < X.length), a < b -> X[a].1 < X[b].1) -> ∃ j : Nat, j <= X.length /\ ∀ k (hk : k < X.length), k < j ↔ (X[k].1 : Int) < z := by
 intro X
 induction X with
 | nil => intro z _; exact ⟨0, Nat.le_refl _, fun k hk => absurd hk (by simp)⟩
 | cons x r ih =>
  intro z hr;by_cases hx : (x.1 : Int) < z
  ·obtain ⟨j, h1, h2⟩ := ih z (fun a b ha hb hab => by
    have := hr (a + 1) (b + 1) (by simpa using ha) (by simpa using hb) (by omega);simpa using this)
   refine ⟨j + 1, by simpa using h1, fun k hk => ?_⟩;rcases k with _ | k
   ·simpa using hx
   ·have := h2 k (by simpa using hk);simpa using this
  ·refine ⟨0, Nat.zero_le _, fun k hk => ?_⟩;have h9 : (x.1 : Int) <= ((x :: r)[k].1 : Int) := by
    rcases k with _ | k
    ·exact Int.le_refl _
    ·have := hr 0 (k + 1) (by simp) hk (by omega);simp only [List.getElem_cons_zero] at this;omega
   constructor
   ·intro h; omega
   ·intro h; omega
theorem ahead_uni {X : List Sgp} {z : Int} {j : Nat} (hi : i <= X.length) (hj : j <= X.length) (h1 : ∀ k (hk : k < X.length), k < i ↔ (X[k].1 : Int) < z) (h2 : ∀ k (hk : k < X.length), k < j ↔ (X[k].1 : Int) < z) : i = j := by
 rcases Nat.lt_trichotomy i j with h | h | h
 ·have a := (h2 i (by omega)).1 h;have b := (h1 i (by omega)).2 a;omega
 ·exact h
 ·have a := (h1 j (by omega)).1 h;have b := (h2 j (by omega)).2 a;omega
theorem chain_segP {X : List Sgp} {segs : List Sgf} (e : segs = X.map segP) : segs.map bareP = X.map fun x => (x.1, x.2.2.2) := by
 rw [e, List.map_map]
 rfl
theorem rise_of_chain {X : List Sgp} (hc : Chain i (X.map fun x => (x.1, x.2.2.2)) n) (hs : ∀ s ∈ (X.map fun x : Sgp => ((x.1, x.2.2.2) : Sg)).dropLast, s.2 ≠ []) : ∀ a b (ha : a < X.length) (hb : b < X.length), a < b -> X[a].1 < X[b].1 := fun a b ha hb hab => by
 have := chain_rise hc hs a b (by simpa using ha) (by simpa using hb) hab;simpa using this
set_option maxRecDepth 100000 in
theorem pget_out (w : World) (G : Nat -> Prop) (l dp : Nat) (s : ByteArray) (P : PLog) (z : Int) (h : PLogAt w G l dp s P) (hz : z < (firstP P : Int) \/ (P.next : Int) <= z) :
  Calls Tryz.prog 40 #[.pointer (some ⟨l, 0, none⟩), .int .i64 z] w fun e w' => e = .returned (.tuple #[.slice none 0 0, .int .i64 7]) /\ Below w.heap.size w w' := by
 have HB := hide (pbounds_any w G l dp s P h);obtain ⟨f, hf⟩ : ∃ f, f = firstP P := ⟨_, rfl⟩;obtain ⟨nx, hnx⟩ : ∃ nx, nx = P.next := ⟨_, rfl⟩;rw [<- hf, <- hnx] at HB;rw [<- hf, <- hnx] at hz;clear hf hnx h;by_cases h1 : z < (f : Int)
 ·clear hz;go_enter Tryz.func40, Tryz.ntmps40;go_wp2_with fail
  refine HB.out.mono ?_;rintro e w1 ⟨rfl, d, rfl⟩;go_wp2_with fail
  refine bodyPost_ret (v := .tuple #[.slice none 0 0, .int .i64 7]) (by simp [results, Tryz.results40, go_sem]) rfl ?_;exact ⟨rfl, below_drewN (Below.refl _ _) d⟩
 ·have h2 : (nx : Int) <= z := hz.resolve_left h1;have h1 : (f : Int) <= z := by omega
  clear hz;go_enter Tryz.func40, Tryz.ntmps40;go_wp2_with fail
  refine HB.out.mono ?_;rintro e w1 ⟨rfl, d, rfl⟩;go_wp2_with fail
  refine bodyPost_ret (v := .tuple #[.slice none 0 0, .int .i64 7]) (by simp [results, Tryz.results40, go_sem]) rfl ?_;exact ⟨rfl, below_drewN (Below.refl _ _) d⟩
set_option maxRecDepth 100000 in
set_option maxHeartbeats 6400000 in
theorem pget_in (w : World) (G : Nat -> Prop) (l dp : Nat) (s : ByteArray) (vS : Value) (X : List Sgp) (nx i : Nat) (z : Int) (h : PLogW w G l dp s vS X nx) (hc : Chain i (X.map fun x => (x.1, x.2.2.2)) nx) (hs : ∀ s ∈ (X.map fun x : Sgp => ((x.1, x.2.2.2) : Sg)).dropLast, s.2 ≠ [])
  (hi : (firstP ⟨X.map segP, nx⟩ : Int) = i) (hz1 : (i : Int) <= z) (hz2 : z < (nx : Int)) (hsl : X.length <= 1073741824) (hnx : nx <= 1099511627776) (hp : ∀ x ∈ X, ∀ p ∈ x.2.2.2, p.length <= 1099511627776) :
  Calls Tryz.prog 40 #[.pointer (some ⟨l, 0, none⟩), .int .i64 z] w fun e w' => ∃ v, e = .returned (.tuple #[v, .int .i64 0]) /\ Own w' w.heap.size v (getE ⟨X.map fun x => (x.1, x.2.2.2), nx, []⟩ z).1 /\ Below w.heap.size w w' := by
 have hr := rise_of_chain hc hs;have HB := hide (pbounds_any w G l dp s ⟨X.map segP, nx⟩ ⟨vS, X, rfl, h⟩);rw [hi] at HB;obtain ⟨j, hj1, hj2⟩ := ahead_ex X (z + 1) hr;obtain ⟨k1, k2, k3, k4, k5⟩ := getE_ahead (j := j) (d := []) hc hs hz1 hz2 (by simpa using hj1) (fun k hk => by simpa using hj2 k (by simpa using hk));have hjX : j - 1 < X.length := by simpa using k2
 obtain ⟨AS, cS, eS, hlc, hc63, hnil, hcell⟩ := rowP_form h.row;subst eS;obtain ⟨N, hN⟩ : ∃ N, N = X.length := ⟨_, rfl⟩;obtain ⟨gS, eA, -, hgS, q0, q1, q2, qf⟩ := hcell (j - 1) hjX;subst eA;obtain ⟨x, hx⟩ : ∃ x, x = X[j - 1] := ⟨_, rfl⟩;obtain ⟨f, vE, b, es⟩ := x;rw [<- hx] at q0 q1 q2;have hE := h.each (f, vE, b, es) (by rw [hx]; exact List.getElem_mem hjX);have hpe := hp (f, vE, b, es) (by rw [hx]; exact List.getElem_mem hjX);dsimp only at q0 q1 q2 hE hpe;have ex : (X.map fun x : Sgp => ((x.1, x.2.2.2) : Sg))[j - 1] = (f, es) := by rw [List.getElem_map, <- hx]
 rw [ex] at k3 k4 k5;have k3 : (f : Int) <= z := k3;have k4 : z < (f : Int) + es.length := k4;rw [k5];obtain ⟨kz, hkz⟩ : ∃ k, k = (z - f).toNat := ⟨_, rfl⟩;have hkz2 : z - (f : Int) = (kz : Int) := by omega
 have hkl : kz < es.length := by omega
 show Calls _ _ _ _ fun e w' => ∃ v, _ /\ Own w' w.heap.size v (es.getD (z - f).toNat []) /\ _
 rw [<- hkz];obtain ⟨AE, cE, eE, hEl, hEm, -, hEc⟩ := hE.form;obtain ⟨gE, u, eE2, hgE, y0, -, hu⟩ := hEc kz hkl;subst eE2;subst eE;have hul : (es.getD kz []).length <= 1099511627776 := hpe _ (by rw [List.getD_eq_getElem?_getD, List.getElem?_eq_getElem hkl]; exact List.getElem_mem hkl);obtain ⟨pz, hpz⟩ : ∃ p, p = es.getD kz [] := ⟨_, rfl⟩;rw [<- hpz] at hu hul ⊢;obtain ⟨ne, hne⟩ : ∃ n, n = es.length := ⟨_, rfl⟩;have hkl : kz < ne := by omega
 rw [<- hne] at q1 hEl;obtain ⟨jj, hjj⟩ : ∃ q, q = j - 1 := ⟨_, rfl⟩;rw [<- hjj] at q0 q1 q2;have hjs : (j : Int) - 1 = (jj : Int) := by omega
 have hjl : jj < N := by omega
 rw [<- hN] at hlc;have c2 : w.cell? ⟨l, 2, none⟩ = some (.slice (some ⟨gS, 0, none⟩) N cS) := by rw [hN]; exact h.cells.cell 2
 have hll := cell_lt c2;have HU := hide hu.1;have hul2 : pz.length <= 1099511627776 := hul;have HJ := hide (show ∀ (W : World), Below w.heap.size w W -> Calls Tryz.prog 68 #[.pointer (some ⟨l, 0, none⟩), .int .i64 (z + 1)] W fun e w' => e = .returned (.int .i64 (j : Int)) /\ Below W.heap.size W w' from fun W k => (pahead_any W G l dp s _ X nx (z + 1) (h.below k) hsl hr).mono (fun e w' => by
  rintro ⟨i2, rfl, h1, h2, h3⟩;exact ⟨by rw [ahead_uni h1 hj1 h2 hj2], h3⟩))
 have Q0 := hide q0;have Q1 := hide q1;have Q2 := hide q2;have Y0 := hide y0;have hz3 : -9223372036854775808 <= z + 1 := by omega
 have hz4 : z + 1 <= 9223372036854775807 := by omega
 have hjw : IntKind.i64.wrap (jj : Int) = (jj : Int) := by rw [IntKind.wrap_i64]; omega
 have hw1 : IntKind.i64.wrap (z + 1) = z + 1 := by rw [IntKind.wrap_i64]; omega
 clear hEc hu hE hpe hp ex k5 hcell hnil h hr hj1 hj2 hc hs hi hx hjj hkz hne hpz hN q0 q1 q2 qf y0 k1 k2 hjX hul hsl;go_enter Tryz.func40, Tryz.ntmps40;go_wp2_with fail
 refine HB.out.mono ?_;rintro e w1 ⟨rfl, d, rfl⟩;obtain ⟨w0, hw0⟩ : ∃ z, z = w.drewN d := ⟨_, rfl⟩;have K0 : Below w.heap.size w w0 := by rw [hw0]; exact below_drewN (Below.refl _ _) d
 have t2 : w0.cell? ⟨l, 2, none⟩ = some (.slice (some ⟨gS, 0, none⟩) N cS) := (K0.cell (p := ⟨l, 2, none⟩) hll).trans c2;rw [<- hw0];have KH := hide K0;have C2 := hide c2;have hll0 := cell_lt t2;clear c2 hw0;go_wp2_with fail
 refine Ways.start (fun W => W.cell? ⟨l, 2, none⟩ = some (.slice (some ⟨gS, 0, none⟩) N cS)) 12 13 #[false, false, false, false, false, false, false, false, false, false, false, false, false] (by kernel_rfl) (by kernel_rfl) (by kernel_rfl) ?_;have hHeld : w0.drew.cell? ⟨l, 2, none⟩ = some (.slice (some ⟨gS, 0, none⟩) N cS) := t2
 iterate 7
  first | refine' tkW 0 rfl hHeld rfl ?_ ?_ | refine' tkW 1 rfl hHeld rfl ?_ ?_ | refine' tkW 2 rfl hHeld rfl ?_ ?_ | refine' tkW 3 rfl hHeld rfl ?_ ?_ | refine' tkW 4 rfl hHeld rfl ?_ ?_ | refine' tkW 5 rfl hHeld rfl ?_ ?_ | refine' tkW 6 rfl hHeld rfl ?_ ?_
  rotate_left
  ·(intro W hW; (try dsimp only at hW); go_simp; (try with_reducible rfl))
  try simp only [Act.put, List.setIfInBounds_toArray, List.set_cons_zero, List.set_cons_succ]
 refine Ways.rely [7, 8, 9, 10, 11, 12] (fun a0 d a W => ∃ v7 v8 v9 v10 v11, a = (((((a0.put (some 29) v7).put (some 30) v8).put (some 31) v9).put (some 32) v10).put (some 8) v11) /\ (d 12 = false -> Below w.heap.size w W) /\ (d 7 = true -> v7 = .int .i64 (j : Int)) /\ (d 8 = true -> v8 = .int .i64 (jj : Int)) /\ (d 9 = true -> v9 = .pointer (some ⟨gS, jj * 3, none⟩)) /\ (d 10 = true -> v10 = .agg #[.int .i64 (f : Int), .slice (some ⟨gE, 0, none⟩) ne cE, .bool b]) /\
   (d 11 = true -> d 12 = false -> ∃ y, v11 = .pointer (some ⟨y, 0, none⟩) /\ w.heap.size <= y /\ Blk W 0 119 y [.int .i64 0, .slice none 0 0, .bool false]) /\
   (d 12 = true -> ∃ y, v11 = .pointer (some ⟨y, 0, none⟩) /\ w.heap.size <= y /\ Below w.heap.size w W /\ Blk W 0 119 y [.int .i64 (f : Int), .slice (some ⟨gE, 0, none⟩) ne cE, .bool b])) (by kernel_rfl) (by kernel_rfl) (by kernel_rfl) (by decide) (by kernel_rfl) (by kernel_rfl) ?_ ?_ ?_ ?_
 ·exact ⟨undef, undef, undef, undef, undef, (by kernel_rfl), fun _ => ⟨KH.out.os, KH.out.tape, KH.out.output, KH.out.size, KH.out.block⟩, fun h => absurd h (not_true (by kernel_rfl)), fun h => absurd h (not_true (by kernel_rfl)), fun h => absurd h (not_true (by kernel_rfl)), fun h => absurd h (not_true (by kernel_rfl)), fun h => absurd h (not_true (by kernel_rfl)), fun h => absurd h (not_true (by kernel_rfl))⟩
 ·rintro d a W hd ⟨v7, v8, v9, v10, v11, rfl, hB, -⟩;exact ((hB hd).cell (p := ⟨l, 2, none⟩) hll).trans C2.out
 ·refine stepsL_cons (StepL.intro (l := [4, 6]) rfl (by kernel_rfl) ?_) ?_
  ·rintro d a W K hK hL hd hl ⟨v7, v8, v9, v10, v11, ha, hB, f7, f8, f9, f10, f11, f12⟩;simp only [Act.put, List.setIfInBounds_toArray, List.set_cons_zero, List.set_cons_succ] at ha;subst ha;have hb := hB hL;clear hl;go_simp;go_at_call 68;refine (HJ.out W hb).mono ?_;rintro e w2 ⟨rfl, k2⟩;refine hK.out _ _ ⟨.int .i64 (j : Int), v8, v9, v10, v11, (by kernel_rfl), fun _ => below_step hb k2, fun _ => rfl, f8, f9, f10, fun h h' => by obtain ⟨y, e, h1, h2⟩ := f11 h h'; exact ⟨y, e, h1, h2.turn (Turn.of_below (fun _ => False) k2) id⟩, fun h => absurd h (not_true hL)⟩
  refine stepsL_cons (StepL.intro (l := [7]) rfl (by kernel_rfl) ?_) ?_
  ·rintro d a W K hK hL hd hl ⟨v7, v8, v9, v10, v11, ha, hB, f7, f8, f9, f10, f11, f12⟩;simp only [Act.put, List.setIfInBounds_toArray, List.set_cons_zero, List.set_cons_succ] at ha;subst ha;have hb := hB hL;have e7 := f7 (hl 7 (by simp));clear hl;subst e7;go_simp;refine hK.out _ _ ⟨.int .i64 (j : Int), .int .i64 (jj : Int), v9, v10, v11, (by kernel_rfl), hB, f7, fun _ => rfl, f9, f10, f11, fun h => absurd h (not_true hL)⟩
  refine stepsL_cons (StepL.intro (l := [3, 8]) rfl (by kernel_rfl) ?_) ?_
  ·rintro d a W K hK hL hd hl ⟨v7, v8, v9, v10, v11, ha, hB, f7, f8, f9, f10, f11, f12⟩;simp only [Act.put, List.setIfInBounds_toArray, List.set_cons_zero, List.set_cons_succ] at ha;subst ha;have hb := hB hL;have e8 := f8 (hl 8 (by simp));clear hl;subst e8;go_simp;refine hK.out _ _ ⟨v7, .int .i64 (jj : Int), .pointer (some ⟨gS, jj * 3, none⟩), v10, v11, (by kernel_rfl), hB, f7, f8, fun _ => rfl, f10, f11, fun h => absurd h (not_true hL)⟩
  refine stepsL_cons (StepL.intro (l := [9]) rfl (by kernel_rfl) ?_) ?_
  ·rintro d a W K hK hL hd hl ⟨v7, v8, v9, v10, v11, ha, hB, f7, f8, f9, f10, f11, f12⟩;simp only [Act.put, List.setIfInBounds_toArray, List.set_cons_zero, List.set_cons_succ] at ha;subst ha;have hb := hB hL;have e9 := f9 (hl 9 (by simp));clear hl;subst e9;have p0 := (hb.cell (p := ⟨gS, jj * 3, none⟩) hgS).trans Q0.out;have p1 := (hb.cell (p := ⟨gS, jj * 3 + 1, none⟩) hgS).trans Q1.out;have p2 := (hb.cell (p := ⟨gS, jj * 3 + 2, none⟩) hgS).trans Q2.out;go_simp;refine hK.out _ _ ⟨v7, v8, .pointer (some ⟨gS, jj * 3, none⟩), .agg #[.int .i64 (f : Int), .slice (some ⟨gE, 0, none⟩) ne cE, .bool b], v11, (by kernel_rfl), hB, f7, f8, f9, fun _ => rfl, f11, fun h => absurd h (not_true hL)⟩
  refine stepsL_cons (StepL.intro (l := []) rfl (by kernel_rfl) ?_) ?_
  ·rintro d a W K hK hL hd hl ⟨v7, v8, v9, v10, v11, ha, hB, f7, f8, f9, f10, f11, f12⟩;simp only [Act.put, List.setIfInBounds_toArray, List.set_cons_zero, List.set_cons_succ] at ha;subst ha;have hb := hB hL;clear hl;go_simp;have ka := below_alloc W (.cells #[.int .i64 0, .slice none 0 0, .bool false] 119);refine hK.out _ _ ⟨v7, v8, v9, v10, .pointer (some ⟨W.heap.size, 0, none⟩), (by kernel_rfl), fun _ => below_step hb ka, f7, f8, f9, f10, fun _ _ => ⟨_, rfl, hb.size, Blk.new (B := 0) W 119 #[.int .i64 0, .slice none 0 0, .bool false] (Nat.zero_le _)⟩, fun h => absurd h (not_true hL)⟩
  refine stepsL_cons (StepL.intro (l := [11, 10, 7, 0, 1, 2, 3, 4, 5, 6, 7, 8, 9, 10, 11]) rfl (by kernel_rfl) ?_) ?_
  ·rintro d a W K hK hL hd hl ⟨v7, v8, v9, v10, v11, ha, hB, f7, f8, f9, f10, f11, f12⟩;simp only [Act.put, List.setIfInBounds_toArray, List.set_cons_zero, List.set_cons_succ] at ha;subst ha;have hb := hB hL;have e10 := f10 (hl 10 (by simp));obtain ⟨y, e11, hy, bk⟩ := f11 (hl 11 (by simp)) hL;clear hl;subst e10;subst e11;have p0 := bk.cell 0;have p1 := bk.cell 1;have p2 := bk.cell 2;have z0 := bk.frozen 0;have z1 := bk.frozen 1;have z2 := bk.frozen 2;go_simp;refine hK.out _ _ ⟨v7, v8, v9, .agg #[.int .i64 (f : Int), .slice (some ⟨gE, 0, none⟩) ne cE, .bool b], .pointer (some ⟨y, 0, none⟩), (by kernel_rfl), fun h => mark_absurd h, f7, f8, f9, f10, fun _ h => mark_absurd h, fun _ => ⟨y, rfl, hy, ((hb.setCell (p := ⟨y, 0, none⟩) hy _).setCell (p := ⟨y, 1, none⟩) hy _).setCell (p := ⟨y, 2, none⟩) hy _, ((bk.stored 0 _).stored 1 _).stored 2 _⟩⟩
  exact stepsL_nil
 ·rintro d a W hd ⟨v7, v8, v9, v10, v11, rfl, -, -, -, -, -, -, f12⟩;obtain ⟨y, rfl, hy, kB, bk⟩ := f12 (hd 12 (by simp));clear f12 hd;try simp only [Act.put, List.setIfInBounds_toArray, List.set_cons_zero, List.set_cons_succ]
  have p0 := bk.cell 0;have p1 := bk.cell 1;have r0 := (kB.cell (p := ⟨gE, kz * 2, none⟩) hgE).trans Y0.out;obtain ⟨Au, nu, cu, eu⟩ : ∃ A n c, u = .slice A n c := by obtain ⟨A, c, e, _⟩ := HU.out; exact ⟨_, _, _, e⟩
  subst eu;have IU := hide (HU.out.keep kB);have HNU : Hid (pz.length = nu) := hide (by obtain ⟨A, c, e, _⟩ := HU.out; cases e; rfl);have KB := hide kB;clear kB bk;go_wp2_with fail
  refine (clone_any Au nu cu pz _ IU.out HNU.out (by rw [<- HNU.out]; exact hul2)).mono ?_;rintro e w3 ⟨v3, rfl, o3, k3⟩;have O3 := hide (o3.more KB.out.size);have K3 := hide (below_step KB.out k3);obtain ⟨A3, c3, rfl, -⟩ := o3.isB.form rfl;clear o3 k3;go_wp2_with fail
  refine bodyPost_ret (v := .tuple #[.slice A3 pz.length c3, .int .i64 0]) (by simp [results, Tryz.results40, go_sem]) rfl ?_;exact ⟨_, rfl, O3.out, K3.out⟩
theorem Tryz.info_entP : (Tryz.prog.info? 121).map (fun i => (i.zero, i.size, i.bytes)) = some (some (.agg #[.slice none 0 0, .int .i64 0]), 2, 32) := by kernel_rfl
theorem Tryz.zero_sgm (w : World) : (zeroValue 119).run Tryz.prog w = .ok (.agg #[.int .i64 0, .slice none 0 0, .bool false]) w := by kernel_rfl
theorem Tryz.zero_ent (w : World) : (zeroValue 121).run Tryz.prog w = .ok (.agg #[.slice none 0 0, .int .i64 0]) w := by kernel_rfl
set_option maxRecDepth 100000 in
theorem del_segs_same (A : Option Addr) (N c i : Nat) (w : World) (hi : i <= N) (hc : N <= c) (hc2 : c <= 9223372036854775807) (hA : A = none -> c = 0) (hoff : ∀ a, A = some a -> ∃ b, a = ⟨b, 0, none⟩) :
  Calls Tryz.prog 103 #[.slice A N c, .int .i64 (i : Int), .int .i64 (i : Int)] w fun e w' => e = .returned (.slice A N c) /\ Below w.heap.size w w' := by
 have h3 : (0 : Int) <= (i : Int) := by omega
 have h5 : (i : Int) <= (N : Int) := by omega
 have h6 : (N : Int) <= (c : Int) := by omega
 have h10 : (i : Int) <= (c : Int) := by omega
 rcases A with _ | a
 ·have hc0 : c = 0 := hA rfl;have hN0 : N = 0 := by omega
  have hi0 : i = 0 := by omega
  subst hc0;subst hN0;subst hi0;clear hA hoff;go_enter Tryz.func103, Tryz.ntmps103;go_wp2_with fail
  all_goals (go_ret; exact ⟨rfl, Below.refl _ _⟩)
 ·obtain ⟨b, rfl⟩ := hoff a rfl;clear hA hoff;have h1 : ((i : Int) == (i : Int)) = true := by simp
  by_cases hci : c = i
  ·subst hci;go_enter Tryz.func103, Tryz.ntmps103;go_wp2_with fail
   all_goals (go_ret; exact ⟨rfl, Below.refl _ _⟩)
  ·go_enter Tryz.func103, Tryz.ntmps103;go_wp2_with fail
   all_goals (go_ret; exact ⟨rfl, Below.refl _ _⟩)
set_option maxRecDepth 100000 in
set_option maxHeartbeats 3200000 in
theorem del_segs (b N c i j M : Nat) (l : List Value) (w : World) (hown : w.ownsRow 0 119 3 (.slice (some ⟨b, 0, none⟩) N c) N l) (hone : ∀ v ∈ l, v.oneCell' = true) (hij : i < j) (hj : j <= N) (hM : M = i + (N - j)) (hc : N <= c) (hc2 : c <= 9223372036854775807) :
  Calls Tryz.prog 103 #[.slice (some ⟨b, 0, none⟩) N c, .int .i64 (i : Int), .int .i64 (j : Int)] w fun e w' => e = .returned (.slice (some ⟨b, 0, none⟩) M c) /\ w'.ownsRow 0 119 3 (.slice (some ⟨b, 0, none⟩) M c) M (l.take (i * 3) ++ l.drop (j * 3)) /\ w.grownBy w' (some b) := by
 obtain ⟨i0, hi0, hz0, hz1, hz2⟩ := info_parts Tryz.info_sgm;have HO := hide hown;have HE := hide hone;have H0 := hide hi0;have H1 := hide hz1;have HM := hide hM;have h1 : ((i : Int) == (j : Int)) = false := by simp; omega
 have h13 : (0 : Int) <= (j : Int) := by omega
 have h2 : ¬ c = i := by omega
 have h3 : (0 : Int) <= (i : Int) := by omega
 have h4 : (i : Int) <= (j : Int) := by omega
 have h5 : (j : Int) <= (N : Int) := by omega
 have h6 : (N : Int) <= (c : Int) := by omega
 have hcM : ¬ c = M := by omega
 have hMN : M <= N := by omega
 have h7 : (M : Int) <= (N : Int) := by omega
 have h8 : (0 : Int) <= (M : Int) := by omega
 have h10 : (i : Int) <= (c : Int) := by omega
 have h11 : (j : Int) <= (c : Int) := by omega
 have h12 : (M : Int) <= (c : Int) := by omega
 have hsum : N - M + M = N := by omega
 have HIJ : Hid (i <= j) := hide (Nat.le_of_lt hij);have HJN : Hid (j <= N) := hide hj;clear hown hone hi0 hz0 hz1 hz2 hM;by_cases hci : c = j
 ·have hjN : N - j = 0 := by omega
  have HZ0 := hide hjN;have hcz : (if c = j then (0 : Nat) else j * 3) = 0 := if_pos hci;have HCZ := hide hcz;clear hcz hjN;subst hci;go_enter Tryz.func103, Tryz.ntmps103;go_wp2_with fail
  go_region_law (first
   | (refine step_delete_row Tryz.underlying112 H0.out H1.out rfl (.tmp 22) (.tmp 25) rfl 0 b N c i c l HO.out HE.out HIJ.out HJN.out rfl _ _ (by rw [HZ0.out]; rfl) (by simp) ?_; intro w4 o4 g4; rw [<- HM.out] at o4 ⊢; obtain ⟨w5, cl5, o5, g5⟩ := clear_row (z := 3) Tryz.underlying112 Tryz.zero_sgm rfl (by decide) (by decide) w4 0 b M c (N - M) (c - M) _ o4 (by omega); have O5 := hide o5; have G5 : Hid (w.grownBy w5 (some b)) := (by have gg := g4.trans g5; exact ⟨gg.os, gg.tape, gg.output, gg.size, gg.block⟩)))
  go_wp2_with fail
  go_ret;exact ⟨rfl, O5.out, G5.out⟩
 ·have hcz : (if c = j then (0 : Nat) else j * 3) = j * 3 := if_neg hci;have HCZ := hide hcz;clear hcz;go_enter Tryz.func103, Tryz.ntmps103;go_wp2_with fail
  go_region_law (first
   | (refine step_delete_row Tryz.underlying112 H0.out H1.out rfl (.tmp 22) (.tmp 25) rfl 0 b N c i j l HO.out HE.out HIJ.out HJN.out rfl _ (c - j) (by rfl) (by rw [HCZ.out]) ?_; intro w4 o4 g4; rw [<- HM.out] at o4 ⊢; obtain ⟨w5, cl5, o5, g5⟩ := clear_row (z := 3) Tryz.underlying112 Tryz.zero_sgm rfl (by decide) (by decide) w4 0 b M c (N - M) (c - M) _ o4 (by omega); have O5 := hide o5; have G5 : Hid (w.grownBy w5 (some b)) := (by have gg := g4.trans g5; exact ⟨gg.os, gg.tape, gg.output, gg.size, gg.block⟩)))
  go_wp2_with fail
  go_ret;exact ⟨rfl, O5.out, G5.out⟩
set_option maxRecDepth 100000 in
set_option maxHeartbeats 3200000 in
theorem del_ents (b N c i j M : Nat) (l : List Value) (w : World) (hown : w.ownsRow 0 121 2 (.slice (some ⟨b, 0, none⟩) N c) N l) (hone : ∀ v ∈ l, v.oneCell' = true) (hij : i < j) (hj : j <= N) (hM : M = i + (N - j)) (hc : N <= c) (hc2 : c <= 9223372036854775807) :
  Calls Tryz.prog 122 #[.slice (some ⟨b, 0, none⟩) N c, .int .i64 (i : Int), .int .i64 (j : Int)] w fun e w' => e = .returned (.slice (some ⟨b, 0, none⟩) M c) /\ w'.ownsRow 0 121 2 (.slice (some ⟨b, 0, none⟩) M c) M (l.take (i * 2) ++ l.drop (j * 2)) /\ w.grownBy w' (some b) := by
 obtain ⟨i0, hi0, hz0, hz1, hz2⟩ := info_parts Tryz.info_entP;have HO := hide hown;have HE := hide hone;have H0 := hide hi0;have H1 := hide hz1;have HM := hide hM;have h1 : ((i : Int) == (j : Int)) = false := by simp; omega
 have h13 : (0 : Int) <= (j : Int) := by omega
 have h2 : ¬ c = i := by omega
 have h3 : (0 : Int) <= (i : Int) := by omega
 have h4 : (i : Int) <= (j : Int) := by omega
 have h5 : (j : Int) <= (N : Int) := by omega
 have h6 : (N : Int) <= (c : Int) := by omega
 have hcM : ¬ c = M := by omega
 have hMN : M <= N := by omega
 have h7 : (M : Int) <= (N : Int) := by omega
 have h8 : (0 : Int) <= (M : Int) := by omega
 have h10 : (i : Int) <= (c : Int) := by omega
 have h11 : (j : Int) <= (c : Int) := by omega
 have h12 : (M : Int) <= (c : Int) := by omega
 have hsum : N - M + M = N := by omega
 have HIJ : Hid (i <= j) := hide (Nat.le_of_lt hij);have HJN : Hid (j <= N) := hide hj;clear hown hone hi0 hz0 hz1 hz2 hM;by_cases hci : c = j
 ·have hjN : N - j = 0 := by omega
  have HZ0 := hide hjN;have hcz : (if c = j then (0 : Nat) else j * 2) = 0 := if_pos hci;have HCZ := hide hcz;clear hcz hjN;subst hci;go_enter Tryz.func122, Tryz.ntmps122;go_wp2_with fail
  go_region_law (first
   | (refine step_delete_row Tryz.underlying117 H0.out H1.out rfl (.tmp 22) (.tmp 25) rfl 0 b N c i c l HO.out HE.out HIJ.out HJN.out rfl _ _ (by rw [HZ0.out]; rfl) (by simp) ?_; intro w4 o4 g4; rw [<- HM.out] at o4 ⊢; obtain ⟨w5, cl5, o5, g5⟩ := clear_row (z := 2) Tryz.underlying117 Tryz.zero_ent rfl (by decide) (by decide) w4 0 b M c (N - M) (c - M) _ o4 (by omega); have O5 := hide o5; have G5 : Hid (w.grownBy w5 (some b)) := (by have gg := g4.trans g5; exact ⟨gg.os, gg.tape, gg.output, gg.size, gg.block⟩)))
  go_wp2_with fail
  go_ret;exact ⟨rfl, O5.out, G5.out⟩
 ·have hcz : (if c = j then (0 : Nat) else j * 2) = j * 2 := if_neg hci;have HCZ := hide hcz;clear hcz;go_enter Tryz.func122, Tryz.ntmps122;go_wp2_with fail
  go_region_law (first
   | (refine step_delete_row Tryz.underlying117 H0.out H1.out rfl (.tmp 22) (.tmp 25) rfl 0 b N c i j l HO.out HE.out HIJ.out HJN.out rfl _ (c - j) (by rfl) (by rw [HCZ.out]) ?_; intro w4 o4 g4; rw [<- HM.out] at o4 ⊢; obtain ⟨w5, cl5, o5, g5⟩ := clear_row (z := 2) Tryz.underlying117 Tryz.zero_ent rfl (by decide) (by decide) w4 0 b M c (N - M) (c - M) _ o4 (by omega); have O5 := hide o5; have G5 : Hid (w.grownBy w5 (some b)) := (by have gg := g4.trans g5; exact ⟨gg.os, gg.tape, gg.output, gg.size, gg.block⟩)))
  go_wp2_with fail
  go_ret;exact ⟨rfl, O5.out, G5.out⟩
def X0 (Y Z : List Sgp) : List Sgp := Y ++ Z
theorem cellsP_setE : ∀ (Y Z : List Sgp) (f : Nat) (v v' : Value) (b : Bool) (es es' : List (List Nat)), (cellsP (Y ++ (f, v, b, es) :: Z)).set (Y.length * 3 + 1) v' = cellsP (Y ++ (f, v', b, es') :: Z) := by
 intro Y Z f v v' b es es';rw [cellsP_append, cellsP_append];have hl := cellsP_length Y;rw [List.set_append_right _ _ (by omega), hl, show Y.length * 3 + 1 - Y.length * 3 = 1 by omega]
 rfl
theorem PRow.setE {f : Nat} {Y Z : List Sgp} {vE v' : Value} {b : Bool} {es es' : List (List Nat)} (h : PRow w G (.slice (some ⟨g, 0, none⟩) n c) (Y ++ (f, vE, b, es) :: Z))
  (t : Turn (fun q => some q = vE.ownBlock) w w1) (hE : SegE G' w1 v' f es') (hG : ∀ q, q < w.heap.size -> G q -> G' q) (hv : ∀ q, v'.ownBlock = some q -> vE.ownBlock = some q \/ w.heap.size <= q) :
  PRow (w1.setCell ⟨g, Y.length * 3 + 1, none⟩ v') G' (.slice (some ⟨g, 0, none⟩) n c) (Y ++ (f, v', b, es') :: Z) := by
 have hseg : ∀ q, some q = vE.ownBlock -> ∃ cur fr, w.heap[q]? = some (Obj.cells cur 121 fr) := fun q hq => by
  have hE0 := h.each (f, vE, b, es) (by simp);obtain ⟨us, _, h2, _⟩ := hE0;obtain ⟨cur, hc⟩ := row_typed h2 hq.symm;exact ⟨cur, _, hc⟩
 have hn : n = (Y ++ (f, vE, b, es) :: Z).length := by
  obtain ⟨A0, c0, e0⟩ := row_form h.row;cases e0
  rfl
 have hr1 : w1.ownsRow 0 119 3 (.slice (some ⟨g, 0, none⟩) n c) (Y ++ (f, vE, b, es) :: Z).length (cellsP (Y ++ (f, vE, b, es) :: Z)) := ownsRow_turn h.row t (fun q hq e => by
  obtain ⟨cur, hc⟩ := row_typed h.row hq;obtain ⟨cur2, fr2, hc2⟩ := hseg q e;rw [hc] at hc2;simp only [Option.some.injEq, Obj.cells.injEq] at hc2;exact absurd hc2.2.1 (by decide))
 have hgt : ∃ cur, w1.heap[g]? = some (Obj.cells cur 119 (0, 0)) := row_typed hr1 rfl;have t2 : Turn (fun q => q = g) w1 (w1.setCell ⟨g, Y.length * 3 + 1, none⟩ v') := (Turn.of_grown (grown_set w1 g _ v')).mono (fun q e => Option.some.inj e);have hS2 : ∀ q, q = g -> ∃ cur T fr, w1.heap[q]? = some (Obj.cells cur T fr) /\ T ≠ 121 /\ T ≠ 5 := fun q e => by
  subst e;obtain ⟨cur, hc⟩ := hgt;exact ⟨cur, _, _, hc, by decide, by decide⟩
 have hp := List.pairwise_append.1 h.far;have hp2 := List.pairwise_cons.1 hp.2.1;have hoth : ∀ x ∈ X0 Y Z, SegE G' (w1.setCell ⟨g, Y.length * 3 + 1, none⟩ v') x.2.1 x.1 x.2.2.2 := fun x hx => by
  have hxm : x ∈ Y ++ (f, vE, b, es) :: Z := by
   rcases List.mem_append.1 hx with hx | hx
   ·exact List.mem_append.2 (.inl hx)
   ·exact List.mem_append.2 (.inr (List.mem_cons_of_mem _ hx))
  have hxE := h.each x hxm;refine ((hxE.mono hG).turn t (fun q hq e => ?_) (fun q hq _ e => ?_)).off t2 hS2
  ·rcases List.mem_append.1 hx with hx | hx
   ·exact hp.2.2 x hx (f, vE, b, es) (by simp) q hq e.symm
   ·exact hp2.1 x hx q e.symm hq
  ·obtain ⟨cur, fr, hc⟩ := hq;obtain ⟨cur2, fr2, hc2⟩ := hseg q e;rw [hc] at hc2;simp only [Option.some.injEq, Obj.cells.injEq] at hc2;exact absurd hc2.2.1 (by decide)
 have hlow : ∀ x ∈ X0 Y Z, ∀ q, x.2.1.ownBlock = some q -> v'.ownBlock ≠ some q := fun x hx q hq e => by
  have hxm : x ∈ Y ++ (f, vE, b, es) :: Z := by
   rcases List.mem_append.1 hx with hx | hx
   ·exact List.mem_append.2 (.inl hx)
   ·exact List.mem_append.2 (.inr (List.mem_cons_of_mem _ hx))
  rcases hv q e with e3 | e3
  ·rcases List.mem_append.1 hx with hx | hx
   ·exact hp.2.2 x hx (f, vE, b, es) (by simp) q hq e3
   ·exact hp2.1 x hx q e3 hq
  ·obtain ⟨us, _, h2, _⟩ := h.each x hxm;have := (World.ownsRow.lt h2 q hq).2;omega
 refine ⟨?_, fun x hx => ?_, ?_, fun q hq => hG q (World.ownsRow.lt h.row q hq).2 (h.mine q hq)⟩
 ·have hl : (Y ++ (f, v', b, es') :: Z).length = (Y ++ (f, vE, b, es) :: Z).length := by simp
  rw [hl, <- cellsP_setE Y Z f vE v' b es es'];rw [hn] at hr1 ⊢;exact (World.ownsRow.stored hr1 (Y.length * 3 + 1) v').1
 ·rcases List.mem_append.1 hx with hx | hx
  ·exact hoth x (List.mem_append.2 (.inl hx))
  ·rcases List.mem_cons.1 hx with rfl | hx
   ·exact hE.off t2 hS2
   ·exact hoth x (List.mem_append.2 (.inr hx))
 ·refine List.pairwise_append.2 ⟨hp.1, List.pairwise_cons.2 ⟨fun y hy q hq e => hlow y (List.mem_append.2 (.inr hy)) q e hq, hp2.2⟩, fun x hx y hy q hq e => ?_⟩;rcases List.mem_cons.1 hy with rfl | hy
  ·exact hlow x (List.mem_append.2 (.inl hx)) q hq e
  ·exact hp.2.2 x hx y (List.mem_cons_of_mem _ hy) q hq e
theorem SegE.front {f : Nat} {es : List (List Nat)} (m : Nat) (h : SegE G w (.slice (some ⟨g, 0, none⟩) n c) f es) (hm : m <= es.length)
  (hr : ∀ us, us.length = es.length -> w.ownsRow 0 121 2 (.slice (some ⟨g, 0, none⟩) n c) es.length (cellsN us (endsL 0 f es)) -> w'.ownsRow 0 121 2 (.slice (some ⟨g, 0, none⟩) m c) m ((cellsN us (endsL 0 f es)).take (m * 2)))
  (hg : w.grownBy w' (some g)) : SegE G w' (.slice (some ⟨g, 0, none⟩) m c) f (es.take m) := by
 obtain ⟨us, h1, h2, h3, h4⟩ := h;have hl : (es.take m).length = m := by rw [List.length_take]; omega
 refine ⟨us.take m, by rw [List.length_take, List.length_take, h1], ?_, h3, fun i hi => ?_⟩
 ·have := hr us h1 h2;rw [cellsN_take us _ m (by rw [endsL_len, h1]), endsL_take] at this;rw [hl];exact this
 ·rw [List.length_take] at hi;have e1 : (us.take m).getD i (.slice none 0 0) = us.getD i (.slice none 0 0) := by simp only [List.getD_eq_getElem?_getD]; rw [List.getElem?_take_of_lt (by omega)]
  have e2 : (es.take m).getD i [] = es.getD i [] := by simp only [List.getD_eq_getElem?_getD]; rw [List.getElem?_take_of_lt (by omega)]
  rw [e1, e2];exact (h4 i (by omega)).turn (Turn.of_grown hg) (fun q hq _ e => by
   obtain ⟨cur, fr, hq⟩ := hq;obtain ⟨cur2, h5⟩ := row_typed h2 (show (Value.slice (some ⟨g, 0, none⟩) n c).ownBlock = some q from by rw [<- e.symm]; rfl);rw [hq] at h5;simp only [Option.some.injEq, Obj.cells.injEq] at h5;exact absurd h5.2.1 (by decide))
theorem cellsN_ones : ∀ (us : List Value) (es : List Nat), (∀ i, i < us.length -> (us.getD i (.slice none 0 0)).oneCell' = true) -> ∀ v ∈ cellsN us es, v.oneCell' = true
 | [], _, _, v, hv => by simp [cellsN] at hv
 | u :: us, [], _, v, hv => by simp [cellsN] at hv
 | u :: us, e :: es, h, v, hv => by
  simp only [cellsN, List.mem_cons] at hv;rcases hv with rfl | rfl | hv
  ·exact h 0 (by simp)
  ·rfl
  ·exact cellsN_ones us es (fun i hi => by have := h (i + 1) (by simpa using hi); simpa using this) v hv
theorem cellsP_ones : ∀ (X : List Sgp), (∀ x ∈ X, SegE G w x.2.1 x.1 x.2.2.2) -> ∀ v ∈ cellsP X, v.oneCell' = true
 | [], _, v, hv => by simp [cellsP] at hv
 | x :: X, h, v, hv => by
  simp only [cellsP, List.mem_cons] at hv;rcases hv with rfl | rfl | rfl | hv
  ·rfl
  ·exact (h x List.mem_cons_self).one
  ·rfl
  ·exact cellsP_ones X (fun y hy => h y (List.mem_cons_of_mem _ hy)) v hv
set_option maxRecDepth 100000 in
theorem pshort_none (w : World) (l g k f n c i : Nat) (A : Option Addr) (h0 : w.cell? ⟨g, k * 3, none⟩ = some (.int .i64 (f : Int))) (h1 : w.cell? ⟨g, k * 3 + 1, none⟩ = some (.slice A n c)) (hf : f <= 1099511627776) (hn : n <= 1099511627776) (hi : f + n <= i) :
  Calls Tryz.prog 101 #[.pointer (some ⟨l, 0, none⟩), .pointer (some ⟨g, k * 3, none⟩), .int .i64 (i : Int)] w fun e w' => e = .returned (.int .i64 0) /\ Below w.heap.size w w' := by
 obtain ⟨t, ht⟩ : ∃ t, t = f + n := ⟨_, rfl⟩;have HN := hide (pnext_any w g (k * 3) f n c A h0 h1 hf hn);rw [<- ht] at HN;have hz : (t : Int) <= (i : Int) := by omega
 clear ht hi;go_enter Tryz.func101, Tryz.ntmps101;go_wp2_with fail
 refine HN.out.mono ?_;rintro e w1 ⟨rfl, d, rfl⟩;go_wp2_with fail
 go_ret;exact ⟨rfl, below_drewN (Below.refl _ _) d⟩
set_option maxRecDepth 100000 in
set_option maxHeartbeats 6400000 in
theorem pshort_any (w : World) (F G : Nat -> Prop) (dp l room : Nat) (s : ByteArray) (g N c nx k f i : Nat) (Y Z : List Sgp) (vE : Value) (b : Bool) (es : List (List Nat)) (L : DiskL)
  (hB : Blk w 0 114 l [.pointer (some ⟨dp, 0, none⟩), .string s, .slice (some ⟨g, 0, none⟩) N c, .int .i64 (nx : Int)]) (hR : PRow w G (.slice (some ⟨g, 0, none⟩) N c) (Y ++ (f, vE, b, es) :: Z)) (hk : Y.length = k)
  (hD : DiskAt w F dp room L) (hap : ∀ q, F q -> ¬ G q) (hGl : G l) (hlow : ∀ q, G q -> q < w.heap.size) (hs : s.size <= 64) (hf : f <= 1099511627776) (hf1 : f < i) (hi : i < f + es.length) (hle : es.length <= 1073741824) (hrl : (recsL f es).length <= 1099511627776)
  (hcut : (cutL (nameL s.data.toList f) ((recsL f (es.take (i - f))).length : Int) L).2 = 0) :
  Calls Tryz.prog 101 #[.pointer (some ⟨l, 0, none⟩), .pointer (some ⟨g, k * 3, none⟩), .int .i64 (i : Int)] w fun e w' => e = .returned (.int .i64 0) /\ ∃ F' v', DiskAt w' F' dp room (cutL (nameL s.data.toList f) ((recsL f (es.take (i - f))).length : Int) L).1 /\
   PRow w' G (.slice (some ⟨g, 0, none⟩) N c) (Y ++ (f, v', b, es.take (i - f)) :: Z) /\ Blk w' 0 114 l [.pointer (some ⟨dp, 0, none⟩), .string s, .slice (some ⟨g, 0, none⟩) N c, .int .i64 (nx : Int)] /\
   Turn (fun q => F q \/ G q) w w' /\ (∀ q, F' q -> F q \/ w.heap.size <= q) /\ ∀ q, F' q -> ¬ G q := by
 obtain ⟨m, hm⟩ : ∃ m, m = i - f := ⟨_, rfl⟩;rw [<- hm] at hcut ⊢;have hm1 : 1 <= m := by omega
 have hme : m < es.length := by omega
 have hE := hR.each (f, vE, b, es) (by simp);dsimp only at hE;obtain ⟨AE, cE, eE, hEl, hEm, -, hEc⟩ := hE.form;obtain ⟨gE, u, eE2, hgE, -, y1, -⟩ := hEc (m - 1) (by omega);subst eE2;subst eE;rw [show m - 1 + 1 = m by omega] at y1;obtain ⟨zz, hzz⟩ : ∃ z, z = (recsL f (es.take m)).length := ⟨_, rfl⟩;rw [<- hzz] at y1 hcut ⊢;have hzl : zz <= 1099511627776 := by
  have h1 := recs_mono f es (show m <= es.length by omega);rw [List.take_length] at h1;omega
 obtain ⟨m1, hm9⟩ : ∃ q, q = m - 1 := ⟨_, rfl⟩;rw [<- hm9] at y1;have hms : (m : Int) - 1 = (m1 : Int) := by omega
 obtain ⟨ne, hne⟩ : ∃ n, n = es.length := ⟨_, rfl⟩;have hr0 : w.cell? ⟨g, k * 3, none⟩ = some (.int .i64 (f : Int)) /\ w.cell? ⟨g, k * 3 + 1, none⟩ = some (.slice (some ⟨gE, 0, none⟩) ne cE) /\ g < w.heap.size /\ (∀ j, w.frozen? ⟨g, j, none⟩ = false) := by
  obtain ⟨A9, c9, e9, _, _, _, h9⟩ := rowP_form hR.row;obtain ⟨g9, e10, _, hg9, q0, q1, _, q3⟩ := h9 k (by rw [<- hk]; simp);subst e10;cases e9
  have hx : (Y ++ (f, Value.slice (some ⟨gE, 0, none⟩) es.length cE, b, es) :: Z)[k]'(by rw [<- hk]; simp) = (f, .slice (some ⟨gE, 0, none⟩) es.length cE, b, es) := by
   subst hk;rw [List.getElem_append_right (Nat.le_refl _)];simp
  rw [hx] at q0 q1;rw [hne];exact ⟨q0, q1, hg9, q3⟩
 obtain ⟨q0, q1, hgl, qf⟩ := hr0;have hmn : (m1 : Int) < (ne : Int) := by omega
 have hmn2 : m1 < ne := by omega
 obtain ⟨t, ht⟩ : ∃ t, t = f + ne := ⟨_, rfl⟩;have HN := hide (pnext_any w g (k * 3) f ne cE (some ⟨gE, 0, none⟩) q0 q1 hf (by omega));rw [<- ht] at HN;have hz : (i : Int) < (t : Int) := by omega
 have hif : (i : Int) - (f : Int) = (m : Int) := by omega
 have hm0 : (m : Int) <= 1099511627776 := by omega
 have hmw1 : IntKind.i64.wrap (m1 : Int) = (m1 : Int) := by rw [IntKind.wrap_i64]; omega
 have hmw2 : IntKind.i64.wrap (m : Int) = (m : Int) := by rw [IntKind.wrap_i64]; omega
 have hm10 : (0 : Int) <= (m1 : Int) := by omega
 have c0 : w.cell? ⟨l, 0, none⟩ = some (.pointer (some ⟨dp, 0, none⟩)) := hB.cell 0;have c1 : w.cell? ⟨l, 1, none⟩ = some (.string s) := hB.cell 1;have hll := cell_lt c0;have hs64 : s.size <= 1099511627776 := by omega
 have hnl : Hid (¬ F l) := hide (fun h => hap l h hGl);have hng : Hid (¬ F g) := hide (fun h => hap g h (hR.mine g rfl));have hngE : Hid (¬ F gE) := hide (fun h => hap gE h (hE.own gE rfl));have HRR := hide hR;have HB := hide hB;have HD := hide hD;have HAP := hide hap;have HLOW := hide hlow;have HC := hide hcut;have HZZ := hide hzz;have HNE := hide hne;have HME := hide hme;have HK := hide hk;have QF := hide qf;have HM := hide hm;clear hE hEc hR hB hD hap hlow hcut hzz hne hk qf ht hm hi hrl hme hm9 hle;go_enter Tryz.func101, Tryz.ntmps101;go_wp2_with fail
 refine HN.out.mono ?_;rintro e w1 ⟨rfl, d1, rfl⟩;obtain ⟨w1, hw1⟩ : ∃ z, z = w.drewN d1 := ⟨_, rfl⟩;have kd : Below w.heap.size w w1 := by rw [hw1]; exact below_drewN (Below.refl _ _) d1
 rw [<- hw1];have r0 := (kd.cell (p := ⟨l, 0, none⟩) hll).trans c0;have r1 := (kd.cell (p := ⟨l, 1, none⟩) hll).trans c1;have p0 := (kd.cell (p := ⟨g, k * 3, none⟩) hgl).trans q0;have p1 := (kd.cell (p := ⟨g, k * 3 + 1, none⟩) hgl).trans q1;have pE := (kd.cell (p := ⟨gE, m1 * 2 + 1, none⟩) hgE).trans y1;have KD := hide kd;clear hw1 kd c0 c1 q0 q1 y1 HN;go_wp2_with fail
 have r1d : w1.drew.cell? ⟨l, 1, none⟩ = some (.string s) := r1;have R0 := hide r0;have P0 := hide p0;have P1 := hide p1;have PE := hide pE;have D1 := hide (HD.out.below KD.out);have hg1 : g < w1.heap.size := cell_lt p0;have hgE1 : gE < w1.heap.size := cell_lt pE;have hl1 : l < w1.heap.size := cell_lt r0
 go_region_held3 (fun W' => W'.cell? ⟨l, 0, none⟩ = some (.pointer (some ⟨dp, 0, none⟩)) /\ W'.cell? ⟨g, k * 3, none⟩ = some (.int .i64 (f : Int)) /\ W'.cell? ⟨g, k * 3 + 1, none⟩ = some (.slice (some ⟨gE, 0, none⟩) ne cE) /\ W'.cell? ⟨gE, m1 * 2 + 1, none⟩ = some (.int .i64 (zz : Int))) (go_keep)
  (first
   | (go_at_call 71; refine (pname_any l s f _ r1d hs64 hf).mono ?_; rintro e w2 ⟨t, rfl, htl, kn⟩; have kn2 : Below w1.heap.size w1 w2 := (by exact ⟨kn.os, kn.tape, kn.output, kn.size, kn.block⟩); have D2 := hide (D1.out.below kn2); have K2 := hide kn2; have x0 := (kn2.cell (p := ⟨l, 0, none⟩) hl1).trans R0.out; have x1 := (kn2.cell (p := ⟨g, k * 3, none⟩) hg1).trans P0.out; have x2 := (kn2.cell (p := ⟨g, k * 3 + 1, none⟩) hg1).trans P1.out; have x3 := (kn2.cell (p := ⟨gE, m1 * 2 + 1, none⟩) hgE1).trans PE.out; have X0 := hide x0; have X1 := hide x1; have X2 := hide x2; have X3 := hide x3; have TL := hide htl; have TS : t.size <= 1099511627776 := (by have h1 : t.data.toList.length = t.size := rfl; have h2 := name_len s.data.toList f; have h3 : s.data.toList.length = s.size := rfl; rw [htl, h2, h3] at h1; omega); clear htl kn kn2)
   | (go_at_call 93; refine (cutD_any F dp room _ t w2 D2.out TS (zz : Int)).mono ?_; rintro e w3 ⟨rfl, F3, d3, n3⟩; rw [TL.out] at d3 ⊢; rw [HC.out]; have N3 := hide n3; have D3 := hide d3; have z0 := (n3.far (i := 0) (cell_lt X0.out) hnl.out).trans X0.out; have z1 := (n3.far (i := k * 3) (cell_lt X1.out) hng.out).trans X1.out; have z2 := (n3.far (i := k * 3 + 1) (cell_lt X2.out) hng.out).trans X2.out; have z3 := (n3.far (i := m1 * 2 + 1) (cell_lt X3.out) hngE.out).trans X3.out; clear n3 d3))
 have hTF : Hid (Turn (fun q => F q) w w3) := hide (((Turn.of_below _ KD.out).trans (Turn.of_below _ K2.out)).trans N3.out.turn);have hF3 : Hid (∀ q, F3 q -> F q \/ w.heap.size <= q) := hide (fun q hq => (N3.out.foot q hq).imp id (fun h => by have := K2.out.size; have := KD.out.size; omega));have R3 := hide (HRR.out.turn hTF.out (fun q hg hf => HAP.out q hf hg));have B3 := hide (HB.out.turn hTF.out hnl.out);have HAP3 : Hid (∀ q, F3 q -> ¬ G q) := hide (fun q hq hg => (hF3.out q hq).elim (fun h => HAP.out q h hg) (fun h => by have := HLOW.out q hg; omega));have Z2 := hide z2;have hs3 := hTF.out.size;clear z0 z1 z3;go_wp2_with fail
 refine Ways.start (fun W => W.cell? ⟨g, k * 3 + 1, none⟩ = some (.slice (some ⟨gE, 0, none⟩) ne cE)) 14 15 #[false, false, false, false, false, false, false, false, false, false, false, false, false, false, false] (by kernel_rfl) (by kernel_rfl) (by kernel_rfl) ?_;have hHeld : w3.drew.cell? ⟨g, k * 3 + 1, none⟩ = some (.slice (some ⟨gE, 0, none⟩) ne cE) := z2
 iterate 11
  first | refine' tkW 0 rfl hHeld rfl ?_ ?_ | refine' tkW 1 rfl hHeld rfl ?_ ?_ | refine' tkW 2 rfl hHeld rfl ?_ ?_ | refine' tkW 3 rfl hHeld rfl ?_ ?_ | refine' tkW 4 rfl hHeld rfl ?_ ?_ | refine' tkW 5 rfl hHeld rfl ?_ ?_ | refine' tkW 6 rfl hHeld rfl ?_ ?_ | refine' tkW 7 rfl hHeld rfl ?_ ?_ | refine' tkW 8 rfl hHeld rfl ?_ ?_ | refine' tkW 9 rfl hHeld rfl ?_ ?_ | refine' tkW 10 rfl hHeld rfl ?_ ?_
  rotate_left
  ·(intro W hW; (try dsimp only at hW); go_simp; (try with_reducible rfl))
  try simp only [Act.put, List.setIfInBounds_toArray, List.set_cons_zero, List.set_cons_succ]
 refine Ways.one (i := 11) (by kernel_rfl) rfl (fun K hK => ?_);go_simp;have E3 := R3.out.each (f, .slice (some ⟨gE, 0, none⟩) ne cE, b, es) (by rw [HNE.out]; simp);dsimp only at E3;have HD9 := hide (show ∃ us, us.length = es.length /\ w3.ownsRow 0 121 2 (.slice (some ⟨gE, 0, none⟩) ne cE) ne (cellsN us (endsL 0 f es)) /\ (∀ v ∈ cellsN us (endsL 0 f es), v.oneCell' = true) from by
  obtain ⟨us, h1, h2, h3, h4⟩ := E3;exact ⟨us, h1, by rw [HNE.out] at h2 ⊢; exact h2, cellsN_ones _ _ (fun i hi => (h4 i hi).one)⟩)
 obtain ⟨us, hu1, hu2, hu3⟩ := HD9.out;go_at_call 122;refine (del_ents gE ne cE m ne m _ w3.drew hu2 hu3 (by have := HME.out; have := HNE.out; omega) (Nat.le_refl _) (by omega) (by have := HNE.out; omega) hEm).mono ?_;rintro e w4 ⟨rfl, o4, g4⟩;have o4 : w4.ownsRow 0 121 2 (.slice (some ⟨gE, 0, none⟩) m cE) m ((cellsN us (endsL 0 f es)).take (m * 2)) := by
  rw [List.drop_of_length_le (by have := hu2.1; omega), List.append_nil] at o4;exact o4
 have g4 : w3.grownBy w4 (some gE) := ⟨g4.os, g4.tape, g4.output, g4.size, g4.block⟩;have t4 := Turn.of_grown g4;have hgEg : ¬ some g = some gE := fun e => by
  obtain ⟨cur, h1⟩ := row_typed R3.out.row (g := g) rfl;obtain ⟨cur2, h2⟩ := row_typed hu2 (g := gE) rfl;rw [Option.some.inj e, h2] at h1;simp only [Option.some.injEq, Obj.cells.injEq] at h1;exact absurd h1.2.1 (by decide)
 have k2 := turn_cell t4 Z2.out hgEg;have hseg : SegE G w4 (.slice (some ⟨gE, 0, none⟩) m cE) f (es.take m) := by
  obtain ⟨us2, j1, j2, j3, j4⟩ := E3;have hl : (es.take m).length = m := by rw [List.length_take]; have := HME.out; omega
  have huu : cellsN us2 (endsL 0 f es) = cellsN us (endsL 0 f es) := by
   rcases j2.2 with ⟨e, _⟩ | ⟨ga, ca, cur, e, _, hh, _, _, _, h6⟩
   ·cases e
   ·rcases hu2.2 with ⟨e2, _⟩ | ⟨gb, cb, cur2, e2, _, hh2, _, _, _, h62⟩
    ·cases e2
    ·cases e
     cases e2
     rw [hh] at hh2;cases hh2
     rw [<- h6, <- h62, HNE.out]
  exact SegE.front (n := ne) (es := es) m ⟨us2, j1, j2, j3, j4⟩ (by have := HME.out; omega) (fun us3 j5 j6 => by
   have h9 : cellsN us3 (endsL 0 f es) = cellsN us (endsL 0 f es) := by
    rcases j6.2 with ⟨e, _⟩ | ⟨ga, ca, cur, e, _, hh, _, _, _, h6⟩
    ·cases e
    ·rcases hu2.2 with ⟨e2, _⟩ | ⟨gb, cb, cur2, e2, _, hh2, _, _, _, h62⟩
     ·cases e2
     ·cases e
      cases e2
      rw [hh] at hh2;cases hh2
      rw [<- h6, <- h62, HNE.out]
   rw [h9];exact o4) g4
 refine hK.out _ _ k2 ?_;try simp only [List.setIfInBounds_toArray, List.set_cons_zero, List.set_cons_succ]
 refine Ways.one (i := 12) (by kernel_rfl) rfl (fun K3 hK3 => ?_);go_simp;refine hK3.out _ _ k2 ?_;try simp only [List.setIfInBounds_toArray, List.set_cons_zero, List.set_cons_succ]
 refine' tkW 13 rfl k2 rfl ?_ ?_;rotate_left
 ·(intro W hW; (try dsimp only at hW); go_simp; (try with_reducible rfl))
 try simp only [Act.put, List.setIfInBounds_toArray, List.set_cons_zero, List.set_cons_succ]
 refine Ways.last (by kernel_rfl) rfl (by kernel_rfl) (fun K2 hK2 => ?_);have kf : w4.frozen? ⟨g, k * 3 + 1, none⟩ = false := by
  obtain ⟨A9, c9, e9, _, _, _, h9⟩ := rowP_form (ownsRow_turn R3.out.row t4 (fun q hq e => hgEg ((show some g = some q from hq).trans e)));obtain ⟨g9, e10, _, _, _, _, _, q3⟩ := h9 k (by rw [<- HK.out]; simp);cases e9
  cases e10
  exact q3 _
 go_simp;refine hK2.out _ _ ?_;have R5 := R3.out.setE (vE := .slice (some ⟨gE, 0, none⟩) es.length cE) (G' := G) (v' := .slice (some ⟨gE, 0, none⟩) m cE) (es' := es.take m) t4 hseg (fun _ _ h => h) (fun q hq => .inl hq);rw [HK.out] at R5;have hGE : G gE := E3.own gE rfl;have hGg : G g := R3.out.mine g rfl;have hlE : ¬ some l = some gE := fun e => ownsRow_notIn hu2 B3.out (by decide) (by rw [e]; rfl)
 have hlg : ¬ l = g := fun e => ownsRow_notIn R3.out.row B3.out (by decide) (by rw [e]; rfl)
 obtain ⟨w5, hw5⟩ : ∃ z, z = w4.setCell ⟨g, k * 3 + 1, none⟩ (.slice (some ⟨gE, 0, none⟩) m cE) := ⟨_, rfl⟩;have t5 : Turn (fun q => q = g) w4 w5 := by
  rw [hw5];exact (Turn.of_grown (grown_set w4 g _ _)).mono (fun q e => Option.some.inj e)
 rw [<- hw5] at R5 ⊢;have B5 := (B3.out.turn t4 hlE).turn t5 hlg;have tG : Turn G w3 w5 := (t4.mono (fun q e => by rw [Option.some.inj e]; exact hGE)).trans (t5.mono (fun q e => by rw [e]; exact hGg));have D5 := D3.out.turn tG (fun q hf hg => HAP3.out q hf hg);have T5 := (hTF.out.mono (S' := fun q => F q \/ G q) (fun _ => .inl)).trans (tG.mono (fun _ => .inr));have R6 := hide R5;have B6 := hide B5;have D6 := hide D5;have T6 := hide T5;clear R5 B5 D5 T5 tG t5 hw5 o4 g4 t4 k2 kf hK hK2 hseg E3 hu1 hu2 hu3;go_wp2_with fail
 go_ret;exact ⟨rfl, F3, _, D6.out, R6.out, B6.out, T6.out, hF3.out, HAP3.out⟩
def fullS (ns : List Str) (L : DiskL) : DiskL := L.map fun q => if q.1 ∈ ns then (q.1, (q.2.1, q.2.1.length)) else q
theorem full_first (ns : List Str) (q : Str × (List Nat × Nat)) : (if q.1 ∈ ns then (q.1, (q.2.1, q.2.1.length)) else q).1 = q.1 := by split <;> rfl
theorem full_rise {ns : List Str} (hr : Rise L) : Rise (fullS ns L) := by
 unfold Rise fullS;rw [List.pairwise_map];refine hr.imp ?_;intro a b h;rw [full_first, full_first];exact h
theorem sync_full {n : Str} (hr : Rise L) : (syncL n L).1 = fullS [n] L := by
 unfold syncL;rcases e : getK n L with _ | a
 ·have h := getK_none e
  show L = fullS [n] L
  unfold fullS
  conv => lhs; rw [<- List.map_id' L]
  refine List.map_congr_left fun q hq => ?_
  rw [if_neg (by simpa using h q hq)]
 ·show putK n (a.1, a.1.length) L = fullS [n] L
  refine rise_ext (putK_rise hr) (full_rise hr) fun p => ?_
  rw [mem_putK];unfold fullS;rw [List.mem_map];have hm := getK_mem e;constructor
  ·rintro (rfl | ⟨h1, h2⟩)
   ·exact ⟨(n, a), hm, by rw [if_pos (by simp)]⟩
   ·exact ⟨p, h1, by rw [if_neg (by simpa using h2)]⟩
  ·rintro ⟨q, hq, rfl⟩;by_cases hn : q.1 = n
   ·have e2 : q = (n, a) := rise_inj hr hq hm hn;rw [e2, if_pos (by simp)];exact .inl rfl
   ·rw [if_neg (by simpa using hn)];exact .inr ⟨hq, hn⟩
theorem full_full (ns ms : List Str) (L : DiskL) : fullS ms (fullS ns L) = fullS (ns ++ ms) L := by
 unfold fullS;rw [List.map_map];refine List.map_congr_left fun q _ => ?_
 simp only [Function.comp];by_cases h1 : q.1 ∈ ns <;> by_cases h2 : q.1 ∈ ms <;> simp [h1, h2]
theorem fold_full : ∀ (ns : List Str) {L : DiskL}, Rise L -> ns.foldl (fun L n => (syncL n L).1) L = fullS ns L := by
 intro ns
 induction ns with
 | nil => intro L _; simp [fullS]
 | cons n ns ih =>
  intro L hr;rw [List.foldl_cons, sync_full hr, ih (full_rise hr), full_full]
  rfl
theorem syncs_full (k : Str) (l : List Nat) (hr : Rise L) : syncsL k l L = fullS (l.map (nameL k)) L := by
 rw [<- fold_full _ hr, List.foldl_map]
 rfl
def freshN (k : Str) (S : List Sgf) : List Str := (S.filter (fun x => x.2.2)).map fun x => nameL k x.1
theorem psync_full (k : Str) : ∀ (S : List Sgf) {L : DiskL}, Rise L -> S.foldl (fun L x => if x.2.2 = true then (syncL (nameL k x.1) L).1 else L) L = fullS (freshN k S) L := by
 intro S
 induction S with
 | nil => intro L _; simp [fullS, freshN]
 | cons x S ih =>
  intro L hr;rw [List.foldl_cons];by_cases h : x.2.2 = true
  ·rw [if_pos h, sync_full hr, ih (full_rise hr), full_full];unfold freshN;rw [List.filter_cons, if_pos h]
   rfl
  ·rw [if_neg h, ih hr];unfold freshN;rw [List.filter_cons, if_neg h]
theorem getK_full (ns : List Str) (j : Str) (L : DiskL) : getK j (fullS ns L) = (getK j L).map fun a => if j ∈ ns then (a.1, a.1.length) else a := by
 unfold getK fullS;rw [List.find?_map];have e : ((fun p : Str × (List Nat × Nat) => p.1 == j) ∘ fun q : Str × (List Nat × Nat) => if q.1 ∈ ns then (q.1, (q.2.1, q.2.1.length)) else q) = fun p => p.1 == j := by
  funext q;simp only [Function.comp, full_first]
 rw [e];generalize h : L.find? (fun p : Str × (List Nat × Nat) => p.1 == j) = o;rcases o with _ | q
 ·rfl
 ·have hq : q.1 = j := by have := List.find?_some h; simpa using this
  simp only [Option.map_some];rw [hq];by_cases hj : j ∈ ns
  ·rw [if_pos hj, if_pos hj]
  ·rw [if_neg hj, if_neg hj]
theorem twin_sync {k : Str} (h : Twin k P M L) (hr : Rise L) :
  P.segs.foldl (fun L x => if x.2.2 = true then (syncL (nameL k x.1) L).1 else L) L = syncsL k M.dirty L /\ Twin k ⟨P.segs.map (fun x => (x.1, x.2.1, false)), P.next⟩ ⟨M.segs, M.next, []⟩ (syncsL k M.dirty L) := by
 have e1 := psync_full k P.segs hr;have e2 := syncs_full k M.dirty hr;have heq : fullS (freshN k P.segs) L = fullS (M.dirty.map (nameL k)) L := by
  unfold fullS;refine List.map_congr_left fun q hq => ?_
  by_cases h1 : q.1 ∈ freshN k P.segs
  ·rw [if_pos h1, if_pos];unfold freshN at h1;obtain ⟨x, hx, hn⟩ := List.mem_map.1 h1;obtain ⟨hx1, hx2⟩ := List.mem_filter.1 hx;exact List.mem_map.2 ⟨x.1, h.fresh x hx1 hx2, hn⟩
  ·rw [if_neg h1];by_cases h2 : q.1 ∈ M.dirty.map (nameL k)
   ·rw [if_pos h2];obtain ⟨n, hn, hnq⟩ := List.mem_map.1 h2;have hg : getK (nameL k n) L = some q.2 := mem_getK hr (by rw [hnq]; exact hq);obtain ⟨s, hs, hsn⟩ := h.stray n (h.dirt n hn) (by rw [hg]; rfl);rw [h.segs] at hs;obtain ⟨x, hx, rfl⟩ := List.mem_map.1 hs;have hsn : x.1 = n := hsn;have hf : x.2.2 = false := by
     rcases hb : x.2.2 with _ | _
     ·rfl
     ·refine absurd ?_ h1;unfold freshN;exact List.mem_map.2 ⟨x, List.mem_filter.2 ⟨hx, hb⟩, by rw [hsn]; exact hnq⟩
    have hl := h.last x hx hf q.2 (by rw [hsn]; exact hg);rw [<- hl]
   ·rw [if_neg h2]
 refine ⟨by rw [e1, e2, heq], ?_⟩;have hget : ∀ j, getK j (syncsL k M.dirty L) = (getK j L).map fun a => if j ∈ M.dirty.map (nameL k) then (a.1, a.1.length) else a := fun j => by rw [e2, getK_full]
 refine ⟨?_, h.next, h.chain, h.full, h.low, fun s hs => ?_, fun n h1 h2 => h.stray n h1 ?_, fun x hx hxt => ?_, fun x hx _ a ha => ?_, fun n hn => by cases hn⟩
 ·rw [h.segs, List.map_map]
  rfl
 ·obtain ⟨a, g1, g2⟩ := h.file s hs;refine ⟨_, by rw [hget, g1]; rfl, ?_⟩;dsimp only;split
  ·exact g2
  ·exact g2
 ·rw [hget] at h2;rcases e : getK (nameL k n) L with _ | a
  ·rw [e] at h2;exact h2
  ·rfl
 ·obtain ⟨y, hy, rfl⟩ := List.mem_map.1 hx;exact absurd hxt (by simp)
 ·obtain ⟨y, hy, rfl⟩ := List.mem_map.1 hx;have ha : getK (nameL k y.1) (syncsL k M.dirty L) = some a := ha;rw [hget] at ha;rcases e : getK (nameL k y.1) L with _ | b
  ·rw [e] at ha;cases ha
  ·rw [e] at ha;have ha := (Option.some.inj ha).symm;subst ha;dsimp only;by_cases hd : nameL k y.1 ∈ M.dirty.map (nameL k)
   ·rw [if_pos hd]
   ·rw [if_neg hd];refine h.last y hy ?_ b e;rcases hb : y.2.2 with _ | _
    ·rfl
    ·exact absurd (List.mem_map.2 ⟨y.1, h.fresh y hy hb, rfl⟩) hd
end Go.Proofs.YtedlibkkeegnaaaGreat
