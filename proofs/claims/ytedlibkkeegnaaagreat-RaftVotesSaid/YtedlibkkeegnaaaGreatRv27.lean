/- The program's Get. Condition: fewer than 2 to the 30 segments, numbers and lengths below 2 to the 40. The contracts of slices.Delete of segments and of entries. -/
import Derived.Test.YtedlibkkeegnaaaGreatRv26
import Derived.Test.YtedlibkkeegnaaaGreatRv10
import Derived.Test.YtedlibkkeegnaaaGreatRv13
namespace Go.Proofs.YtedlibkkeegnaaaGreat
open Go.RowKit Go.Maps
variable {w w' : World} {G : Nat -> Prop} {L L' : DiskL} {M : LogL} {P : PLog} {g n c i N : Nat}
theorem ahead_ex : ∀ (X : List Sgp) (z : Int), (∀ a b (ha : a < X.length) (hb : b < X.length), a < b -> X[a].1 < X[b].1) -> ∃ j : Nat, j <= X.length /\ ∀ k (hk : k < X.length), k < j ↔ (X[k].1 : Int) < z := by
 intro X
 induction X with
 | nil => intro z _; exact ⟨0, Nat.le_refl _, fun k hk => absurd hk (by simp)⟩
 | cons x r ih =>
  intro z hr;by_cases hx : (x.1 : Int) < z
  ·obtain ⟨j, h1, h2⟩ := ih z (fun a b ha hb hab => by
    have := hr (a + 1) (b + 1) (by simpa using ha) (by simpa using hb) (by omega);simpa using this)
   refine ⟨j + 1, by simpa using h1, fun k hk => ?_⟩;rcases k with _ | k
   ·simpa using hx
   ·have := h2 k (by simpa using hk);simpa using this
  ·refine ⟨0, Nat.zero_le _, fun k hk => ?_⟩;have h9 : (x.1 : Int) <= ((x :: r)[k].1 : Int) := by
    rcases k with _ | k
    ·exact Int.le_refl _
    ·have := hr 0 (k + 1) (by simp) hk (by omega);simp only [List.getElem_cons_zero] at this;omega
   constructor
   ·intro h; omega
   ·intro h; omega
theorem ahead_uni {X : List Sgp} {z : Int} {j : Nat} (hi : i <= X.length) (hj : j <= X.length) (h1 : ∀ k (hk : k < X.length), k < i ↔ (X[k].1 : Int) < z) (h2 : ∀ k (hk : k < X.length), k < j ↔ (X[k].1 : Int) < z) : i = j := by
 rcases Nat.lt_trichotomy i j with h | h | h
 ·have a := (h2 i (by omega)).1 h;have b := (h1 i (by omega)).2 a;omega
 ·exact h
 ·have a := (h1 j (by omega)).1 h;have b := (h2 j (by omega)).2 a;omega
theorem chain_segP {X : List Sgp} {segs : List Sgf} (e : segs = X.map segP) : segs.map bareP = X.map fun x => (x.1, x.2.2.2) := by
 rw [e, List.map_map]
 rfl
theorem rise_of_chain {X : List Sgp} (hc : Chain i (X.map fun x => (x.1, x.2.2.2)) n) (hs : ∀ s ∈ (X.map fun x : Sgp => ((x.1, x.2.2.2) : Sg)).dropLast, s.2 ≠ []) : ∀ a b (ha : a < X.length) (hb : b < X.length), a < b -> X[a].1 < X[b].1 := fun a b ha hb hab => by
 have := chain_rise hc hs a b (by simpa using ha) (by simpa using hb) hab;simpa using this
set_option maxRecDepth 100000 in
theorem pget_out (w : World) (G : Nat -> Prop) (l dp : Nat) (s : ByteArray) (P : PLog) (z : Int) (h : PLogAt w G l dp s P) (hz : z < (firstP P : Int) \/ (P.next : Int) <= z) :
  Calls Tryz.prog 40 #[.pointer (some ⟨l, 0, none⟩), .int .i64 z] w fun e w' => e = .returned (.tuple #[.slice none 0 0, .int .i64 7]) /\ Below w.heap.size w w' := by
 have HB := hide (pbounds_any w G l dp s P h);obtain ⟨f, hf⟩ : ∃ f, f = firstP P := ⟨_, rfl⟩;obtain ⟨nx, hnx⟩ : ∃ nx, nx = P.next := ⟨_, rfl⟩;rw [<- hf, <- hnx] at HB;rw [<- hf, <- hnx] at hz;clear hf hnx h;by_cases h1 : z < (f : Int)
 ·clear hz;go_enter Tryz.func40, Tryz.ntmps40;go_wp2_with fail
  refine HB.out.mono ?_;rintro e w1 ⟨rfl, d, rfl⟩;go_wp2_with fail
  refine bodyPost_ret (v := .tuple #[.slice none 0 0, .int .i64 7]) (by simp [results, Tryz.results40, go_sem]) rfl ?_;exact ⟨rfl, below_drewN (Below.refl _ _) d⟩
 ·have h2 : (nx : Int) <= z := hz.resolve_left h1;have h1 : (f : Int) <= z := by omega
  clear hz;go_enter Tryz.func40, Tryz.ntmps40;go_wp2_with fail
  refine HB.out.mono ?_;rintro e w1 ⟨rfl, d, rfl⟩;go_wp2_with fail
  refine bodyPost_ret (v := .tuple #[.slice none 0 0, .int .i64 7]) (by simp [results, Tryz.results40, go_sem]) rfl ?_;exact ⟨rfl, below_drewN (Below.refl _ _) d⟩
set_option maxRecDepth 100000 in
set_option maxHeartbeats 6400000 in
theorem pget_in (w : World) (G : Nat -> Prop) (l dp : Nat) (s : ByteArray) (vS : Value) (X : List Sgp) (nx i : Nat) (z : Int) (h : PLogW w G l dp s vS X nx) (hc : Chain i (X.map fun x => (x.1, x.2.2.2)) nx) (hs : ∀ s ∈ (X.map fun x : Sgp => ((x.1, x.2.2.2) : Sg)).dropLast, s.2 ≠ [])
  (hi : (firstP ⟨X.map segP, nx⟩ : Int) = i) (hz1 : (i : Int) <= z) (hz2 : z < (nx : Int)) (hsl : X.length <= 1073741824) (hnx : nx <= 1099511627776) (hp : ∀ x ∈ X, ∀ p ∈ x.2.2.2, p.length <= 1099511627776) :
  Calls Tryz.prog 40 #[.pointer (some ⟨l, 0, none⟩), .int .i64 z] w fun e w' => ∃ v, e = .returned (.tuple #[v, .int .i64 0]) /\ Own w' w.heap.size v (getE ⟨X.map fun x => (x.1, x.2.2.2), nx, []⟩ z).1 /\ Below w.heap.size w w' := by
 have hr := rise_of_chain hc hs;have HB := hide (pbounds_any w G l dp s ⟨X.map segP, nx⟩ ⟨vS, X, rfl, h⟩);rw [hi] at HB;obtain ⟨j, hj1, hj2⟩ := ahead_ex X (z + 1) hr;obtain ⟨k1, k2, k3, k4, k5⟩ := getE_ahead (j := j) (d := []) hc hs hz1 hz2 (by simpa using hj1) (fun k hk => by simpa using hj2 k (by simpa using hk));have hjX : j - 1 < X.length := by simpa using k2
 obtain ⟨AS, cS, eS, hlc, hc63, hnil, hcell⟩ := rowP_form h.row;subst eS;obtain ⟨N, hN⟩ : ∃ N, N = X.length := ⟨_, rfl⟩;obtain ⟨gS, eA, -, hgS, q0, q1, q2, qf⟩ := hcell (j - 1) hjX;subst eA;obtain ⟨x, hx⟩ : ∃ x, x = X[j - 1] := ⟨_, rfl⟩;obtain ⟨f, vE, b, es⟩ := x;rw [<- hx] at q0 q1 q2;have hE := h.each (f, vE, b, es) (by rw [hx]; exact List.getElem_mem hjX);have hpe := hp (f, vE, b, es) (by rw [hx]; exact List.getElem_mem hjX);dsimp only at q0 q1 q2 hE hpe;have ex : (X.map fun x : Sgp => ((x.1, x.2.2.2) : Sg))[j - 1] = (f, es) := by rw [List.getElem_map, <- hx]
 rw [ex] at k3 k4 k5;have k3 : (f : Int) <= z := k3;have k4 : z < (f : Int) + es.length := k4;rw [k5];obtain ⟨kz, hkz⟩ : ∃ k, k = (z - f).toNat := ⟨_, rfl⟩;have hkz2 : z - (f : Int) = (kz : Int) := by omega
 have hkl : kz < es.length := by omega
 show Calls _ _ _ _ fun e w' => ∃ v, _ /\ Own w' w.heap.size v (es.getD (z - f).toNat []) /\ _
 rw [<- hkz];obtain ⟨AE, cE, eE, hEl, hEm, -, hEc⟩ := hE.form;obtain ⟨gE, u, eE2, hgE, y0, -, hu⟩ := hEc kz hkl;subst eE2;subst eE;have hul : (es.getD kz []).length <= 1099511627776 := hpe _ (by rw [List.getD_eq_getElem?_getD, List.getElem?_eq_getElem hkl]; exact List.getElem_mem hkl);obtain ⟨pz, hpz⟩ : ∃ p, p = es.getD kz [] := ⟨_, rfl⟩;rw [<- hpz] at hu hul ⊢;obtain ⟨ne, hne⟩ : ∃ n, n = es.length := ⟨_, rfl⟩;have hkl : kz < ne := by omega
 rw [<- hne] at q1 hEl;obtain ⟨jj, hjj⟩ : ∃ q, q = j - 1 := ⟨_, rfl⟩;rw [<- hjj] at q0 q1 q2;have hjs : (j : Int) - 1 = (jj : Int) := by omega
 have hjl : jj < N := by omega
 rw [<- hN] at hlc;have c2 : w.cell? ⟨l, 2, none⟩ = some (.slice (some ⟨gS, 0, none⟩) N cS) := by rw [hN]; exact h.cells.cell 2
 have hll := cell_lt c2;have HU := hide hu.1;have hul2 : pz.length <= 1099511627776 := hul;have HJ := hide (show ∀ (W : World), Below w.heap.size w W -> Calls Tryz.prog 68 #[.pointer (some ⟨l, 0, none⟩), .int .i64 (z + 1)] W fun e w' => e = .returned (.int .i64 (j : Int)) /\ Below W.heap.size W w' from fun W k => (pahead_any W G l dp s _ X nx (z + 1) (h.below k) hsl hr).mono (fun e w' => by
  rintro ⟨i2, rfl, h1, h2, h3⟩;exact ⟨by rw [ahead_uni h1 hj1 h2 hj2], h3⟩))
 have Q0 := hide q0;have Q1 := hide q1;have Q2 := hide q2;have Y0 := hide y0;have hz3 : -9223372036854775808 <= z + 1 := by omega
 have hz4 : z + 1 <= 9223372036854775807 := by omega
 have hjw : IntKind.i64.wrap (jj : Int) = (jj : Int) := by rw [IntKind.wrap_i64]; omega
 have hw1 : IntKind.i64.wrap (z + 1) = z + 1 := by rw [IntKind.wrap_i64]; omega
 clear hEc hu hE hpe hp ex k5 hcell hnil h hr hj1 hj2 hc hs hi hx hjj hkz hne hpz hN q0 q1 q2 qf y0 k1 k2 hjX hul hsl;go_enter Tryz.func40, Tryz.ntmps40;go_wp2_with fail
 refine HB.out.mono ?_;rintro e w1 ⟨rfl, d, rfl⟩;obtain ⟨w0, hw0⟩ : ∃ z, z = w.drewN d := ⟨_, rfl⟩;have K0 : Below w.heap.size w w0 := by rw [hw0]; exact below_drewN (Below.refl _ _) d
 have t2 : w0.cell? ⟨l, 2, none⟩ = some (.slice (some ⟨gS, 0, none⟩) N cS) := (K0.cell (p := ⟨l, 2, none⟩) hll).trans c2;rw [<- hw0];have KH := hide K0;have C2 := hide c2;have hll0 := cell_lt t2;clear c2 hw0;go_wp2_with fail
 refine Ways.start (fun W => W.cell? ⟨l, 2, none⟩ = some (.slice (some ⟨gS, 0, none⟩) N cS)) 12 13 #[false, false, false, false, false, false, false, false, false, false, false, false, false] (by kernel_rfl) (by kernel_rfl) (by kernel_rfl) ?_;have hHeld : w0.drew.cell? ⟨l, 2, none⟩ = some (.slice (some ⟨gS, 0, none⟩) N cS) := t2
 iterate 7
  first | refine' tkW 0 rfl hHeld rfl ?_ ?_ | refine' tkW 1 rfl hHeld rfl ?_ ?_ | refine' tkW 2 rfl hHeld rfl ?_ ?_ | refine' tkW 3 rfl hHeld rfl ?_ ?_ | refine' tkW 4 rfl hHeld rfl ?_ ?_ | refine' tkW 5 rfl hHeld rfl ?_ ?_ | refine' tkW 6 rfl hHeld rfl ?_ ?_
  rotate_left
  ·(intro W hW; (try dsimp only at hW); go_simp; (try with_reducible rfl))
  try simp only [Act.put, List.setIfInBounds_toArray, List.set_cons_zero, List.set_cons_succ]
 refine Ways.rely [7, 8, 9, 10, 11, 12] (fun a0 d a W => ∃ v7 v8 v9 v10 v11, a = (((((a0.put (some 29) v7).put (some 30) v8).put (some 31) v9).put (some 32) v10).put (some 8) v11) /\ (d 12 = false -> Below w.heap.size w W) /\ (d 7 = true -> v7 = .int .i64 (j : Int)) /\ (d 8 = true -> v8 = .int .i64 (jj : Int)) /\ (d 9 = true -> v9 = .pointer (some ⟨gS, jj * 3, none⟩)) /\ (d 10 = true -> v10 = .agg #[.int .i64 (f : Int), .slice (some ⟨gE, 0, none⟩) ne cE, .bool b]) /\
   (d 11 = true -> d 12 = false -> ∃ y, v11 = .pointer (some ⟨y, 0, none⟩) /\ w.heap.size <= y /\ Blk W 0 119 y [.int .i64 0, .slice none 0 0, .bool false]) /\
   (d 12 = true -> ∃ y, v11 = .pointer (some ⟨y, 0, none⟩) /\ w.heap.size <= y /\ Below w.heap.size w W /\ Blk W 0 119 y [.int .i64 (f : Int), .slice (some ⟨gE, 0, none⟩) ne cE, .bool b])) (by kernel_rfl) (by kernel_rfl) (by kernel_rfl) (by decide) (by kernel_rfl) (by kernel_rfl) ?_ ?_ ?_ ?_
 ·exact ⟨undef, undef, undef, undef, undef, (by kernel_rfl), fun _ => ⟨KH.out.os, KH.out.tape, KH.out.output, KH.out.size, KH.out.block⟩, fun h => absurd h (not_true (by kernel_rfl)), fun h => absurd h (not_true (by kernel_rfl)), fun h => absurd h (not_true (by kernel_rfl)), fun h => absurd h (not_true (by kernel_rfl)), fun h => absurd h (not_true (by kernel_rfl)), fun h => absurd h (not_true (by kernel_rfl))⟩
 ·rintro d a W hd ⟨v7, v8, v9, v10, v11, rfl, hB, -⟩;exact ((hB hd).cell (p := ⟨l, 2, none⟩) hll).trans C2.out
 ·refine stepsL_cons (StepL.intro (l := [4, 6]) rfl (by kernel_rfl) ?_) ?_
  ·rintro d a W K hK hL hd hl ⟨v7, v8, v9, v10, v11, ha, hB, f7, f8, f9, f10, f11, f12⟩;simp only [Act.put, List.setIfInBounds_toArray, List.set_cons_zero, List.set_cons_succ] at ha;subst ha;have hb := hB hL;clear hl;go_simp;go_at_call 68;refine (HJ.out W hb).mono ?_;rintro e w2 ⟨rfl, k2⟩;refine hK.out _ _ ⟨.int .i64 (j : Int), v8, v9, v10, v11, (by kernel_rfl), fun _ => below_step hb k2, fun _ => rfl, f8, f9, f10, fun h h' => by obtain ⟨y, e, h1, h2⟩ := f11 h h'; exact ⟨y, e, h1, h2.turn (Turn.of_below (fun _ => False) k2) id⟩, fun h => absurd h (not_true hL)⟩
  refine stepsL_cons (StepL.intro (l := [7]) rfl (by kernel_rfl) ?_) ?_
  ·rintro d a W K hK hL hd hl ⟨v7, v8, v9, v10, v11, ha, hB, f7, f8, f9, f10, f11, f12⟩;simp only [Act.put, List.setIfInBounds_toArray, List.set_cons_zero, List.set_cons_succ] at ha;subst ha;have hb := hB hL;have e7 := f7 (hl 7 (by simp));clear hl;subst e7;go_simp;refine hK.out _ _ ⟨.int .i64 (j : Int), .int .i64 (jj : Int), v9, v10, v11, (by kernel_rfl), hB, f7, fun _ => rfl, f9, f10, f11, fun h => absurd h (not_true hL)⟩
  refine stepsL_cons (StepL.intro (l := [3, 8]) rfl (by kernel_rfl) ?_) ?_
  ·rintro d a W K hK hL hd hl ⟨v7, v8, v9, v10, v11, ha, hB, f7, f8, f9, f10, f11, f12⟩;simp only [Act.put, List.setIfInBounds_toArray, List.set_cons_zero, List.set_cons_succ] at ha;subst ha;have hb := hB hL;have e8 := f8 (hl 8 (by simp));clear hl;subst e8;go_simp;refine hK.out _ _ ⟨v7, .int .i64 (jj : Int), .pointer (some ⟨gS, jj * 3, none⟩), v10, v11, (by kernel_rfl), hB, f7, f8, fun _ => rfl, f10, f11, fun h => absurd h (not_true hL)⟩
  refine stepsL_cons (StepL.intro (l := [9]) rfl (by kernel_rfl) ?_) ?_
  ·rintro d a W K hK hL hd hl ⟨v7, v8, v9, v10, v11, ha, hB, f7, f8, f9, f10, f11, f12⟩;simp only [Act.put, List.setIfInBounds_toArray, List.set_cons_zero, List.set_cons_succ] at ha;subst ha;have hb := hB hL;have e9 := f9 (hl 9 (by simp));clear hl;subst e9;have p0 := (hb.cell (p := ⟨gS, jj * 3, none⟩) hgS).trans Q0.out;have p1 := (hb.cell (p := ⟨gS, jj * 3 + 1, none⟩) hgS).trans Q1.out;have p2 := (hb.cell (p := ⟨gS, jj * 3 + 2, none⟩) hgS).trans Q2.out;go_simp;refine hK.out _ _ ⟨v7, v8, .pointer (some ⟨gS, jj * 3, none⟩), .agg #[.int .i64 (f : Int), .slice (some ⟨gE, 0, none⟩) ne cE, .bool b], v11, (by kernel_rfl), hB, f7, f8, f9, fun _ => rfl, f11, fun h => absurd h (not_true hL)⟩
  refine stepsL_cons (StepL.intro (l := []) rfl (by kernel_rfl) ?_) ?_
  ·rintro d a W K hK hL hd hl ⟨v7, v8, v9, v10, v11, ha, hB, f7, f8, f9, f10, f11, f12⟩;simp only [Act.put, List.setIfInBounds_toArray, List.set_cons_zero, List.set_cons_succ] at ha;subst ha;have hb := hB hL;clear hl;go_simp;have ka := below_alloc W (.cells #[.int .i64 0, .slice none 0 0, .bool false] 119);refine hK.out _ _ ⟨v7, v8, v9, v10, .pointer (some ⟨W.heap.size, 0, none⟩), (by kernel_rfl), fun _ => below_step hb ka, f7, f8, f9, f10, fun _ _ => ⟨_, rfl, hb.size, Blk.new (B := 0) W 119 #[.int .i64 0, .slice none 0 0, .bool false] (Nat.zero_le _)⟩, fun h => absurd h (not_true hL)⟩
  refine stepsL_cons (StepL.intro (l := [11, 10, 7, 0, 1, 2, 3, 4, 5, 6, 7, 8, 9, 10, 11]) rfl (by kernel_rfl) ?_) ?_
  ·rintro d a W K hK hL hd hl ⟨v7, v8, v9, v10, v11, ha, hB, f7, f8, f9, f10, f11, f12⟩;simp only [Act.put, List.setIfInBounds_toArray, List.set_cons_zero, List.set_cons_succ] at ha;subst ha;have hb := hB hL;have e10 := f10 (hl 10 (by simp));obtain ⟨y, e11, hy, bk⟩ := f11 (hl 11 (by simp)) hL;clear hl;subst e10;subst e11;have p0 := bk.cell 0;have p1 := bk.cell 1;have p2 := bk.cell 2;have z0 := bk.frozen 0;have z1 := bk.frozen 1;have z2 := bk.frozen 2;go_simp;refine hK.out _ _ ⟨v7, v8, v9, .agg #[.int .i64 (f : Int), .slice (some ⟨gE, 0, none⟩) ne cE, .bool b], .pointer (some ⟨y, 0, none⟩), (by kernel_rfl), fun h => mark_absurd h, f7, f8, f9, f10, fun _ h => mark_absurd h, fun _ => ⟨y, rfl, hy, ((hb.setCell (p := ⟨y, 0, none⟩) hy _).setCell (p := ⟨y, 1, none⟩) hy _).setCell (p := ⟨y, 2, none⟩) hy _, ((bk.stored 0 _).stored 1 _).stored 2 _⟩⟩
  exact stepsL_nil
 ·rintro d a W hd ⟨v7, v8, v9, v10, v11, rfl, -, -, -, -, -, -, f12⟩;obtain ⟨y, rfl, hy, kB, bk⟩ := f12 (hd 12 (by simp));clear f12 hd;try simp only [Act.put, List.setIfInBounds_toArray, List.set_cons_zero, List.set_cons_succ]
  have p0 := bk.cell 0;have p1 := bk.cell 1;have r0 := (kB.cell (p := ⟨gE, kz * 2, none⟩) hgE).trans Y0.out;obtain ⟨Au, nu, cu, eu⟩ : ∃ A n c, u = .slice A n c := by obtain ⟨A, c, e, _⟩ := HU.out; exact ⟨_, _, _, e⟩
  subst eu;have IU := hide (HU.out.keep kB);have HNU : Hid (pz.length = nu) := hide (by obtain ⟨A, c, e, _⟩ := HU.out; cases e; rfl);have KB := hide kB;clear kB bk;go_wp2_with fail
  refine (clone_any Au nu cu pz _ IU.out HNU.out (by rw [<- HNU.out]; exact hul2)).mono ?_;rintro e w3 ⟨v3, rfl, o3, k3⟩;have O3 := hide (o3.more KB.out.size);have K3 := hide (below_step KB.out k3);obtain ⟨A3, c3, rfl, -⟩ := o3.isB.form rfl;clear o3 k3;go_wp2_with fail
  refine bodyPost_ret (v := .tuple #[.slice A3 pz.length c3, .int .i64 0]) (by simp [results, Tryz.results40, go_sem]) rfl ?_;exact ⟨_, rfl, O3.out, K3.out⟩
def fullS (ns : List Str) (L : DiskL) : DiskL := L.map fun q => if q.1 ∈ ns then (q.1, (q.2.1, q.2.1.length)) else q
theorem full_first (ns : List Str) (q : Str × (List Nat × Nat)) : (if q.1 ∈ ns then (q.1, (q.2.1, q.2.1.length)) else q).1 = q.1 := by split <;> rfl
theorem full_rise {ns : List Str} (hr : Rise L) : Rise (fullS ns L) := by
 unfold Rise fullS;rw [List.pairwise_map];refine hr.imp ?_;intro a b h;rw [full_first, full_first];exact h
theorem sync_full {n : Str} (hr : Rise L) : (syncL n L).1 = fullS [n] L := by
 unfold syncL;rcases e : getK n L with _ | a
 ·have h := getK_none e
  show L = fullS [n] L
  unfold fullS
  conv => lhs; rw [<- List.map_id' L]
  refine List.map_congr_left fun q hq => ?_
  rw [if_neg (by simpa using h q hq)]
 ·show putK n (a.1, a.1.length) L = fullS [n] L
  refine rise_ext (putK_rise hr) (full_rise hr) fun p => ?_
  rw [mem_putK];unfold fullS;rw [List.mem_map];have hm := getK_mem e;constructor
  ·rintro (rfl | ⟨h1, h2⟩)
   ·exact ⟨(n, a), hm, by rw [if_pos (by simp)]⟩
   ·exact ⟨p, h1, by rw [if_neg (by simpa using h2)]⟩
  ·rintro ⟨q, hq, rfl⟩;by_cases hn : q.1 = n
   ·have e2 : q = (n, a) := rise_inj hr hq hm hn;rw [e2, if_pos (by simp)];exact .inl rfl
   ·rw [if_neg (by simpa using hn)];exact .inr ⟨hq, hn⟩
theorem full_full (ns ms : List Str) (L : DiskL) : fullS ms (fullS ns L) = fullS (ns ++ ms) L := by
 unfold fullS;rw [List.map_map];refine List.map_congr_left fun q _ => ?_
 simp only [Function.comp];by_cases h1 : q.1 ∈ ns <;> by_cases h2 : q.1 ∈ ms <;> simp [h1, h2]
theorem fold_full : ∀ (ns : List Str) {L : DiskL}, Rise L -> ns.foldl (fun L n => (syncL n L).1) L = fullS ns L := by
 intro ns
 induction ns with
 | nil => intro L _; simp [fullS]
 | cons n ns ih =>
  intro L hr;rw [List.foldl_cons, sync_full hr, ih (full_rise hr), full_full]
  rfl
theorem syncs_full (k : Str) (l : List Nat) (hr : Rise L) : syncsL k l L = fullS (l.map (nameL k)) L := by
 rw [<- fold_full _ hr, List.foldl_map]
 rfl
def freshN (k : Str) (S : List Sgf) : List Str := (S.filter (fun x => x.2.2)).map fun x => nameL k x.1
theorem psync_full (k : Str) : ∀ (S : List Sgf) {L : DiskL}, Rise L -> S.foldl (fun L x => if x.2.2 = true then (syncL (nameL k x.1) L).1 else L) L = fullS (freshN k S) L := by
 intro S
 induction S with
 | nil => intro L _; simp [fullS, freshN]
 | cons x S ih =>
  intro L hr;rw [List.foldl_cons];by_cases h : x.2.2 = true
  ·rw [if_pos h, sync_full hr, ih (full_rise hr), full_full];unfold freshN;rw [List.filter_cons, if_pos h]
   rfl
  ·rw [if_neg h, ih hr];unfold freshN;rw [List.filter_cons, if_neg h]
theorem getK_full (ns : List Str) (j : Str) (L : DiskL) : getK j (fullS ns L) = (getK j L).map fun a => if j ∈ ns then (a.1, a.1.length) else a := by
 unfold getK fullS;rw [List.find?_map];have e : ((fun p : Str × (List Nat × Nat) => p.1 == j) ∘ fun q : Str × (List Nat × Nat) => if q.1 ∈ ns then (q.1, (q.2.1, q.2.1.length)) else q) = fun p => p.1 == j := by
  funext q;simp only [Function.comp, full_first]
 rw [e];generalize h : L.find? (fun p : Str × (List Nat × Nat) => p.1 == j) = o;rcases o with _ | q
 ·rfl
 ·have hq : q.1 = j := by have := List.find?_some h; simpa using this
  simp only [Option.map_some];rw [hq];by_cases hj : j ∈ ns
  ·rw [if_pos hj, if_pos hj]
  ·rw [if_neg hj, if_neg hj]
theorem twin_sync {k : Str} (h : Twin k P M L) (hr : Rise L) :
  P.segs.foldl (fun L x => if x.2.2 = true then (syncL (nameL k x.1) L).1 else L) L = syncsL k M.dirty L /\ Twin k ⟨P.segs.map (fun x => (x.1, x.2.1, false)), P.next⟩ ⟨M.segs, M.next, []⟩ (syncsL k M.dirty L) := by
 have e1 := psync_full k P.segs hr;have e2 := syncs_full k M.dirty hr;have heq : fullS (freshN k P.segs) L = fullS (M.dirty.map (nameL k)) L := by
  unfold fullS;refine List.map_congr_left fun q hq => ?_
  by_cases h1 : q.1 ∈ freshN k P.segs
  ·rw [if_pos h1, if_pos];unfold freshN at h1;obtain ⟨x, hx, hn⟩ := List.mem_map.1 h1;obtain ⟨hx1, hx2⟩ := List.mem_filter.1 hx;exact List.mem_map.2 ⟨x.1, h.fresh x hx1 hx2, hn⟩
  ·rw [if_neg h1];by_cases h2 : q.1 ∈ M.dirty.map (nameL k)
   ·rw [if_pos h2];obtain ⟨n, hn, hnq⟩ := List.mem_map.1 h2;have hg : getK (nameL k n) L = some q.2 := mem_getK hr (by rw [hnq]; exact hq);obtain ⟨s, hs, hsn⟩ := h.stray n (h.dirt n hn) (by rw [hg]; rfl);rw [h.segs] at hs;obtain ⟨x, hx, rfl⟩ := List.mem_map.1 hs;have hsn : x.1 = n := hsn;have hf : x.2.2 = false := by
     rcases hb : x.2.2 with _ | _
     ·rfl
     ·refine absurd ?_ h1;unfold freshN;exact List.mem_map.2 ⟨x, List.mem_filter.2 ⟨hx, hb⟩, by rw [hsn]; exact hnq⟩
    have hl := h.last x hx hf q.2 (by rw [hsn]; exact hg);rw [<- hl]
   ·rw [if_neg h2]
 refine ⟨by rw [e1, e2, heq], ?_⟩;have hget : ∀ j, getK j (syncsL k M.dirty L) = (getK j L).map fun a => if j ∈ M.dirty.map (nameL k) then (a.1, a.1.length) else a := fun j => by rw [e2, getK_full]
 refine ⟨?_, h.next, h.chain, h.full, h.low, fun s hs => ?_, fun n h1 h2 => h.stray n h1 ?_, fun x hx hxt => ?_, fun x hx _ a ha => ?_, fun n hn => by cases hn⟩
 ·rw [h.segs, List.map_map]
  rfl
 ·obtain ⟨a, g1, g2⟩ := h.file s hs;refine ⟨_, by rw [hget, g1]; rfl, ?_⟩;dsimp only;split
  ·exact g2
  ·exact g2
 ·rw [hget] at h2;rcases e : getK (nameL k n) L with _ | a
  ·rw [e] at h2;exact h2
  ·rfl
 ·obtain ⟨y, hy, rfl⟩ := List.mem_map.1 hx;exact absurd hxt (by simp)
 ·obtain ⟨y, hy, rfl⟩ := List.mem_map.1 hx;have ha : getK (nameL k y.1) (syncsL k M.dirty L) = some a := ha;rw [hget] at ha;rcases e : getK (nameL k y.1) L with _ | b
  ·rw [e] at ha;cases ha
  ·rw [e] at ha;have ha := (Option.some.inj ha).symm;subst ha;dsimp only;by_cases hd : nameL k y.1 ∈ M.dirty.map (nameL k)
   ·rw [if_pos hd]
   ·rw [if_neg hd];refine h.last y hy ?_ b e;rcases hb : y.2.2 with _ | _
    ·rfl
    ·exact absurd (List.mem_map.2 ⟨y.1, h.fresh y hy hb, rfl⟩) hd
theorem rem_del (n : Str) (L : DiskL) : (remL n L).1 = delK n L := by
 unfold remL;rcases e : getK n L with _ | a
 ·exact (delK_of_none e).symm
 ·rfl
theorem cut_rise {n : Str} {z : Int} (h : Rise L) : Rise (cutL n z L).1 := by
 unfold cutL;rcases e : getK n L with _ | a
 ·exact h
 ·dsimp only;split
  ·exact h
  ·exact putK_rise h
theorem cut_get {n : Str} {z : Nat} {a : List Nat × Nat} (h : Rise L) (hg : getK n L = some a) (hz : z <= a.1.length) : (cutL n (z : Int) L).2 = 0 /\ getK n (cutL n (z : Int) L).1 = some (a.1.take z, min a.2 z) := by
 unfold cutL;rw [hg];dsimp only;rw [if_neg (by omega)];exact ⟨rfl, by rw [getK_put_same h]; simp⟩
theorem cut_other {n j : Str} {z : Int} (h : Rise L) (hne : j ≠ n) : getK j (cutL n z L).1 = getK j L := by
 unfold cutL;rcases e : getK n L with _ | a
 ·rfl
 ·dsimp only;split
  ·rfl
  ·exact getK_put_other h hne
theorem PRow.sub {M : Nat} {X Y : List Sgp} (h : PRow w G (.slice (some ⟨g, 0, none⟩) N c) X) (hr : w'.ownsRow 0 119 3 (.slice (some ⟨g, 0, none⟩) M c) Y.length (cellsP Y)) (hg : w.grownBy w' (some g)) (hs : Y.Sublist X) : PRow w' G (.slice (some ⟨g, 0, none⟩) M c) Y :=
 ⟨hr, fun x hx => (h.each x (hs.subset hx)).off (Turn.of_grown hg) (ownsRow_seg h.row), h.far.sublist hs, h.mine⟩
def firstsL (k : Str) (L : DiskL) : List Nat := (L.map (·.1)).filterMap (numL k)
def followsP (P : PLog) (n : Nat) : Bool := if P.segs = [] then decide (0 < n) else decide (n = P.next)
def readP (k : Str) (n : Nat) (P : PLog) (L : DiskL) : (PLog × DiskL) × Bool :=
 if followsP P n = false \/ ((recsL n (segL (readL (nameL k n) L).1 n).1).length = 0 /\ 0 < (readL (nameL k n) L).1.length) then ((P, (remL (nameL k n) L).1), false)
 else if (recsL n (segL (readL (nameL k n) L).1 n).1).length = (readL (nameL k n) L).1.length then ((⟨P.segs ++ [(n, (segL (readL (nameL k n) L).1 n).1, true)], n + (segL (readL (nameL k n) L).1 n).1.length⟩, L), true)
 else ((⟨P.segs ++ [(n, (segL (readL (nameL k n) L).1 n).1, true)], n + (segL (readL (nameL k n) L).1 n).1.length⟩, (cutL (nameL k n) ((recsL n (segL (readL (nameL k n) L).1 n).1).length : Int) L).1), false)
def openG (k : Str) : List Nat -> PLog -> DiskL -> PLog × DiskL
 | [], P, L => (P, L)
 | n :: r, P, L => if (readP k n P L).2 = true then openG k r (readP k n P L).1.1 (readP k n P L).1.2 else ((readP k n P L).1.1, removesL k r (readP k n P L).1.2)
theorem digs_frontT : ∀ (j n : Nat), digs (j + 1) n = UInt8.ofNat (48 + n / 10 ^ j % 10) :: digs j n := by
 intro j
 induction j with
 | zero => intro n; simp [digs]
 | succ j ih =>
  intro n;rw [show digs (j + 1 + 1) n = digs (j + 1) (n / 10) ++ [UInt8.ofNat (48 + n % 10)] from rfl, ih (n / 10)];rw [show digs (j + 1) n = digs j (n / 10) ++ [UInt8.ofNat (48 + n % 10)] from rfl, Nat.div_div_eq_div_mul, <- Nat.pow_succ']
  rfl
theorem valD_back : ∀ (cs : Str) (v n : Nat), valD v cs = some n -> n / 10 ^ cs.length = v /\ digs cs.length n = cs := by
 intro cs
 induction cs with
 | nil =>
  intro v n h;have h : some v = some n := h;cases h
  exact ⟨by simp, rfl⟩
 | cons c cs ih =>
  intro v n h;rw [valD_step] at h;by_cases hc : c < 48 \/ 57 < c
  ·rw [if_pos hc] at h;cases h
  ·rw [if_neg hc] at h;obtain ⟨h1, h2⟩ := ih _ _ h;have c1 : 48 <= c.toNat := by
    have : ¬ c < 48 := fun q => hc (.inl q)
    rw [UInt8.lt_iff_toNat_lt] at this;simpa using this
   have c2 : c.toNat <= 57 := by
    have : ¬ 57 < c := fun q => hc (.inr q)
    rw [UInt8.lt_iff_toNat_lt] at this;simpa using this
   rw [List.length_cons];refine ⟨?_, ?_⟩
   ·rw [Nat.pow_succ, <- Nat.div_div_eq_div_mul, h1];omega
   ·rw [digs_frontT, h2, h1];congr 1;rw [show 48 + (v * 10 + (c.toNat - 48)) % 10 = c.toNat by omega];exact UInt8.ofNat_toNat
theorem name_num {k s : Str} (h : numL k s = some n) : nameL k n = s /\ n < 100000000 := by
 unfold numL at h;by_cases hc : s.length ≠ k.length + 9 \/ s.take k.length ≠ k \/ s.getD k.length 0 ≠ 46
 ·rw [if_pos hc] at h;cases h
 ·rw [if_neg hc] at h;have e1 : s.length = k.length + 9 := Decidable.of_not_not fun q => hc (.inl q)
  have e2 : s.take k.length = k := Decidable.of_not_not fun q => hc (.inr (.inl q))
  have e3 : s.getD k.length 0 = 46 := Decidable.of_not_not fun q => hc (.inr (.inr q))
  obtain ⟨h1, h2⟩ := valD_back _ _ _ h;have hl : (s.drop (k.length + 1)).length = 8 := by rw [List.length_drop]; omega
  rw [hl] at h1 h2;refine ⟨?_, by omega⟩;unfold nameL;rw [h2];have hlt : k.length < s.length := by omega
  have e4 : s.drop k.length = 46 :: s.drop (k.length + 1) := by
   rw [List.drop_eq_getElem_cons hlt];congr 1;rw [<- e3, List.getD_eq_getElem?_getD, List.getElem?_eq_getElem hlt]
   rfl
  conv => rhs; rw [<- List.take_append_drop k.length s, e2, e4]
  simp
theorem seg_good : ∀ (f : Nat) (b : List Nat) (i : Nat), b.length <= f -> (∀ x ∈ b, x < 256) -> (readF f b i).2.1 = (recsL i (readF f b i).1).length /\ ((readF f b i).2.2 = true -> (readF f b i).2.1 = b.length) /\ ((readF f b i).2.2 = false -> (readF f b i).2.1 < b.length) := by
 intro f
 induction f with
 | zero =>
  intro b i hl _;exact ⟨rfl, fun _ => by show 0 = b.length; omega, fun q => by cases q⟩
 | succ f ih =>
  intro b i hl hb;rw [readF_step];split
  ·next h => exact ⟨rfl, fun _ => h.symm, fun q => by cases q⟩
  ·next h0 =>
   split
   ·exact ⟨rfl, fun q => (by cases q), fun _ => by show 0 < b.length; omega⟩
   ·next h1 =>
    split
    ·exact ⟨rfl, fun q => (by cases q), fun _ => by show 0 < b.length; omega⟩
    ·next h2 =>
     have h1 : (decL b).2.2 = 0 := by omega
     have hd : decL b = ((decL b).1, (decL b).2.1, 0) := by
      conv => lhs; rw [show decL b = ((decL b).1, (decL b).2.1, (decL b).2.2) from rfl, h1]
     have hr1 : (rvl 0 0 (decL b).1).2.2 = 0 := by omega
     have hr2 : (rvl 0 0 (decL b).1).1 = i := by omega
     have hr : rvl 0 0 (decL b).1 = (i, (rvl 0 0 (decL b).1).2.1, 0) := by
      conv => lhs; rw [show rvl 0 0 (decL b).1 = ((rvl 0 0 (decL b).1).1, (rvl 0 0 (decL b).1).2.1, (rvl 0 0 (decL b).1).2.2) from rfl, hr1, hr2]
     have hlen := rec_of_dec hb hd hr;have hpos := decL_pos h1;obtain ⟨_, _, _, hdl, _⟩ := dec_inv hb hd;obtain ⟨g1, g2, g3⟩ := ih (b.drop (decL b).2.1) (i + 1) (by rw [List.length_drop]; omega) (fun x hx => hb x (List.mem_of_mem_drop hx));rw [List.length_drop] at g2 g3;refine ⟨?_, fun q => ?_, fun q => ?_⟩
     ·show (decL b).2.1 + _ = (recL i _ ++ recsL (i + 1) _).length
      rw [List.length_append, <- hlen, g1]
     ·have := g2 q
      show (decL b).2.1 + _ = b.length
      omega
     ·have := g3 q
      show (decL b).2.1 + _ < b.length
      omega
theorem seg_sizes {b : List Nat} (i : Nat) (hb : ∀ x ∈ b, x < 256) : (segL b i).2.1 = (recsL i (segL b i).1).length /\ ((segL b i).2.2 = true ↔ (recsL i (segL b i).1).length = b.length) /\ (recsL i (segL b i).1).length <= b.length := by
 obtain ⟨h1, h2, h3⟩ := seg_good b.length b i (Nat.le_refl _) hb;have h1 : (segL b i).2.1 = (recsL i (segL b i).1).length := h1;refine ⟨h1, ⟨fun q => by rw [<- h1]; exact h2 q, fun q => ?_⟩, ?_⟩
 ·rcases e : (segL b i).2.2 with _ | _
  ·have : (segL b i).2.1 < b.length := h3 e;omega
  ·rfl
 ·rcases e : (segL b i).2.2 with _ | _
  ·have : (segL b i).2.1 < b.length := h3 e;omega
  ·have : (segL b i).2.1 = b.length := h2 e;omega
theorem open_bad {k : Str} : ∀ (N : List Str) (M : LogL) (L : DiskL), N.foldl (openStep k) ⟨true, M, L⟩ = ⟨true, M, removesL k (N.filterMap (numL k)) L⟩ := by
 intro N
 induction N with
 | nil => intro M L; rfl
 | cons s N ih =>
  intro M L;rw [List.foldl_cons, List.filterMap_cons];rcases e : numL k s with _ | n
  ·have : openStep k ⟨true, M, L⟩ s = ⟨true, M, L⟩ := by unfold openStep; rw [e]
   rw [this];exact ih M L
  ·have : openStep k ⟨true, M, L⟩ s = ⟨true, M, (remL (nameL k n) L).1⟩ := by
    unfold openStep;rw [e];dsimp only;rw [if_pos (.inl rfl), (name_num e).1]
   rw [this];exact ih M _
structure Half (k : Str) (ns : List Nat) (P : PLog) (M : LogL) (L : DiskL) : Prop where
 segs : M.segs = P.segs.map bareP
 next : M.next = P.next
 pos : 1 <= M.next
 chain : ∃ i, Chain i M.segs M.next
 full : ∀ s ∈ M.segs.dropLast, s.2 ≠ []
 low : ∀ s ∈ M.segs, s.1 < 100000000
 file : ∀ s ∈ M.segs, ∃ a, getK (nameL k s.1) L = some a /\ a.1.length = (recsL s.1 s.2).length
 stray : ∀ n, n < 100000000 -> (getK (nameL k n) L).isSome = true -> (∃ s ∈ M.segs, s.1 = n) \/ n ∈ ns
 dirt : M.dirty = M.segs.map (·.1)
 fresh : ∀ x ∈ P.segs, x.2.2 = true
 rise : ns.Pairwise (· < ·)
 above : ∀ n ∈ ns, ∀ s ∈ M.segs, s.1 < n
 few : ∀ n ∈ ns, n < 100000000
theorem Half.whole {k : Str} (h : Half k [] P M L) : Twin k P M L := by
 refine ⟨h.segs, h.next, h.chain, h.full, h.low, h.file, fun n h1 h2 => (h.stray n h1 h2).elim id (fun q => by cases q), fun x hx _ => ?_, fun x hx hxf => ?_, fun n hn => ?_⟩
 ·rw [h.dirt, h.segs, List.map_map];exact List.mem_map.2 ⟨x, hx, rfl⟩
 ·rw [h.fresh x hx] at hxf;cases hxf
 ·rw [h.dirt] at hn;obtain ⟨s, hs, rfl⟩ := List.mem_map.1 hn;exact h.low s hs
theorem Half.rem {k : Str} {ns : List Nat} (h : Half k (n :: ns) P M L) (hr : Rise L) : Half k ns P M (remL (nameL k n) L).1 := by
 have hn := h.few n List.mem_cons_self;refine ⟨h.segs, h.next, h.pos, h.chain, h.full, h.low, fun s hs => ?_, fun m h1 h2 => ?_, h.dirt, h.fresh, (List.pairwise_cons.1 h.rise).2, fun m hm => h.above m (List.mem_cons_of_mem _ hm), fun m hm => h.few m (List.mem_cons_of_mem _ hm)⟩
 ·obtain ⟨a, g1, g2⟩ := h.file s hs;have := h.above n List.mem_cons_self s hs;exact ⟨a, by rw [rem_del, getK_del_other hr (fun q => by have := name_inj k (h.low s hs) hn q; omega)]; exact g1, g2⟩
 ·rw [rem_del] at h2;by_cases e : m = n
  ·subst e;rw [getK_del_same] at h2;cases h2
  ·rw [getK_del_other hr (fun q => e (name_inj k h1 hn q))] at h2;rcases h.stray m h1 h2 with q | q
   ·exact .inl q
   ·rcases List.mem_cons.1 q with q | q
    ·exact absurd q e
    ·exact .inr q
theorem Half.removes {k : Str} : ∀ {ns : List Nat} {P : PLog} {M : LogL} {L : DiskL}, Half k ns P M L -> Rise L -> Half k [] P M (removesL k ns L) := by
 intro ns
 induction ns with
 | nil => intro P M L h _; exact h
 | cons n ns ih =>
  intro P M L h hr
  show Half k [] P M (removesL k ns (remL (nameL k n) L).1)
  exact ih (h.rem hr) (by rw [rem_del]; exact delK_rise hr)
theorem Half.take {k : Str} {ns : List Nat} {es : List (List Nat)} (h : Half k (n :: ns) P M L) (hf : followsP P n = true) (hL : ∀ m, m < 100000000 -> m ≠ n -> getK (nameL k m) L' = getK (nameL k m) L)
  (hn : ∃ a, getK (nameL k n) L' = some a /\ a.1.length = (recsL n es).length) : Half k ns ⟨P.segs ++ [(n, es, true)], n + es.length⟩ ⟨M.segs ++ [(n, es)], n + es.length, M.dirty ++ [n]⟩ L' := by
 have hn8 := h.few n List.mem_cons_self;have hab := h.above n List.mem_cons_self;have hP := h.pos;have hq : M.segs = [] /\ 0 < n \/ M.segs ≠ [] /\ n = M.next := by
  unfold followsP at hf;by_cases e : P.segs = []
  ·rw [if_pos e] at hf;exact .inl ⟨by rw [h.segs, e]; rfl, by simpa using hf⟩
  ·rw [if_neg e] at hf;refine .inr ⟨by rw [h.segs]; intro q; exact e (List.map_eq_nil_iff.1 q), ?_⟩;rw [h.next];simpa using hf
 obtain ⟨i, hc⟩ := h.chain;refine ⟨by rw [List.map_append, h.segs]; rfl, rfl, ?_, ?_, ?_, fun s hs => ?_, fun s hs => ?_, fun m h1 h2 => ?_, ?_, fun x hx => ?_, (List.pairwise_cons.1 h.rise).2, fun m hm s hs => ?_, fun m hm => h.few m (List.mem_cons_of_mem _ hm)⟩
 ·show 1 <= n + es.length
  rcases hq with ⟨_, q⟩ | ⟨_, q⟩ <;> omega
 ·rcases hq with ⟨q1, q2⟩ | ⟨q1, q2⟩
  ·exact ⟨n, by rw [q1]; exact ⟨rfl, rfl⟩⟩
  ·exact ⟨i, chain_app hc ⟨q2, by show M.next + es.length = n + es.length; rw [q2]⟩⟩
 ·show ∀ s ∈ (M.segs ++ [(n, es)]).dropLast, s.2 ≠ []
  rw [List.dropLast_concat];intro s hs;rcases hq with ⟨q1, q2⟩ | ⟨q1, q2⟩
  ·rw [q1] at hs;cases hs
  ·rcases List.eq_nil_or_concat M.segs with e | ⟨S0, t, e⟩
   ·exact absurd e q1
   ·rw [List.concat_eq_append] at e;have hso := h.full;rw [e, List.dropLast_concat] at hso;have ht := hab t (by rw [e]; simp);rw [e] at hs hc;rcases List.mem_append.1 hs with hs | hs
    ·exact hso s hs
    ·have hst : s = t := by simpa using hs
     subst hst;have := (chain_last hc).2;intro h0;rw [h0] at this;simp at this;omega
 ·rcases List.mem_append.1 hs with hs | hs
  ·exact h.low s hs
  ·have e : s = (n, es) := by simpa using hs
   subst e;exact hn8
 ·rcases List.mem_append.1 hs with hs | hs
  ·obtain ⟨a, g1, g2⟩ := h.file s hs;exact ⟨a, by rw [hL s.1 (h.low s hs) (by have := hab s hs; omega)]; exact g1, g2⟩
  ·have e : s = (n, es) := by simpa using hs
   subst e;exact hn
 ·by_cases e : m = n
  ·exact .inl ⟨(n, es), by simp, e.symm⟩
  ·rw [hL m h1 e] at h2;rcases h.stray m h1 h2 with ⟨s, hs, q⟩ | q
   ·exact .inl ⟨s, List.mem_append.2 (.inl hs), q⟩
   ·rcases List.mem_cons.1 q with q | q
    ·exact absurd q e
    ·exact .inr q
 ·show M.dirty ++ [n] = (M.segs ++ [(n, es)]).map (·.1)
  rw [List.map_append, h.dirt]
  rfl
 ·rcases List.mem_append.1 hx with hx | hx
  ·exact h.fresh x hx
  ·have e : x = (n, es, true) := by simpa using hx
   rw [e]
 ·rcases List.mem_append.1 hs with hs | hs
  ·exact h.above m (List.mem_cons_of_mem _ hm) s hs
  ·have e : s = (n, es) := by simpa using hs
   rw [e];exact (List.pairwise_cons.1 h.rise).1 m hm
theorem half_open {k : Str} : ∀ (N : List Str) (P : PLog) (M : LogL) (L : DiskL), Half k (N.filterMap (numL k)) P M L -> Rise L -> (∀ q ∈ L, ∀ x ∈ q.2.1, x < 256) -> (∀ n ∈ N.filterMap (numL k), (getK (nameL k n) L).isSome = true) ->
  (N.foldl (openStep k) ⟨false, M, L⟩).disk = (openG k (N.filterMap (numL k)) P L).2 /\ Twin k (openG k (N.filterMap (numL k)) P L).1 (N.foldl (openStep k) ⟨false, M, L⟩).log (openG k (N.filterMap (numL k)) P L).2 := by
 intro N
 induction N with
 | nil => intro P M L h hr _ _; exact ⟨rfl, h.whole⟩
 | cons s N ih =>
  intro P M L h hr hb hex;rw [List.foldl_cons];rw [List.filterMap_cons] at h hex ⊢;rcases e : numL k s with _ | n
  ·rw [e] at h hex;have e2 : openStep k ⟨false, M, L⟩ s = ⟨false, M, L⟩ := by unfold openStep; rw [e]
   rw [e2];exact ih P M L h hr hb hex
  ·rw [e] at h hex;dsimp only at h hex ⊢;obtain ⟨hs, hn8⟩ := name_num e;obtain ⟨a, ha⟩ := Option.isSome_iff_exists.1 (hex n List.mem_cons_self);obtain ⟨b, hbe⟩ : ∃ b, b = (readL (nameL k n) L).1 := ⟨_, rfl⟩;have hba : b = a.1 := by rw [hbe]; unfold readL; rw [ha]
   have hbb : ∀ x ∈ b, x < 256 := by rw [hba]; exact hb _ (getK_mem ha)
   obtain ⟨g1, g2, g3⟩ := seg_sizes n hbb;have hdoc : openStep k ⟨false, M, L⟩ s = if n < 1 \/ (M.segs ≠ [] /\ n ≠ M.next) then ⟨true, M, (remL (nameL k n) L).1⟩
     else if (segL b n).2.2 = true then ⟨false, ⟨M.segs ++ [(n, (segL b n).1)], n + (segL b n).1.length, M.dirty ++ [n]⟩, L⟩
     else if (segL b n).2.1 = 0 then ⟨true, M, (remL (nameL k n) L).1⟩
     else ⟨true, ⟨M.segs ++ [(n, (segL b n).1)], n + (segL b n).1.length, M.dirty ++ [n]⟩, (cutL (nameL k n) ((segL b n).2.1 : Int) L).1⟩ := by
    unfold openStep;rw [e];dsimp only;rw [<- hs, <- hbe];simp
   have hfol : followsP P n = false ↔ (n < 1 \/ (M.segs ≠ [] /\ n ≠ M.next)) := by
    have hpos := h.pos;unfold followsP;by_cases he : P.segs = []
    ·have : M.segs = [] := by rw [h.segs, he]; rfl
     rw [if_pos he, this];simp
    ·have hne : M.segs ≠ [] := by rw [h.segs]; intro q; exact he (List.map_eq_nil_iff.1 q)
     rw [if_neg he, h.next];simp only [decide_eq_false_iff_not, ne_eq, hne, not_false_eq_true, true_and];constructor
     ·exact .inr
     ·rintro (q | q)
      ·rw [h.next] at hpos;omega
      ·exact q
   have hrem := h.rem hr;have hrr : Rise (remL (nameL k n) L).1 := by rw [rem_del]; exact delK_rise hr
   have hG : openG k (n :: N.filterMap (numL k)) P L = if (readP k n P L).2 = true then openG k (N.filterMap (numL k)) (readP k n P L).1.1 (readP k n P L).1.2 else ((readP k n P L).1.1, removesL k (N.filterMap (numL k)) (readP k n P L).1.2) := rfl
   by_cases hF : followsP P n = false
   ·have e2 : readP k n P L = ((P, (remL (nameL k n) L).1), false) := by unfold readP; rw [if_pos (.inl hF)]
    rw [hdoc, if_pos (hfol.1 hF), hG, e2, if_neg (by simp), open_bad];exact ⟨rfl, (hrem.removes hrr).whole⟩
   ·have hF1 : followsP P n = true := by simpa using hF
    rw [hdoc, if_neg (fun q => hF (hfol.2 q))];by_cases hw : (segL b n).2.2 = true
    ·have hsz := g2.1 hw;have e2 : readP k n P L = ((⟨P.segs ++ [(n, (segL b n).1, true)], n + (segL b n).1.length⟩, L), true) := by
      unfold readP;rw [<- hbe, if_neg, if_pos hsz];rintro (q | ⟨q1, q2⟩)
      ·exact hF q
      ·omega
     rw [if_pos hw, hG, e2, if_pos rfl];refine ih _ _ L (h.take hF1 (fun _ _ _ => rfl) ⟨a, ha, by rw [<- hba]; exact hsz.symm⟩) hr hb (fun m hm => hex m (List.mem_cons_of_mem _ hm))
    ·rw [if_neg hw];have hlt : (recsL n (segL b n).1).length ≠ b.length := fun q => hw (g2.2 q)
     by_cases h0 : (segL b n).2.1 = 0
     ·have e2 : readP k n P L = ((P, (remL (nameL k n) L).1), false) := by
       unfold readP;rw [<- hbe, if_pos (.inr ⟨by omega, by omega⟩)]
      rw [if_pos h0, hG, e2, if_neg (by simp), open_bad];exact ⟨rfl, (hrem.removes hrr).whole⟩
     ·have e2 : readP k n P L = ((⟨P.segs ++ [(n, (segL b n).1, true)], n + (segL b n).1.length⟩, (cutL (nameL k n) ((recsL n (segL b n).1).length : Int) L).1), false) := by
       unfold readP;rw [<- hbe, if_neg, if_neg hlt];rintro (q | ⟨q1, q2⟩)
       ·exact hF q
       ·omega
      have hcg := cut_get hr ha (show (recsL n (segL b n).1).length <= a.1.length by rw [<- hba]; exact g3);rw [if_neg h0, hG, e2, if_neg (by simp), open_bad, g1];have hT := h.take (es := (segL b n).1) (L' := (cutL (nameL k n) ((recsL n (segL b n).1).length : Int) L).1) hF1 (fun m h1 h2 => cut_other hr (fun q => h2 (name_inj k h1 hn8 q))) ⟨_, hcg.2, by
       dsimp only;rw [List.length_take, <- hba];omega⟩
      exact ⟨rfl, (hT.removes (cut_rise hr)).whole⟩
theorem before_asymT {a b : Str} (h1 : bytesBefore a b = true) (h2 : bytesBefore b a = true) : False := by
 have := le_of_before h1;have := le_of_before h2;exact before_ne h1 (by exact List.le_antisymm ‹_› ‹_›)
theorem nums_rise {k : Str} : ∀ {N : List Str}, N.Pairwise (fun a b => bytesBefore a b = true) -> (N.filterMap (numL k)).Pairwise (· < ·) := by
 intro N
 induction N with
 | nil => intro _; exact List.Pairwise.nil
 | cons s N ih =>
  intro h;obtain ⟨h1, h2⟩ := List.pairwise_cons.1 h;rw [List.filterMap_cons];rcases e : numL k s with _ | n
  ·exact ih h2
  ·dsimp only;refine List.pairwise_cons.2 ⟨fun m hm => ?_, ih h2⟩;obtain ⟨t, ht, et⟩ := List.mem_filterMap.1 hm;obtain ⟨e1, l1⟩ := name_num e;obtain ⟨e2, l2⟩ := name_num et;have hb := h1 t ht;rw [<- e1, <- e2] at hb;rcases Nat.lt_trichotomy n m with q | q | q
   ·exact q
   ·subst q;exact absurd rfl (before_ne hb)
   ·exact (before_asymT hb (name_before k q l1)).elim
theorem twin_open {k : Str} (hr : Rise L) (hb : ∀ q ∈ L, ∀ x ∈ q.2.1, x < 256) :
  (openR k L).disk = (openG k (firstsL k L) ⟨[], 1⟩ L).2 /\ Twin k (openG k (firstsL k L) ⟨[], 1⟩ L).1 (openR k L).log (openG k (firstsL k L) ⟨[], 1⟩ L).2 := by
 have hN : (L.map (·.1)).Pairwise (fun a b => bytesBefore a b = true) := by
  rw [List.pairwise_map];exact hr
 refine half_open (L.map (·.1)) ⟨[], 1⟩ ⟨[], 1, []⟩ L ⟨rfl, rfl, Nat.le_refl _, ⟨1, rfl⟩, fun s hs => (by cases hs), fun s hs => (by cases hs), fun s hs => (by cases hs), fun n h1 h2 => .inr ?_, rfl, fun x hx => (by cases hx), nums_rise hN, fun n _ s hs => (by cases hs), fun n hn => ?_⟩ hr hb (fun n hn => ?_)
 ·obtain ⟨a, ha⟩ := Option.isSome_iff_exists.1 h2;exact List.mem_filterMap.2 ⟨nameL k n, List.mem_map.2 ⟨_, getK_mem ha, rfl⟩, num_name k h1⟩
 ·obtain ⟨t, _, et⟩ := List.mem_filterMap.1 hn;exact (name_num et).2
 ·obtain ⟨t, ht, et⟩ := List.mem_filterMap.1 hn;obtain ⟨q, hq, rfl⟩ := List.mem_map.1 ht;rw [(name_num et).1, mem_getK hr (show (q.1, q.2) ∈ L from hq)]
  rfl
set_option maxRecDepth 100000 in
theorem pfollows_any (w : World) (l N c nx n : Nat) (A : Option Addr) (P : PLog) (hN : N = P.segs.length) (hn : nx = P.next) (c2 : w.cell? ⟨l, 2, none⟩ = some (.slice A N c)) (c3 : w.cell? ⟨l, 3, none⟩ = some (.int .i64 (nx : Int))) :
  Calls Tryz.prog 89 #[.pointer (some ⟨l, 0, none⟩), .int .i64 (n : Int)] w fun e w' => e = .returned (.bool (followsP P n)) /\ Below w.heap.size w w' := by
 by_cases h : P.segs = []
 ·have hN0 : ((N : Int) == 0) = true := by rw [hN, h]; rfl
  obtain ⟨b, hb⟩ : ∃ b, b = followsP P n := ⟨_, rfl⟩;have hb2 : b = decide (0 < n) := by rw [hb]; unfold followsP; rw [if_pos h]
  rw [<- hb];have HB := hide hb2;clear hb hb2 h hN hn;go_enter Tryz.func89, Tryz.ntmps89;go_wp2_with fail
  go_ret;rw [HB.out];exact ⟨rfl, Below.refl _ _⟩
 ·have hN0 : ((N : Int) == 0) = false := by simp; rw [hN]; intro e; exact h (List.length_eq_zero_iff.1 (by omega))
  obtain ⟨b, hb⟩ : ∃ b, b = followsP P n := ⟨_, rfl⟩;have hb2 : ((n : Int) == (nx : Int)) = b := by rw [hb]; unfold followsP; rw [if_neg h, hn]; by_cases e : n = P.next <;> simp [e]; omega
  rw [<- hb];clear hb h hN hn;go_enter Tryz.func89, Tryz.ntmps89;go_wp2_with fail
  go_ret;exact ⟨rfl, Below.refl _ _⟩
set_option maxRecDepth 100000 in
set_option maxHeartbeats 3200000 in
theorem pfirsts_disk (w : World) (F : Nat -> Prop) (dp l room : Nat) (s : ByteArray) (L : DiskL) (hD : DiskAt w F dp room L) (c0 : w.cell? ⟨l, 0, none⟩ = some (.pointer (some ⟨dp, 0, none⟩))) (c1 : w.cell? ⟨l, 1, none⟩ = some (.string s)) (hs : s.size <= 64) :
  Calls Tryz.prog 65 #[.pointer (some ⟨l, 0, none⟩)] w fun e w' => ∃ u, e = .returned u /\ OwnN w' w.heap.size u ((firstsL s.data.toList L).map fun n : Nat => (n : Int)) /\ Below w.heap.size w w' := by
 have hll := cell_lt c0;have hfew : L.length <= 256 := hD.facts.2.1;have HD := hide hD;clear hD;go_enter Tryz.func65, Tryz.ntmps65;go_wp2_with fail
 refine (list_any F dp room L _ HD.out).mono ?_;rintro e w1 ⟨v1, rfl, o1, k1⟩;obtain ⟨N, hN⟩ : ∃ N, N = (L.map (·.1)).length := ⟨_, rfl⟩;have hN256 : N <= 256 := by rw [hN, List.length_map]; exact hfew
 obtain ⟨A, c, rfl, hc1, hc2, hcell⟩ := o1.rows hN.symm;have q1 := (k1.cell (p := ⟨l, 1, none⟩) hll).trans c1;have HC := hide hcell;have K1 := hide k1;have HN := hide hN;have hl1 := cell_lt q1;clear o1 k1 hcell hN hfew c0 c1;go_wp2_with fail
 go_loopw [3, 14] (fun u ix wr => ∃ j : Nat, j <= N /\ ix = .int .i64 (j : Int) /\ Hid (OwnN wr w1.heap.size u ((((L.map (·.1)).take j).filterMap (numL s.data.toList)).map fun n : Nat => (n : Int))) /\ Hid (Below w1.heap.size w1 wr)) (fun _ ix _ => N - (intOf ix).toNat)
 case atStart => exact ⟨0, Nat.zero_le _, rfl, hide (World.ownsRow_nil _ _ _ _), Below.refl _ _⟩
 case round =>
  obtain ⟨j, hj, rfl, hO, hB1⟩ := hrel;by_cases hlt : j < N
  ·obtain ⟨g, rfl, q⟩ := HC.out j hlt;obtain ⟨t, ht, htl⟩ := str_at ((L.map (·.1)).getD j []);rw [ht] at q;have q' := (hB1.out.cell (p := ⟨g, j, none⟩) (cell_lt q)).trans q;have q1' := (hB1.out.cell (p := ⟨l, 1, none⟩) hl1).trans q1;have hjL : j < (L.map (·.1)).length := by have := HN.out; omega
   have htk : ((L.map (·.1)).take (j + 1)).filterMap (numL s.data.toList) = ((L.map (·.1)).take j).filterMap (numL s.data.toList) ++ [t.data.toList].filterMap (numL s.data.toList) := by
    rw [List.take_succ_eq_append_getElem hjL, List.filterMap_append, htl, List.getD_eq_getElem?_getD, List.getElem?_eq_getElem hjL]
    rfl
   have HTK := hide htk;clear htk htl ht q;go_wp2_with fail
   refine (pnumber_any l s t _ q1' hs).mono ?_;rintro e w2 ⟨rfl, k2⟩;have hO2 : Hid (OwnN w2 w1.heap.size _ _) := hide (ownsRow_turn hO.out (Turn.of_below (fun _ => False) k2) (fun _ _ => id));have KB1 := hide (hB1.out.trans (k2.mono hB1.out.size));unfold numR;rcases hnum : numL s.data.toList t.data.toList with _ | n
   ·have HT2 : Hid (((L.map (·.1)).take (j + 1)).filterMap (numL s.data.toList) = ((L.map (·.1)).take j).filterMap (numL s.data.toList)) := hide (by rw [HTK.out, List.filterMap_cons, hnum]; simp);clear hnum k2;simp only [Option.getD_none, Option.isSome_none];go_wp2_with fail
    go_roundw
    case rel => exact ⟨j + 1, by omega, by go_num, by unfold Hid; rw [HT2.out]; exact hO2.out, KB1.out⟩
    case measure => simp [intOf]; omega
   ·have HT2 : Hid (((L.map (·.1)).take (j + 1)).filterMap (numL s.data.toList) = ((L.map (·.1)).take j).filterMap (numL s.data.toList) ++ [n]) := hide (by rw [HTK.out, List.filterMap_cons, hnum]; rfl);clear hnum k2;simp only [Option.getD_some, Option.isSome_some];go_wp2_with (at_builtin; refine halt ?_)
    refine ⟨wpList_of_step (fun K hK => ?_)⟩;have nb := below_alloc w2 (.cells #[.int .i64 (n : Int)] 3);have m5 := cell_new w2 (.int .i64 (n : Int)) 3;have K2 := hide (below_step KB1.out nb);have hO3 := ownsRow_turn hO2.out (Turn.of_below (fun _ => False) nb) (fun _ _ => id);have hle : (((L.map (·.1)).take j).filterMap (numL s.data.toList)).length <= 256 := by
     refine Nat.le_trans (List.length_filterMap_le _ _) ?_;rw [List.length_take];omega
    refine step_append_num rfl (.tmp 25) (.tmp 27) rfl w1.heap.size _ _ (by rfl) hO3 w2.heap.size (n : Int) (by rfl) m5 (by rw [List.length_map]; omega) K2.out.size ?_;rintro v9 w9 o9 g9 -;have O9 : Hid (OwnN w9 w1.heap.size v9 ((((L.map (·.1)).take (j + 1)).filterMap (numL s.data.toList)).map fun n : Nat => (n : Int))) := hide (by rw [HT2.out, List.map_append]; exact o9);have K9 := hide (K2.out.grown g9 K2.out.size (fun k hk => (World.ownsRow.lt hO3 k hk).1));refine hK.out _ _ ?_;clear hK o9 g9 hO3 m5 nb;simp only [Act.put, List.setIfInBounds_toArray, List.set_cons_zero, List.set_cons_succ];go_wp2_with fail
    go_roundw
    case rel => exact ⟨j + 1, by omega, by go_num, O9.out, K9.out⟩
    case measure => simp [intOf]; omega
  ·obtain rfl : j = N := by omega
   have hO2 := hO.out;rw [List.take_of_length_le (by have := HN.out; omega)] at hO2;have O2 := hide hO2;clear hO2;go_wp2_with fail
   go_ret;exact ⟨_, rfl, O2.out.more K1.out.size, K1.out.trans (hB1.out.mono K1.out.size)⟩
end Go.Proofs.YtedlibkkeegnaaaGreat
