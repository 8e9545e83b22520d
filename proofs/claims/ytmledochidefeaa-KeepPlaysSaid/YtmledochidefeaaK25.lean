/- Steps that came in, the law's own 'heavy' over them, any step in both disks, and the walk of the law KeepPlays. Condition: no text and no row of bytes is longer than the form's reach. -/
import Derived.Test.YtmledochidefeaaK24
import Derived.Test.YtmledochidefeaaK23
import Derived.Deep.Matrix
import Derived.Deep.Slices
import Derived.ProofKit
import Derived.OpenShut
import Derived.SizedLaws
import Derived.Lib.SmallJoins
namespace Go.Proofs.Ytmledochidefeaa
open Go.RowKit Go.Maps
structure St9 where
  kind : Int
  n : Int
  s : ByteArray
  a : Option Addr
  c : Nat
  d : List Nat
  y : Nat
def St9.val (q : St9) : Value := .agg #[.int .i64 q.kind, .int .i64 q.n, .string q.s, .slice q.a q.d.length q.c, .int .u8 (q.y : Int)]
structure St9.Fine (w : World) (q : St9) : Prop where
  row : IsB w (.slice q.a q.d.length q.c) q.d
  byte : ∀ x ∈ q.d, x < 256
  by_ : q.y < 256
  ls : q.s.size ≤ 140737488351232
  ld : q.d.length ≤ 140737488351232
def IsSt (w : World) (a : Option Addr) (X : List St9) : Prop :=
  ∀ j (h : j < X.length), ∃ b off, a = some ⟨b, off, none⟩ ∧ w.cell? ⟨b, off + j * 5, none⟩ = some (.int .i64 X[j].kind) ∧ w.cell? ⟨b, off + j * 5 + 1, none⟩ = some (.int .i64 X[j].n) ∧ w.cell? ⟨b, off + j * 5 + 2, none⟩ = some (.string X[j].s) ∧
    w.cell? ⟨b, off + j * 5 + 3, none⟩ = some (.slice X[j].a X[j].d.length X[j].c) ∧ w.cell? ⟨b, off + j * 5 + 4, none⟩ = some (.int .u8 (X[j].y : Int)) ∧ X[j].Fine w
def light (q : St9) : Prop := q.s.size ≤ 8000 ∧ q.d.length ≤ 8000
def Told (X : List St9) (e : Ending) : Prop := e = .returned (.bool true) ∨ (e = .returned (.bool false) ∧ ∀ j (hj : j < X.length), j < 100 → light X[j])
set_option maxRecDepth 100000 in
set_option maxHeartbeats 1600000 in
theorem heavy_any (T c : Nat) (a : Option Addr) (X : List St9) (w : World) (hX : X.length = T) (hI : IsSt w a X) :
    Calls Try.prog 7 #[.slice a T c] w fun e w' => Told X e ∧ ∃ d, w' = w.drewN d := by
  have HX := hide hX
  have HI := hide hI
  clear hX hI
  go_enter Try.func7, Try.ntmps7
  go_wp2_with fail
  go_loopw [3, 4] (fun k i wr => ∃ j s e : Nat, j ≤ T ∧ j ≤ 100 ∧ s ≤ 8000 ∧ k = .int .i64 (s : Int) ∧ i = .int .i64 (j : Int) ∧ wr = w.drewN e ∧ Hid (∀ i (hi : i < X.length), i < j → light X[i])) (fun _ i _ => 100 - (intOf i).toNat)
  case atStart => exact ⟨0, 0, 0, Nat.zero_le _, Nat.zero_le _, Nat.zero_le _, rfl, rfl, rfl, fun i hi h => by omega⟩
  case round =>
    obtain ⟨j, s, e, hj, hj2, hs, rfl, rfl, rfl, hl⟩ := hrel
    by_cases hlt : j < T
    · have hltz : (j : Int) < (T : Int) := by omega
      by_cases h120 : j < 100
      · have h2z : (j : Int) < 100 := by omega
        have hjX : j < X.length := by rw [HX.out]; exact hlt
        obtain ⟨b, off, rfl, y0, y1, y2, y3, y4, fine⟩ := HI.out j hjX
        have l1 := fine.ls
        have l3 := fine.ld
        obtain ⟨s1, e1⟩ : ∃ s1, s1 = X[j].s := ⟨_, rfl⟩
        obtain ⟨n3, e3⟩ : ∃ n3, n3 = X[j].d.length := ⟨_, rfl⟩
        rw [← e1] at y2 l1
        rw [← e3] at y3 l3
        obtain ⟨n1, f1⟩ : ∃ n1, n1 = s1.size := ⟨_, rfl⟩
        have g1 := f1.symm
        rw [g1] at l1
        have hj0 : 0 ≤ (j : Int) := by omega
        have E := hide (And.intro e1 (And.intro e3 f1))
        obtain ⟨W, hW⟩ : ∃ W, W = w.drewN e := ⟨_, rfl⟩
        have y2 : W.cell? ⟨b, off + j * 5 + 2, none⟩ = some (.string s1) := by rw [hW]; exact y2
        have y3 : W.cell? ⟨b, off + j * 5 + 3, none⟩ = some (.slice X[j].a n3 X[j].c) := by rw [hW]; exact y3
        rw [← hW]
        have HW := hide hW
        clear e1 e3 f1 y0 y1 y4 fine hW
        by_cases h8 : s + n1 + n3 ≤ 8000
        · go_wp2_with fail
          go_quiet (fail)
          go_wp2_with fail
          go_roundw
          case rel => exact ⟨j + 1, s + n1 + n3, e + nq, by omega, by omega, by omega, by go_num, by go_num, by rw [HW.out, World.drewN_drewN], hide (fun i hi h => by
            by_cases hh : i < j
            · exact hl.out i hi hh
            · obtain rfl : i = j := by omega
              obtain ⟨e1, e3, f1⟩ := E.out
              refine ⟨?_, ?_⟩
              · rw [← e1]; omega
              · rw [← e3]; omega)⟩
          case measure => simp [intOf]; omega
        · go_wp2_with fail
          go_quiet (fail)
          go_wp2_with fail
          go_ret
          exact ⟨.inl rfl, _, by rw [HW.out, World.drewN_drewN]⟩
      · have h2z : ¬ ((j : Int) < 100) := by omega
        go_wp2_with fail
        go_ret
        exact ⟨.inr ⟨rfl, fun i hi h => hl.out i hi (by omega)⟩, e, rfl⟩
    · have hltz : ¬ ((j : Int) < (T : Int)) := by omega
      go_wp2_with fail
      go_ret
      exact ⟨.inr ⟨rfl, fun i hi h => hl.out i hi (by rw [HX.out] at hi; omega)⟩, e, rfl⟩
theorem does_any (B : Nat) (w : World) (F G : Nat → Prop) (d p room : Nat) (L : DiskL) (q : St9) (hB : Both B w F G d p room L) (hq : q.Fine w) (hl : light q) (hPo : q.d ≠ [] → ∀ g, (Value.slice q.a q.d.length q.c).ownBlock = some g → g < B) :
    Calls Try.prog 11 #[.pointer (some ⟨d, 0, none⟩), .pointer (some ⟨p, 0, none⟩), q.val] w fun e w' => e = .returned (.bool true) ∧ ∃ F' G' L', Both B w' F' G' d p room L' ∧ Below B w w' := by
  obtain ⟨K, n, s, a, c, dd, y⟩ := q
  obtain ⟨l1, l3⟩ := hl
  obtain ⟨hrow, hbyte, hby, _, _⟩ := hq
  unfold St9.val
  dsimp only at *
  by_cases k1 : K = 1
  · subst k1; exact does_save B w F G d p room L n y s a dd.length c hB (by omega) dd hrow rfl hbyte (by omega) hPo
  by_cases k2 : K = 2
  · subst k2; exact does_load B w F G d p room L n y s a dd.length c hB (by omega)
  by_cases k3 : K = 3
  · subst k3; exact does_crash B w F G d p room L n y s a dd.length c hB
  by_cases k4 : K = 4
  · subst k4; exact does_rot B w F G d p room L n s a dd.length c hB (by omega) y hby
  by_cases k5 : K = 5
  · subst k5; exact does_cut B w F G d p room L n y s a dd.length c hB (by omega)
  exact does_append B w F G d p room L n y s a dd.length c hB K (by simp [k1, k2, k3, k4, k5]) (by omega) dd hrow rfl hbyte (by omega) hPo
end Go.Proofs.Ytmledochidefeaa
namespace Go.Proofs.Ytmledochidefeaa
open Go.RowKit Go.Deep Go.ChangeShapes Go.WideShapes Go.ChangeAt Go.Joins
theorem mem_weightsAll {H : Type} {P : Program} {e : TypeId} : ∀ (l : List (DataW H)) (d : DataW H), d ∈ l → ∀ n ∈ d.weights P e, n ∈ DataW.weightsAll P e l
  | [], _, h, _, _ => absurd h (by simp)
  | x :: r, d, h, n, hn => by
    simp only [DataW.weightsAll, List.mem_append]
    rcases List.mem_cons.1 h with rfl | h'
    · exact .inl hn
    · exact .inr (mem_weightsAll r d h' n hn)
section
variable {H : Type} {enc : TypeId × Value → H} {P : Program} {w : World}
theorem open_rowW {t e : TypeId} {k : IntKind} {n bytes : Nat} {v : Value} {y : DataW H × List MemPlace} (ht : P.underlying t = some (.slice e)) (he : P.underlying e = some (.int k)) (hc : P.cellsOf e = 1) (hby : P.bytesOf e = bytes) (h1 : 1 ≤ bytes)
    (hf : DataW.trod enc P w 0 (fun _ => true) true n t [v] = some y) (hw : ∀ m ∈ y.1.weights P t, m ≤ reachBytes) : ∃ a len cap zs, v = .slice a len cap ∧ IsRow k w a len cap zs ∧ len ≤ 140737488351232 := by
  rcases open_ints ht he hc hf with ⟨hcs, _⟩ | ⟨x, l, c, zs, hcs, _, hl, hm, hz, hx, hcell, hwz⟩
  · simp only [List.cons.injEq, and_true] at hcs
    exact ⟨none, 0, 0, [], hcs, .inl ⟨rfl, rfl, rfl, rfl⟩, Nat.zero_le _⟩
  · simp only [List.cons.injEq, and_true] at hcs
    have hz' : zs.length = c := by simpa using hz
    refine ⟨some x, l, c, zs, hcs, .inr ⟨x, rfl, hl, hm, hz', hcell, hwz⟩, ?_⟩
    subst hx
    have hr := hw (((lits (H := H) k (zs.take l)).length + (lits (H := H) k (zs.drop l)).length) * P.bytesOf e) (by simp [DataW.weights, ht])
    rw [hby] at hr
    simp only [lits, List.length_map, List.length_take, List.length_drop, reachBytes] at hr
    have h2 : min l zs.length + (zs.length - l) = zs.length := by omega
    rw [h2] at hr
    have h3 : zs.length * 1 ≤ zs.length * bytes := Nat.mul_le_mul_left _ h1
    omega
theorem trod_struct5 {t : TypeId} {f0 f1 f2 f3 f4 : Field} {fuel : Nat} {cs : List Value} {x : DataW H × List MemPlace} (ht : P.underlying t = some (.struct #[f0, f1, f2, f3, f4])) (h : DataW.trod enc P w 0 (fun _ => true) true fuel t cs = some x) :
    ∃ y0 y1 y2 y3 y4 n, x.1 = .agg [y0.1, y1.1, y2.1, y3.1, y4.1] ∧ DataW.trod enc P w 0 (fun _ => true) true n f0.type ((cs.drop f0.offset).take (P.cellsOf f0.type)) = some y0 ∧
      DataW.trod enc P w 0 (fun _ => true) true n f1.type ((cs.drop f1.offset).take (P.cellsOf f1.type)) = some y1 ∧ DataW.trod enc P w 0 (fun _ => true) true n f2.type ((cs.drop f2.offset).take (P.cellsOf f2.type)) = some y2 ∧
      DataW.trod enc P w 0 (fun _ => true) true n f3.type ((cs.drop f3.offset).take (P.cellsOf f3.type)) = some y3 ∧ DataW.trod enc P w 0 (fun _ => true) true n f4.type ((cs.drop f4.offset).take (P.cellsOf f4.type)) = some y4 := by
  obtain ⟨xs, n, _, rfl, _, hlen, hf⟩ := DataW.trod_struct ht h
  match xs, hlen with
  | [y0, y1, y2, y3, y4], _ => exact ⟨y0, y1, y2, y3, y4, n, by simp, by simpa using hf 0 f0 rfl, by simpa using hf 1 f1 rfl, by simpa using hf 2 f2 rfl, by simpa using hf 3 f3 rfl, by simpa using hf 4 f4 rfl⟩
theorem weights_struct5 {t : TypeId} {f0 f1 f2 f3 f4 : Field} {d0 d1 d2 d3 d4 : DataW H} (hs : P.underlying t = some (.struct #[f0, f1, f2, f3, f4])) (hw : ∀ m ∈ (DataW.agg [d0, d1, d2, d3, d4]).weights P t, m ≤ reachBytes) :
    (∀ m ∈ d2.weights P f2.type, m ≤ reachBytes) ∧ (∀ m ∈ d3.weights P f3.type, m ≤ reachBytes) := by
  have e : (DataW.agg [d0, d1, d2, d3, d4]).weights P t = DataW.weightsEach P [f0.type, f1.type, f2.type, f3.type, f4.type] [d0, d1, d2, d3, d4] := by simp [DataW.weights, hs]
  rw [e] at hw
  exact ⟨fun m hm => hw m (DataW.weights_mem_each (j := 2) rfl rfl m hm), fun m hm => hw m (DataW.weights_mem_each (j := 3) rfl rfl m hm)⟩
end
instance : Inhabited St9 := ⟨⟨0, 0, ⟨#[]⟩, none, 0, [], 0⟩⟩
theorem Try.cells_step9 : Try.prog.cellsOf 35 = 5 := by kernel_rfl
theorem Try.cells_int9 : Try.prog.cellsOf 3 = 1 := by kernel_rfl
theorem Try.cells_str9 : Try.prog.cellsOf 9 = 1 := by kernel_rfl
theorem Try.cells_bytes9 : Try.prog.cellsOf 33 = 1 := by kernel_rfl
theorem Try.cells_u89 : Try.prog.cellsOf 5 = 1 := by kernel_rfl
theorem step_in9 {H : Type} {enc : TypeId × Value → H} {W : World} {n : Nat} {v0 v1 v2 v3 v4 : Value} {x : DataW H × List MemPlace}
    (h : DataW.trod enc Try.prog W 0 (fun _ => true) true n 35 [v0, v1, v2, v3, v4] = some x) (hw : ∀ m ∈ x.1.weights Try.prog 35, m ≤ reachBytes) :
    ∃ q : St9, v0 = .int .i64 q.kind ∧ v1 = .int .i64 q.n ∧ v2 = .string q.s ∧ v3 = .slice q.a q.d.length q.c ∧ v4 = .int .u8 (q.y : Int) ∧ q.Fine W := by
  obtain ⟨y0, y1, y2, y3, y4, n1, hx, h0, h1, h2, h3, h4⟩ := trod_struct5 Try.underlying35 h
  rw [hx] at hw
  obtain ⟨hw2, hw3⟩ := weights_struct5 Try.underlying35 hw
  simp only [Try.cells_int9, Try.cells_str9, Try.cells_bytes9, Try.cells_u89, List.drop_zero, List.take_succ_cons, List.take_zero, List.drop_succ_cons] at h0 h1 h2 h3 h4
  obtain ⟨kd, e0, _, _⟩ := DataW.trod_int Try.underlying3 h0
  obtain ⟨nn, e1, _, _⟩ := DataW.trod_int Try.underlying3 h1
  obtain ⟨s2, e2, x2, _⟩ := DataW.trod_string Try.underlying9 h2
  obtain ⟨yy, e4, _, w4⟩ := DataW.trod_int Try.underlying5 h4
  simp only [List.cons.injEq, and_true] at e0 e1 e2 e4
  obtain ⟨a3, len3, cap3, z3, rfl, w3, b3⟩ := open_rowW Try.underlying33 Try.underlying5 (by kernel_rfl) (bytes := 1) (by kernel_rfl) (by decide) h3 hw3
  obtain ⟨d, l3, hb3, i3, _⟩ := w3.isB
  have b4 := bounds_u8 w4
  have l2 : s2.size ≤ 140737488351232 := by
    subst x2
    have := hw2 s2.data.toList.length (by simp [DataW.weights])
    simpa [reachBytes] using this
  subst l3
  exact ⟨⟨kd, nn, s2, a3, cap3, d, yy.toNat⟩, e0, e1, e2, rfl, by rw [e4]; congr 1; dsimp only; omega, ⟨i3, hb3, by dsimp only; omega, l2, b3⟩⟩
theorem steps_in9 {H : Type} {enc : TypeId × Value → H} {W : World} {fuel : Nat} {a0 : Option Addr} {len0 cap0 : Nat} {x : DataW H × List MemPlace}
    (h : DataW.trod enc Try.prog W 0 (fun _ => true) true fuel 22 [.slice a0 len0 cap0] = some x) (hw : ∀ m ∈ x.1.weights Try.prog 22, m ≤ reachBytes) : ∃ X : List St9, X.length = len0 ∧ IsSt W a0 X := by
  rcases open_slice Try.underlying22 h with ⟨hcs, _⟩ | ⟨a, len, cap, m, n, D, Pl, hcs, _, hl, _, hm, rfl, hr⟩
  · simp only [List.cons.injEq, and_true, Value.slice.injEq] at hcs
    obtain ⟨rfl, rfl, rfl⟩ := hcs
    exact ⟨[], rfl, fun j hj => by simp at hj⟩
  · simp only [List.cons.injEq, and_true, Value.slice.injEq] at hcs
    obtain ⟨rfl, rfl, rfl⟩ := hcs
    have hlm : len0 ≤ m := by rw [hm]; split <;> omega
    have each : ∀ i, i < len0 → ∃ q : St9, W.cell? (a.add (i * 5)) = some (.int .i64 q.kind) ∧ W.cell? (a.add (i * 5 + 1)) = some (.int .i64 q.n) ∧ W.cell? (a.add (i * 5 + 2)) = some (.string q.s) ∧ W.cell? (a.add (i * 5 + 3)) = some (.slice q.a q.d.length q.c) ∧ W.cell? (a.add (i * 5 + 4)) = some (.int .u8 (q.y : Int)) ∧ q.Fine W := by
      intro i hi
      obtain ⟨cs', h1, h2⟩ := hr i (by omega)
      rw [Try.cells_step9] at h1
      obtain ⟨_, hlen, hcell⟩ := World.cells?_some h1
      match cs', hlen with
      | [v0, v1, v2, v3, v4], _ =>
        have hD : ∀ k ∈ (D i).weights Try.prog 35, k ≤ reachBytes := fun k hk => by
          refine hw k ?_
          simp only [DataW.weights, Try.underlying22, List.mem_cons, List.mem_append]
          exact .inr (.inl (mem_weightsAll _ (D i) (List.mem_map.2 ⟨i, List.mem_range.2 hi, rfl⟩) k hk))
        obtain ⟨q, e0, e1, e2, e3, e4, r⟩ := step_in9 h2 hD
        have c0 := hcell 0 (by omega)
        have c1 := hcell 1 (by omega)
        have c2 := hcell 2 (by omega)
        have c3 := hcell 3 (by omega)
        have c4 := hcell 4 (by omega)
        rw [add_add] at c0 c1 c2 c3 c4
        subst e0; subst e1; subst e2; subst e3; subst e4
        exact ⟨q, by simpa using c0, by simpa using c1, by simpa using c2, by simpa using c3, by simpa using c4, r⟩
    obtain ⟨Q, hQ⟩ := choose_lt each
    refine ⟨(List.range len0).map Q, by simp, fun j hj => ?_⟩
    have hj2 : j < len0 := by simpa using hj
    obtain ⟨c0, c1, c2, c3, c4, r⟩ := hQ j hj2
    obtain ⟨b, off, sp⟩ := a
    have hsp : sp = none := by simpa [Addr.add] using World.cell?_spot (hQ 0 (by omega)).1
    subst hsp
    rw [add_off] at c0 c1 c2 c3 c4
    have ej : ((List.range len0).map Q)[j] = Q j := by simp
    rw [ej]
    exact ⟨b, off, rfl, c0, by rw [Nat.add_assoc]; exact c1, by rw [Nat.add_assoc]; exact c2, by rw [Nat.add_assoc]; exact c3, by rw [Nat.add_assoc]; exact c4, r⟩
end Go.Proofs.Ytmledochidefeaa
namespace Go.Proofs.Ytmledochidefeaa
open Go.RowKit Go.Maps
theorem both_new {B : Nat} {w w1 w2 : World} {F G : Nat → Prop} {d p room : Nat} {L : DiskL} (hB : B ≤ w.heap.size) (d1 : DiskAt w1 F d room L) (lF : ∀ k, F k → w.heap.size ≤ k) (k1 : Below w.heap.size w w1) (r2 : RAt w2 G p room L) (lG : ∀ k, G k → w1.heap.size ≤ k) (k2 : Below w1.heap.size w1 w2) :
    Both B w2 F G d p room L :=
  ⟨d1.below k2, r2, fun k hf hg => (by have := d1.low k hf; have := lG k hg; omega), fun k hk => (by have := lF k hk; omega), fun k hk => (by have := lG k hk; have := k1.size; omega), Nat.le_trans hB (Nat.le_trans k1.size k2.size)⟩
theorem St9.Fine.keep {w w' : World} {q : St9} (h : q.Fine w) (hb : Below w.heap.size w w') : q.Fine w' := ⟨h.row.keep hb, h.byte, h.by_, h.ls, h.ld⟩
theorem fine_block {w : World} {q : St9} (h : q.Fine w) : q.d ≠ [] → ∀ g, (Value.slice q.a q.d.length q.c).ownBlock = some g → g < w.heap.size := by
  intro hne g hg
  obtain ⟨b, off, e, hc⟩ := h.row.rd hne
  rw [e] at hg
  have hg : b = g := Option.some.inj hg
  subst hg
  exact cell_lt (hc 0 (List.length_pos_iff.2 hne))
set_option maxRecDepth 100000 in
set_option maxHeartbeats 6400000 in
theorem keepPlays_core (z : Int) (T c : Nat) (a : Option Addr) (X : List St9) (w : World) (hX : X.length = T) (hI : IsSt w a X) :
    Calls Try.prog 3 #[.int .i64 z, .slice a T c] w fun e w' => e = .returned (.bool true) ∧ Below w.heap.size w w' := by
  have HX := hide hX
  have HI := hide hI
  clear hX hI
  go_enter Try.func3, Try.ntmps3
  go_wp2_with fail
  refine (heavy_any T c a X w HX.out HI.out).mono ?_
  rintro e w1 ⟨hT, d1, rfl⟩
  rcases hT with rfl | ⟨rfl, hH⟩
  rotate_left
  · have LT := hide hH
    clear hH
    by_cases hz : z < 0 ∨ 1073741824 < z
    · go_wp2_with fail
      refine (new_bad z (w.drewN d1) hz).mono ?_
      rintro e w1 ⟨rfl, rfl⟩
      go_wp2_with fail
      refine (rnew_bad z (w.drewN d1) hz).mono ?_
      rintro e w1 ⟨rfl, rfl⟩
      go_wp2_with fail
      refine (known_any _).mono ?_
      rintro e w1 ⟨rfl, k1⟩
      go_wp2_with fail
      go_ret
      exact ⟨rfl, (below_drewN (Below.refl _ _) d1).trans k1⟩
    · obtain ⟨room, rfl⟩ : ∃ r : Nat, z = (r : Int) := ⟨z.toNat, by omega⟩
      have hroom : room ≤ 1073741824 := by omega
      clear hz
      go_wp2_with fail
      refine (new_any room (w.drewN d1) hroom).mono ?_
      rintro e w1 ⟨d, F, rfl, D1, lF, k1⟩
      go_wp2_with fail
      refine (rnew_any room w1 hroom).mono ?_
      rintro e w2 ⟨p, G, rfl, R2, lG, k2⟩
      have hB := both_new (B := w.heap.size) (w := w.drewN d1) (Nat.le_refl _) D1 lF k1 R2 lG k2
      have hK : Below w.heap.size w w2 := (below_drewN (Below.refl _ _) d1).trans (k1.trans (k2.mono k1.size))
      have HB := hide hB
      have HK := hide hK
      clear D1 lF k1 R2 lG k2 hB hK
      go_wp2_with fail
      go_loopw [9] (fun i wr => ∃ (k : Nat) (F G : Nat → Prop) (L : DiskL), k ≤ T ∧ k ≤ 100 ∧ i = .int .i64 (k : Int) ∧ Hid (Both w.heap.size wr F G d p room L) ∧ Hid (Below w.heap.size w wr)) (fun i _ => 100 - (intOf i).toNat)
      case atStart => exact ⟨0, F, G, _, Nat.zero_le _, Nat.zero_le _, rfl, HB.out, HK.out⟩
      case round =>
        clear HB HK
        obtain ⟨k, F, G, L, hk, hk2, rfl, HB, HK⟩ := hrel
        have hj0 : 0 ≤ (k : Int) := by omega
        by_cases hgo : k < T ∧ k < 100
        · obtain ⟨hlt, h120⟩ := hgo
          have hltz : (k : Int) < (T : Int) := by omega
          have h2z : (k : Int) < 100 := by omega
          have hkX : k < X.length := by rw [HX.out]; exact hlt
          obtain ⟨b, off, rfl, y0, y1, y2, y3, y4, fine⟩ := HI.out k hkX
          have hlight := LT.out k hkX h120
          obtain ⟨q, hq⟩ : ∃ q, q = X[k] := ⟨_, rfl⟩
          rw [← hq] at y0 y1 y2 y3 y4 fine hlight
          have hbo := fine_block fine
          have FI := hide (fine.keep HK.out)
          have LI := hide hlight
          have BO := hide hbo
          have hbw : b < w.heap.size := cell_lt y0
          have x0 := (HK.out.cell (p := ⟨b, off + k * 5, none⟩) hbw).trans y0
          have x1 := (HK.out.cell (p := ⟨b, off + k * 5 + 1, none⟩) hbw).trans y1
          have x2 := (HK.out.cell (p := ⟨b, off + k * 5 + 2, none⟩) hbw).trans y2
          have x3 := (HK.out.cell (p := ⟨b, off + k * 5 + 3, none⟩) hbw).trans y3
          have x4 := (HK.out.cell (p := ⟨b, off + k * 5 + 4, none⟩) hbw).trans y4
          clear y0 y1 y2 y3 y4 fine hlight hbo hq
          go_wp2_with fail
          refine (does_any w.heap.size wr F G d p room L q HB.out FI.out LI.out BO.out).mono ?_
          rintro e w3 ⟨rfl, F3, G3, L3, B3, K3⟩
          have BB := hide B3
          have KK := hide (HK.out.trans K3)
          clear B3 K3 x0 x1 x2 x3 x4
          go_wp2_with fail
          refine (stood_any w.heap.size w3 F3 G3 d p room L3 BB.out).mono ?_
          rintro e w4 ⟨rfl, k4⟩
          have B4 := hide (BB.out.below k4)
          have K4 := hide (KK.out.trans (k4.mono BB.out.base))
          clear k4
          go_wp2_with fail
          go_roundw
          case rel => exact ⟨k + 1, F3, G3, L3, by omega, by omega, by go_num, B4.out, K4.out⟩
          case measure => simp [intOf]; omega
        · have hend : ¬ ((k : Int) < (T : Int)) ∨ ((k : Int) < (T : Int)) ∧ ¬ ((k : Int) < 100) := by omega
          clear hgo
          rcases hend with hltz | ⟨hltz, h2z⟩
          all_goals
            go_wp2_with fail
            refine (known_any _).mono ?_
            rintro e w6 ⟨rfl, k6⟩
            go_wp2_with fail
            go_ret
            exact ⟨rfl, HK.out.trans (k6.mono HK.out.size)⟩
  · go_wp2_with fail
    refine (known_any _).mono ?_
    rintro e w1 ⟨rfl, k1⟩
    go_wp2_with fail
    go_ret
    exact ⟨rfl, (below_drewN (Below.refl _ _) d1).trans k1⟩
end Go.Proofs.Ytmledochidefeaa
