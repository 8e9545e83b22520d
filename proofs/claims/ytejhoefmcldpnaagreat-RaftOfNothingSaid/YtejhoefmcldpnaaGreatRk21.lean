/- How a message that came in is opened: three numbers, a slice of numbers, a slice of bytes, each no longer than the form's reach. -/
import Derived.Test.YtejhoefmcldpnaaGreatRk6
import Derived.ProofKit
import Derived.OpenShut
import Derived.SizedLaws
import Derived.Lib.SmallJoins
namespace Go.Proofs.YtejhoefmcldpnaaGreat
open Go.ChangeShapes Go.WideShapes Go.ChangeAt Go.RowKit Go.Joins Go.Deep
section
variable {H : Type} {enc : TypeId × Value → H} {P : Program} {w : World} {base : Nat} {spare : Nat → Bool} {held : Bool}
theorem array5 {α : Type} {cs : Array α} (h : cs.size = 5) : ∃ c0 c1 c2 c3 c4, cs = #[c0, c1, c2, c3, c4] := by
  obtain ⟨l⟩ := cs
  match l, h with
  | [c0, c1, c2, c3, c4], _ => exact ⟨c0, c1, c2, c3, c4, rfl⟩
theorem trod_struct5 {t : TypeId} {f0 f1 f2 f3 f4 : Field} {fuel : Nat} {cs : List Value} {x : DataW H × List MemPlace} (ht : P.underlying t = some (.struct #[f0, f1, f2, f3, f4])) (h : DataW.trod enc P w base spare held fuel t cs = some x) :
    ∃ y0 y1 y2 y3 y4 n, x = (.agg [y0.1, y1.1, y2.1, y3.1, y4.1], y0.2 ++ (y1.2 ++ (y2.2 ++ (y3.2 ++ y4.2)))) ∧ DataW.trod enc P w base spare held n f0.type ((cs.drop f0.offset).take (P.cellsOf f0.type)) = some y0 ∧
      DataW.trod enc P w base spare held n f1.type ((cs.drop f1.offset).take (P.cellsOf f1.type)) = some y1 ∧ DataW.trod enc P w base spare held n f2.type ((cs.drop f2.offset).take (P.cellsOf f2.type)) = some y2 ∧
      DataW.trod enc P w base spare held n f3.type ((cs.drop f3.offset).take (P.cellsOf f3.type)) = some y3 ∧ DataW.trod enc P w base spare held n f4.type ((cs.drop f4.offset).take (P.cellsOf f4.type)) = some y4 := by
  obtain ⟨xs, n, _, rfl, _, hlen, hf⟩ := DataW.trod_struct ht h
  match xs, hlen with
  | [y0, y1, y2, y3, y4], _ => exact ⟨y0, y1, y2, y3, y4, n, by simp, by simpa using hf 0 f0 rfl, by simpa using hf 1 f1 rfl, by simpa using hf 2 f2 rfl, by simpa using hf 3 f3 rfl, by simpa using hf 4 f4 rfl⟩
theorem open_agg5 {r : Reach} {b0 : Nat} {t : TypeId} {f0 f1 f2 f3 f4 : Field} {v : Value} {d : DataW H} {p : List MemPlace} (hs : P.underlying t = some (.struct #[f0, f1, f2, f3, f4])) (hone : oneCellFields P #[f0, f1, f2, f3, f4] = true) (hC : P.cellsOf t = 5)
    (hv : Value.okWide P w r b0 t v) (h : DataW.Trod enc P w base spare held t v d p) :
    ∃ (v0 v1 v2 v3 v4 : Value) (y0 y1 y2 y3 y4 : DataW H × List MemPlace) (n : Nat), v = .agg #[v0, v1, v2, v3, v4] ∧ d = .agg [y0.1, y1.1, y2.1, y3.1, y4.1] ∧
      DataW.trod enc P w base spare held n f0.type [v0] = some y0 ∧ DataW.trod enc P w base spare held n f1.type [v1] = some y1 ∧ DataW.trod enc P w base spare held n f2.type [v2] = some y2 ∧ DataW.trod enc P w base spare held n f3.type [v3] = some y3 ∧ DataW.trod enc P w base spare held n f4.type [v4] = some y4 := by
  obtain ⟨cs, rfl, hsz⟩ := okWide_struct hs hv
  obtain ⟨c0, c1, c2, c3, c4, rfl⟩ := array5 (hsz.trans hC)
  obtain ⟨fuel, hf⟩ := h
  obtain ⟨y0, y1, y2, y3, y4, n, hx, h0, h1, h2, h3, h4⟩ := trod_struct5 hs hf
  obtain ⟨o0, k0⟩ := hone_of hone 0 f0 rfl
  obtain ⟨o1, k1⟩ := hone_of hone 1 f1 rfl
  obtain ⟨o2, k2⟩ := hone_of hone 2 f2 rfl
  obtain ⟨o3, k3⟩ := hone_of hone 3 f3 rfl
  obtain ⟨o4, k4⟩ := hone_of hone 4 f4 rfl
  simp only [Prod.mk.injEq] at hx
  exact ⟨c0, c1, c2, c3, c4, y0, y1, y2, y3, y4, n, rfl, hx.1, by simpa [Value.cells, o0, k0] using h0, by simpa [Value.cells, o1, k1] using h1, by simpa [Value.cells, o2, k2] using h2, by simpa [Value.cells, o3, k3] using h3, by simpa [Value.cells, o4, k4] using h4⟩
theorem open_row {t e : TypeId} {k : IntKind} {n bytes : Nat} {v : Value} {y : DataW H × List MemPlace} (ht : P.underlying t = some (.slice e)) (he : P.underlying e = some (.int k)) (hc : P.cellsOf e = 1) (hby : P.bytesOf e = bytes) (h1 : 1 ≤ bytes)
    (hf : DataW.trod enc P w 0 (fun _ => true) true n t [v] = some y) (hw : ∀ m ∈ y.1.weights P t, m ≤ reachBytes) : ∃ a len cap zs, v = .slice a len cap ∧ IsRow k w a len cap zs ∧ len ≤ 140737488351232 := by
  rcases open_ints ht he hc hf with ⟨hcs, _⟩ | ⟨x, l, c, zs, hcs, _, hl, hm, hz, hx, hcell, hwz⟩
  · simp only [List.cons.injEq, and_true] at hcs
    exact ⟨none, 0, 0, [], hcs, .inl ⟨rfl, rfl, rfl, rfl⟩, Nat.zero_le _⟩
  · simp only [List.cons.injEq, and_true] at hcs
    have hz' : zs.length = c := by simpa using hz
    refine ⟨some x, l, c, zs, hcs, .inr ⟨x, rfl, hl, hm, hz', hcell, hwz⟩, ?_⟩
    subst hx
    have hr := hw (((lits (H := H) k (zs.take l)).length + (lits (H := H) k (zs.drop l)).length) * P.bytesOf e) (by simp [DataW.weights, ht])
    rw [hby] at hr
    simp only [lits, List.length_map, List.length_take, List.length_drop, reachBytes] at hr
    have h2 : min l zs.length + (zs.length - l) = zs.length := by omega
    rw [h2] at hr
    have h3 : zs.length * 1 ≤ zs.length * bytes := Nat.mul_le_mul_left _ h1
    omega
end
theorem Tryz.cells_msg : Tryz.prog.cellsOf 34 = 5 := by kernel_rfl
theorem weights_msg {H : Type} {P : Program} {t : TypeId} {f0 f1 f2 f3 f4 : Field} {d0 d1 d2 d3 d4 : DataW H} (hs : P.underlying t = some (.struct #[f0, f1, f2, f3, f4])) (hw : ∀ m ∈ (DataW.agg [d0, d1, d2, d3, d4]).weights P t, m ≤ reachBytes) :
    (∀ m ∈ d3.weights P f3.type, m ≤ reachBytes) ∧ (∀ m ∈ d4.weights P f4.type, m ≤ reachBytes) := by
  have e : (DataW.agg [d0, d1, d2, d3, d4]).weights P t = DataW.weightsEach P [f0.type, f1.type, f2.type, f3.type, f4.type] [d0, d1, d2, d3, d4] := by simp [DataW.weights, hs]
  rw [e] at hw
  exact ⟨fun m hm => hw m (DataW.weights_mem_each (j := 3) rfl rfl m hm), fun m hm => hw m (DataW.weights_mem_each (j := 4) rfl rfl m hm)⟩
set_option maxRecDepth 100000 in
theorem open_msg {H : Type} {enc : TypeId × Value → H} {w : World} {r : Reach} {b0 : Nat} {v : Value} {d : DataW H} {p : List MemPlace} (hv : Value.okWide Tryz.prog w r b0 34 v) (h : DataW.Trod enc Tryz.prog w 0 (fun _ => true) true 34 v d p) (hw : ∀ m ∈ d.weights Tryz.prog 34, m ≤ reachBytes) :
    ∃ (f t k : Int) (a3 : Option Addr) (len3 cap3 : Nat) (z3 : List Int) (a4 : Option Addr) (len4 cap4 : Nat) (z4 : List Int), v = .agg #[.int .i64 f, .int .i64 t, .int .i64 k, .slice a3 len3 cap3, .slice a4 len4 cap4] ∧ IsRow .i64 w a3 len3 cap3 z3 ∧ len3 ≤ 140737488351232 ∧ IsRow .u8 w a4 len4 cap4 z4 ∧ len4 ≤ 140737488351232 := by
  obtain ⟨v0, v1, v2, v3, v4, y0, y1, y2, y3, y4, n, rfl, rfl, h0, h1, h2, h3, h4⟩ := open_agg5 Tryz.underlying34 (by kernel_rfl) Tryz.cells_msg hv h
  obtain ⟨hw3, hw4⟩ := weights_msg Tryz.underlying34 hw
  obtain ⟨f, e0, _, _⟩ := DataW.trod_int Tryz.underlying3 h0
  obtain ⟨t, e1, _, _⟩ := DataW.trod_int Tryz.underlying3 h1
  obtain ⟨k, e2, _, _⟩ := DataW.trod_int Tryz.underlying3 h2
  simp only [List.cons.injEq, and_true] at e0 e1 e2
  obtain ⟨a3, len3, cap3, z3, rfl, w3, b3⟩ := open_row Tryz.underlying31 Tryz.underlying3 (by kernel_rfl) (bytes := 8) (by kernel_rfl) (by decide) h3 hw3
  obtain ⟨a4, len4, cap4, z4, rfl, w4, b4⟩ := open_row Tryz.underlying32 Tryz.underlying5 (by kernel_rfl) (bytes := 1) (by kernel_rfl) (by decide) h4 hw4
  subst e0; subst e1; subst e2
  exact ⟨f, t, k, a3, len3, cap3, z3, a4, len4, cap4, z4, rfl, w3, b3, w4, b4⟩
end Go.Proofs.YtejhoefmcldpnaaGreat
