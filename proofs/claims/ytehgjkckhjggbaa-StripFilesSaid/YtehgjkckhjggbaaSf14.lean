/- How a needle that came in is opened: two numbers, a truth, a slice of bytes no longer than the form's reach. -/
import Derived.Test.YtehgjkckhjggbaaSf6
import Derived.ProofKit
import Derived.OpenShut
import Derived.SizedLaws
import Derived.Lib.SmallJoins
namespace Go.Proofs.Ytehgjkckhjggbaa
open Go.ChangeShapes Go.WideShapes Go.ChangeAt Go.RowKit Go.Joins Go.Deep
section
variable {H : Type} {enc : TypeId × Value → H} {P : Program} {w : World} {base : Nat} {spare : Nat → Bool} {held : Bool}
theorem open_rowN {t e : TypeId} {k : IntKind} {n bytes : Nat} {v : Value} {y : DataW H × List MemPlace} (ht : P.underlying t = some (.slice e)) (he : P.underlying e = some (.int k)) (hc : P.cellsOf e = 1) (hby : P.bytesOf e = bytes) (h1 : 1 ≤ bytes)
    (hf : DataW.trod enc P w 0 (fun _ => true) true n t [v] = some y) (hw : ∀ m ∈ y.1.weights P t, m ≤ reachBytes) : ∃ a len cap zs, v = .slice a len cap ∧ IsRow k w a len cap zs ∧ len ≤ 140737488351232 := by
  rcases open_ints ht he hc hf with ⟨hcs, _⟩ | ⟨x, l, c, zs, hcs, _, hl, hm, hz, hx, hcell, hwz⟩
  · simp only [List.cons.injEq, and_true] at hcs
    exact ⟨none, 0, 0, [], hcs, .inl ⟨rfl, rfl, rfl, rfl⟩, Nat.zero_le _⟩
  · simp only [List.cons.injEq, and_true] at hcs
    have hz' : zs.length = c := by simpa using hz
    refine ⟨some x, l, c, zs, hcs, .inr ⟨x, rfl, hl, hm, hz', hcell, hwz⟩, ?_⟩
    subst hx
    have hr := hw (((lits (H := H) k (zs.take l)).length + (lits (H := H) k (zs.drop l)).length) * P.bytesOf e) (by simp [DataW.weights, ht])
    rw [hby] at hr
    simp only [lits, List.length_map, List.length_take, List.length_drop, reachBytes] at hr
    have h2 : min l zs.length + (zs.length - l) = zs.length := by omega
    rw [h2] at hr
    have h3 : zs.length * 1 ≤ zs.length * bytes := Nat.mul_le_mul_left _ h1
    omega
end
theorem Try.cells_ndl : Try.prog.cellsOf 35 = 4 := by kernel_rfl
theorem weights_ndl {H : Type} {P : Program} {t : TypeId} {f0 f1 f2 f3 : Field} {d0 d1 d2 d3 : DataW H} (hs : P.underlying t = some (.struct #[f0, f1, f2, f3])) (hw : ∀ m ∈ (DataW.agg [d0, d1, d2, d3]).weights P t, m ≤ reachBytes) :
    (∀ m ∈ d3.weights P f3.type, m ≤ reachBytes) := by
  have e : (DataW.agg [d0, d1, d2, d3]).weights P t = DataW.weightsEach P [f0.type, f1.type, f2.type, f3.type] [d0, d1, d2, d3] := by simp [DataW.weights, hs]
  rw [e] at hw
  exact fun m hm => hw m (DataW.weights_mem_each (j := 3) rfl rfl m hm)
theorem wf_u64 {n : Int} (h : (Lit.int .u64 n).wf = true) : ∃ k : Nat, n = (k : Int) ∧ k < 18446744073709551616 := by
  have hb : 0 ≤ n ∧ n ≤ 18446744073709551615 := bounds_u64 h
  exact ⟨n.toNat, by omega, by omega⟩
theorem wf_u32 {n : Int} (h : (Lit.int .u32 n).wf = true) : ∃ k : Nat, n = (k : Int) ∧ k < 4294967296 := by
  have hb : 0 ≤ n ∧ n ≤ 4294967295 := bounds_u32 h
  exact ⟨n.toNat, by omega, by omega⟩
set_option maxRecDepth 100000 in
theorem open_ndl {H : Type} {enc : TypeId × Value → H} {w : World} {r : Reach} {b0 : Nat} {v : Value} {d : DataW H} {p : List MemPlace} (hv : Value.okWide Try.prog w r b0 35 v) (h : DataW.Trod enc Try.prog w 0 (fun _ => true) true 35 v d p) (hw : ∀ m ∈ d.weights Try.prog 35, m ≤ reachBytes) :
    ∃ (k c : Nat) (b : Bool) (a : Option Addr) (len cap : Nat) (xs : List Nat), v = .agg #[.int .u64 (k : Int), .int .u32 (c : Int), .bool b, .slice a len cap] ∧ k < 18446744073709551616 ∧ c < 4294967296 ∧ IsB w (.slice a len cap) xs ∧ xs.length = len ∧ (∀ x ∈ xs, x < 256) ∧ len ≤ 140737488351232 := by
  obtain ⟨v0, v1, v2, v3, y0, y1, y2, y3, n, rfl, rfl, _, h0, h1, h2, h3⟩ := open_agg4 Try.underlying35 (by kernel_rfl) Try.cells_ndl hv h
  have hw3 := weights_ndl Try.underlying35 hw
  obtain ⟨k, e0, _, k0⟩ := DataW.trod_int Try.underlying31 h0
  obtain ⟨c, e1, _, k1⟩ := DataW.trod_int Try.underlying33 h1
  obtain ⟨b, e2, _⟩ := DataW.trod_bool Try.underlying4 h2
  simp only [List.cons.injEq, and_true] at e0 e1 e2
  obtain ⟨a, len, cap, z, rfl, w3, b3⟩ := open_rowN Try.underlying23 Try.underlying5 (by kernel_rfl) (bytes := 1) (by kernel_rfl) (by decide) h3 hw3
  obtain ⟨xs, hl, hby, iD, _⟩ := w3.isB
  obtain ⟨k', rfl, hk⟩ := wf_u64 k0
  obtain ⟨c', rfl, hc⟩ := wf_u32 k1
  subst e0; subst e1; subst e2
  exact ⟨k', c', b, a, len, cap, xs, rfl, hk, hc, iD, hl, hby, b3⟩
end Go.Proofs.Ytehgjkckhjggbaa
