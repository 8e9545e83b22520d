/- Bytes are copied into a row of the call's own, from a place on. No condition. -/
import Derived.Test.YtehgjkckhjggbaaSp6
import Derived.Test.YtehgjkckhjggbaaSp13
import Derived.Laws.CopyOwn
namespace Go.Proofs.Ytehgjkckhjggbaa
open Go.RowKit
def updAt (f : Mat) (i off k : Nat) (h : Nat → G) : Mat := fun a b => if a = i ∧ off ≤ b ∧ b < off + k then h (b - off) else f a b
theorem Grid.setAt {w : World} {B g n m : Nat} {R : Nat → Nat} {f : Mat} (hg : Grid w B g n m R f) (i off k : Nat) (hi : i < n) (h : Nat → G) :
    Grid (w.setRow (R i) ((List.range m).map fun j => Value.int .u8 (((updAt f i off k h) i j).n : Int)).toArray) B g n m R (updAt f i off k h) := by
  obtain ⟨hb, cur, hh, hc⟩ := hg.row i hi
  have hgr : w.grownBy (w.setRow (R i) ((List.range m).map fun j => Value.int .u8 (((updAt f i off k h) i j).n : Int)).toArray) (some (R i)) :=
    ⟨rfl, rfl, rfl, by simp [World.setRow], fun k _ hk => setRow_other w (R i) k _ (fun e => hk (by rw [e]))⟩
  refine ⟨hg.outer.kept hgr (fun e => hg.ne i hi (by simpa using e)), fun a ha => ?_, hg.apart⟩
  by_cases e : a = i
  · subst e
    refine ⟨hb, _, setRow_heap w (R a) cur _ _ _ hh, ?_⟩
    unfold cellsG
    simp
  · rw [show cellsG (updAt f i off k h) a m = cellsG f a m from List.map_congr_left (fun b _ => by unfold updAt; rw [if_neg (fun q => e q.1)])]
    exact (hg.row a ha).kept hgr (fun q => e (hg.apart a i ha hi (by simpa using q.symm)))
theorem step_copy_grid {w : World} {ops : Array Oper} {o : Oper} {a : Act} {K : Act → World → Prop} {Q : Exit → Act → World → Prop} {E : Prop} (hgd : o.guard = none) (d s : Operand)
    (ho : o.op = .call { callee := .builtin .copy, args := #[d, s], argTypes := #[23, 23] })
    {B g n m : Nat} {R : Nat → Nat} {f : Mat} (hg : Grid w B g n m R f) (i : Nat) (hi : i < n) (off dl dc : Nat) (A : Option Addr) (k c : Nat) (xs : List Nat) (hd : a.eval d = .slice (some ⟨R i, off, none⟩) dl dc) (hs : a.eval s = .slice A k c)
    (hx : Rd w A xs) (hk : xs.length = k) (h0 : 1 ≤ k) (hkd : k ≤ dl) (hkm : off + k ≤ m) (h8 : ∀ x ∈ xs, x < 256)
    (h : ∀ w', Grid w' B g n m R (updAt f i off k (fun j => G.of (xs.getD j 0))) → (∀ a0, Below B a0 w → Below B a0 w') → Turn (fun b => b = R i) w w' → K (a.put o.dst (goInt k)) w') : if Region.wanted o (yielded ops a.tmps) = true then Oper.wp Try.prog o a w K Q else E := by
  have hw : Region.wanted o (yielded ops a.tmps) = true := by simp [Region.wanted, hgd]
  rw [if_pos hw]
  obtain ⟨i0, hi0, hz0, hz1, hz2⟩ := info_parts Try.info_u8'
  obtain ⟨hBr, cur, hh, hc⟩ := hg.row i hi
  obtain ⟨b, bo, rfl, hcell⟩ := hx (by intro e; rw [e] at hk; simp at hk; omega)
  have hsz : cur.size = m := by rw [← Array.length_toList, hc]; simp [cellsG]
  have hmin : (xs.map fun x : Nat => Value.int .u8 (x : Int)).length = Nat.min k dl := by rw [List.length_map, hk]; exact (Nat.min_eq_left hkd).symm
  have hsrc : ∀ j v, (xs.map fun x : Nat => Value.int .u8 (x : Int))[j]? = some v → w.cell? ((⟨b, bo, none⟩ : Addr).add j) = some v := by
    intro j v hv
    have hj : j < xs.length := by
      rcases Nat.lt_or_ge j xs.length with h | h
      · exact h
      · simp [h] at hv
    have := hcell j hj
    simp [hj] at hv
    subst hv
    simpa [add_off, hj] using this
  have hrun := run_copy_row (P := Try.prog) w 23 23 o.type 5 (R i) off dl dc ⟨b, bo, none⟩ k c cur 5 (xs.map fun x : Nat => Value.int .u8 (x : Int)) Try.underlying23 (by rw [hi0, Option.map_some, hz1]) hh hmin hsrc (by rw [List.length_map]; omega) (fun v hv => by obtain ⟨x, _, rfl⟩ := List.mem_map.1 hv; rfl)
  have hl : cur.toList.take off ++ ((xs.map fun x : Nat => Value.int .u8 (x : Int)) ++ cur.toList.drop (off + (xs.map fun x : Nat => Value.int .u8 (x : Int)).length)) = (List.range m).map fun j => Value.int .u8 (((updAt f i off k (fun j => G.of (xs.getD j 0))) i j).n : Int) := by
    rw [hc]
    apply List.ext_getElem
    · simp [cellsG, hk]; omega
    · intro j h1 h2
      have hjm : j < m := by simpa using h2
      simp only [List.getElem_map, List.getElem_range]
      by_cases e1 : j < off
      · rw [List.getElem_append_left (by simp [cellsG]; omega)]
        simp only [List.getElem_take, cellsG, List.getElem_map, List.getElem_range]
        unfold updAt
        rw [if_neg (by omega)]
      · rw [List.getElem_append_right (by simp [cellsG]; omega)]
        have hlt : ((cellsG f i m).take off).length = off := by simp [cellsG]; omega
        by_cases e2 : j < off + k
        · rw [List.getElem_append_left (by rw [List.length_map, hlt]; omega)]
          unfold updAt
          rw [if_pos ⟨rfl, by omega, e2⟩]
          simp only [List.getElem_map, hlt]
          rw [G.of_n (getD_lt h8 _)]
          have hj : j - off < xs.length := by omega
          simp [hj]
        · rw [List.getElem_append_right (by rw [List.length_map, hlt]; omega)]
          unfold updAt
          rw [if_neg (by omega)]
          simp only [hlt, List.length_map, List.getElem_drop]
          simp only [cellsG, List.getElem_map, List.getElem_range]
          rw [show off + xs.length + (j - off - xs.length) = j by omega]
  have hgr : w.grownBy (w.setRow (R i) ((List.range m).map fun j => Value.int .u8 (((updAt f i off k (fun j => G.of (xs.getD j 0))) i j).n : Int)).toArray) (some (R i)) :=
    ⟨rfl, rfl, rfl, by simp [World.setRow], fun k _ hk => setRow_other w (R i) k _ (fun e => hk (by rw [e]))⟩
  have hk' : ((xs.map fun x : Nat => Value.int .u8 (x : Int)).length : Int) = (k : Int) := by rw [List.length_map, hk]
  have hfin := h _ (hg.setAt i off k hi (fun j => G.of (xs.getD j 0))) (fun a0 hb => below_setRow hb hBr _) ((Turn.of_grown hgr).mono (S' := fun b => b = R i) (fun i e => Option.some.inj e))
  unfold Oper.wp
  simp [execOp, ho, resolve, invoke, builtin, hd, hs, hrun, Result.andThen]
  simp only [List.length_map, hk] at hl ⊢
  rw [hl]
  exact hfin
end Go.Proofs.Ytehgjkckhjggbaa
