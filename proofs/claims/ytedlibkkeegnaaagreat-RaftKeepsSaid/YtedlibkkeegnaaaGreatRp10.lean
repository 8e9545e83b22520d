/- A row cut in its own block, at any type: what is moved up, what is cleared. It names nothing of the program. -/
import Derived.Test.YtedlibkkeegnaaaGreatRp8
import Derived.Deep.RegionLaw
namespace Go.Proofs.YtedlibkkeegnaaaGreat
open Go.RowKit Go.Maps
variable {w : World} {B n c b : Nat}
theorem row_setCells {s : Nat} {e : TypeId} {l : List Value} : ∀ (vs : List Value) (o : Nat) (w : World), n * s <= o -> w.ownsRow B e s (.slice (some ⟨b, 0, none⟩) n c) n l -> (w.setCells b o vs).ownsRow B e s (.slice (some ⟨b, 0, none⟩) n c) n l /\ w.grownBy (w.setCells b o vs) (some b)
 | [], _, w, _, h => ⟨h, World.grownBy.refl w _⟩
 | v :: r, o, w, ho, h => by
  have h1 := (World.ownsRow.stored h o v).1;rw [List.set_eq_of_length_le (by rw [h.1]; exact ho)] at h1;obtain ⟨h2, g2⟩ := row_setCells r (o + 1) (w.setCell ⟨b, o, none⟩ v) (by omega) h1;exact ⟨h2, (grown_set w b o v).trans g2⟩
theorem zeroCells_ones {z : Array Value} (hz : 0 < z.size) (h1 : ∀ v ∈ z.toList, v.oneCell' = true) (n : Nat) : ∀ v ∈ (Builtin.zeroCells z n).toList, v.oneCell' = true := by
 intro v hv;simp only [Builtin.zeroCells, Array.toList_map, List.mem_map] at hv;obtain ⟨i, _, rfl⟩ := hv;have hlt : i % z.size < z.size := Nat.mod_lt _ hz;refine h1 _ ?_;rw [getElem!_pos z (i % z.size) hlt];exact Array.getElem_mem_toList hlt
theorem clear_row {P : Program} {t e : TypeId} {zv : Value} {z : Nat} (hu : P.underlying t = some (.slice e)) (hzv : ∀ w, (zeroValue e).run P w = .ok zv w) (hzc : zv.cells.size = z) (hz : 0 < z) (hone : ∀ v ∈ zv.cells.toList, v.oneCell' = true)
  (w : World) (B b n c k cc : Nat) (l : List Value) (h : w.ownsRow B e z (.slice (some ⟨b, 0, none⟩) n c) n l) (hk : n + k <= c) :
  ∃ w', (∀ ty, (Builtin.clear_ #[t] ty #[.slice (some ⟨b, n * z, none⟩) k cc]).run P w = .ok (.tuple #[]) w') /\ w'.ownsRow B e z (.slice (some ⟨b, 0, none⟩) n c) n l /\ w.grownBy w' (some b) := by
 rcases Nat.eq_zero_or_pos k with rfl | hpos
 ·exact ⟨w, fun ty => by simp [Builtin.clear_, run_underlying hu], h, World.grownBy.refl w _⟩
 ·obtain ⟨zs, hzs⟩ : ∃ zs, zs = (Builtin.zeroCells zv.cells k).toList := ⟨_, rfl⟩;have hlen : zs.length = k * z := by
   rw [hzs, Array.length_toList, size_zeroCells, hzc]
  obtain ⟨h2, g2⟩ := row_setCells zs (n * z) w (Nat.le_refl _) h;refine ⟨_, fun ty => ?_, h2, g2⟩;rcases h.2 with ⟨e, _⟩ | ⟨g, cap, cur, e, h1, h2', h3, h4, h5, h6⟩
  ·simp at e
  ·simp only [Value.slice.injEq, Option.some.injEq, Addr.mk.injEq] at e;obtain ⟨⟨rfl, _⟩, _, rfl⟩ := e;have hst := run_storeCells_cells (P := P) b (n * z) zs 0 w (fun j hj => by
     rw [cell_of_row w b _ cur _ (0, 0) h2'];rw [hlen] at hj;have h9 : n * z + k * z <= c * z := by rw [<- Nat.add_mul]; exact Nat.mul_le_mul_right _ hk
     rw [Array.getElem?_eq_getElem (by omega)]
     rfl) (fun j hj => frozen_of_row w b _ cur _ h2') (by rw [hzs]; exact zeroCells_ones (by rw [hzc]; exact hz) hone k)
   simp only [Nat.add_zero] at hst;obtain ⟨m, rfl⟩ : ∃ m, k = m + 1 := ⟨k - 1, by omega⟩;rw [hzs] at hst;rw [hzs];simp [Builtin.clear_, run_underlying hu, hzv, hst]
theorem take_midP {α : Type} (l : List α) (a b : Nat) (news : List α) (ha : a <= l.length) : (l.take a ++ (news ++ l.drop b)).take (a + news.length) = l.take a ++ news := by
 rw [<- List.append_assoc, List.take_left'];rw [List.length_append, List.length_take];omega
theorem step_delete_row {P : Program} {t e : TypeId} {i0 : TypeInfo} {z : Nat} (hu : P.underlying t = some (.slice e)) (hi0 : P.info? e = some i0) (hz1 : i0.size = z)
  {w : World} {ops : Array Oper} {o : Oper} {a : Act} {K : Act -> World -> Prop} {Q : Exit -> Act -> World -> Prop} {E : Prop} (hgd : o.guard = none) (s x : Operand)
  (ho : o.op = .call { callee := .builtin .append, args := #[s, x], argTypes := #[t, t] })
  (B b N c i j : Nat) (l : List Value) (hown : w.ownsRow B e z (.slice (some ⟨b, 0, none⟩) N c) N l) (hone : ∀ v ∈ l, v.oneCell' = true) (hij : i <= j) (hj : j <= N)
  (hs : a.eval s = .slice (some ⟨b, 0, none⟩) i c) (ax : Addr) (cx : Nat) (hx : a.eval x = .slice (some ax) (N - j) cx) (hax : ax = ⟨b, if c = j then 0 else j * z, none⟩)
  (h : ∀ w', w'.ownsRow B e z (.slice (some ⟨b, 0, none⟩) (i + (N - j)) c) (i + (N - j)) (l.take (i * z) ++ l.drop (j * z)) -> w.grownBy w' (some b) -> K (a.put o.dst (.slice (some ⟨b, 0, none⟩) (i + (N - j)) c)) w') : if Region.wanted o (yielded ops a.tmps) = true then Oper.wp P o a w K Q else E := by
 have hw : Region.wanted o (yielded ops a.tmps) = true := by simp [Region.wanted, hgd]
 rw [if_pos hw];subst hz1;have hll := hown.1;rcases hown.2 with ⟨e, _⟩ | ⟨g, cap, cur, e, q1, q2, q3, q4, q5, q6⟩
 ·simp at e
 ·simp only [Value.slice.injEq, Option.some.injEq, Addr.mk.injEq] at e;obtain ⟨⟨rfl, _⟩, _, rfl⟩ := e;have hjz : j * i0.size <= N * i0.size := Nat.mul_le_mul_right _ hj;have hiz : i * i0.size <= j * i0.size := Nat.mul_le_mul_right _ hij;have hcz : N * i0.size <= c * i0.size := Nat.mul_le_mul_right _ q3;have hld : (l.drop (j * i0.size)).length = (N - j) * i0.size := by rw [List.length_drop, hll, Nat.sub_mul]
  have hsm : (N - j) * i0.size = N * i0.size - j * i0.size := Nat.sub_mul _ _ _;have hcell : ∀ k u, (l.drop (j * i0.size))[k]? = some u -> w.cell? (ax.add k) = some u := fun k u hu => by
   have hk : k < (l.drop (j * i0.size)).length := (List.getElem?_eq_some_iff.1 hu).1;by_cases hcj : c = j
   ·have : N - j = 0 := by omega
    rw [this] at hld;omega
   ·rw [hax, if_neg hcj];rw [List.getElem?_drop] at hu;have hc2 := World.ownsRow.cellAt hown (j * i0.size + k) (by omega);have e2 : (⟨b, j * i0.size, none⟩ : Addr).add k = ⟨b, j * i0.size + k, none⟩ := by simp [Addr.add]
    rw [e2, hc2];exact hu
  have hr := run_append_room (P := P) w t o.type _ i0 hu hi0 b i c cur q2 ax (N - j) cx (l.drop (j * i0.size)) hld hcell (fun v hv => hone v (List.mem_of_mem_drop hv)) (by omega) (by rw [hld, Nat.sub_mul, q5]; omega);unfold Oper.wp;simp [execOp, ho, resolve, invoke, builtin, hs, hx, hr, Result.andThen];refine h _ ?_ ⟨rfl, rfl, rfl, by simp [World.setRow], fun k _ hk => setRow_other w b k _ (fun e => hk (by rw [e]))⟩;have hsum : (i + (N - j)) * i0.size = i * i0.size + (l.drop (j * i0.size)).length := by rw [hld, Nat.add_mul]
  refine ⟨by rw [List.length_append, List.length_take, hll, hsum]; omega, .inr ⟨b, c, _, rfl, q1, setRow_heap w b cur _ _ _ q2, by omega, q4, ?_, ?_⟩⟩
  ·simp only [List.size_toArray, List.length_append, List.length_take, List.length_drop, Array.length_toList, q5, hll];omega
  ·have ht := take_midP cur.toList (i * i0.size) (i * i0.size + (l.length - j * i0.size)) (l.drop (j * i0.size)) (by rw [Array.length_toList, q5]; omega);rw [hsum, <- q6, List.take_take, show min (i * i0.size) (N * i0.size) = i * i0.size by omega, q6];exact ht
end Go.Proofs.YtedlibkkeegnaaaGreat
