/- The contract of needle.tailOf: what stands behind Data. Condition: at most 65536 bytes. The contract of needle.headOf: the head of a needle, as an array. No condition but the widths. Arrays of bytes: held against one another, loaded out of a row. No condition. -/
import Derived.Test.YtehgjkckhjggbaaVr7
import Derived.Laws.CopyOwn
import Derived.Deep.RegionLaw
import Derived.Laws.Rows
import Derived.ChangeKeysEq
namespace Go.Proofs.Ytehgjkckhjggbaa
open Go.RowKit
theorem made_bytesN {w : World} {B g n : Nat} (h : w.ownsRow B 5 1 (.slice (some ⟨g, 0, none⟩) n n) n (madeCells (Value.int .u8 0).cells (n * 1)).toList) : Own w B (.slice (some ⟨g, 0, none⟩) n n) (List.replicate n 0) := by
  have e : (madeCells (Value.int .u8 0).cells (n * 1)).toList = List.replicate n (Value.int .u8 0) := by
    rw [Nat.mul_one]; exact toList_madeCells_one (Value.int .u8 0) n
  rw [e] at h
  unfold Own
  simpa using h
def u8s (xs : List Nat) : List Value := xs.map fun x : Nat => Value.int .u8 (x : Int)
theorem u8s_len (xs : List Nat) : (u8s xs).length = xs.length := by simp [u8s]
theorem u8s_one (xs : List Nat) : ∀ v ∈ u8s xs, v.oneCell' = true := fun v hv => by obtain ⟨x, _, rfl⟩ := List.mem_map.1 hv; rfl
/-- The walk stops at a copy. -/
theorem halt_copyN {P : Program} {ops : Array Oper} {Q : Exit → Act → World → Prop} {rest : List Oper} {o : Oper} {a : Act} {w : World} (d s : Operand) (dT sT : TypeId)
    (_ho : o.op = .call { callee := .builtin .copy, args := #[d, s], argTypes := #[dT, sT] }) (h : Halt (wpList P ops Q (o :: rest) a w)) : wpList P ops Q (o :: rest) a w := h.out
/-- A row of the call's own without room behind it is its block. -/
theorem Own.whole {w : World} {B g n : Nat} {xs : List Nat} (h : Own w B (.slice (some ⟨g, 0, none⟩) n n) xs) (hn : xs.length = n) : B ≤ g ∧ w.heap[g]? = some (.cells (u8s xs).toArray 5 (0, 0)) := by
  subst hn
  unfold Own at h
  rcases h.2 with ⟨h1, _⟩ | ⟨g', cap, cur, e, hb, hg, h1, h2, h3, ht⟩
  · cases h1
  · cases e
    refine ⟨hb, ?_⟩
    rw [hg]
    have e1 : cur.toList = u8s xs := by
      have : cur.toList.take (xs.length * 1) = u8s xs := by simpa [u8s] using ht
      rwa [List.take_of_length_le (by rw [Array.length_toList]; omega)] at this
    rw [← e1]
theorem own_whole {w : World} {B g n : Nat} {xs : List Nat} (hb : B ≤ g) (hg : w.heap[g]? = some (.cells (u8s xs).toArray 5 (0, 0))) (hn : xs.length = n) (hm : n ≤ 140737488355328) : Own w B (.slice (some ⟨g, 0, none⟩) n n) xs := by
  subst hn
  unfold Own
  refine ⟨by simp, .inr ⟨g, xs.length, (u8s xs).toArray, rfl, hb, hg, Nat.le_refl _, by unfold maxLen; omega, by simp [u8s], ?_⟩⟩
  show (u8s xs).take (xs.length * 1) = u8s xs
  exact List.take_of_length_le (by rw [u8s_len]; omega)
/-- The cells of bytes that are read, as a copy asks for them. -/
theorem IsB.src {w : World} {A : Option Addr} {n c : Nat} {xs : List Nat} (h : IsB w (.slice A n c) xs) (h0 : 0 < (u8s xs).length) : ∃ ad, A = some ad ∧ ∀ j v, (u8s xs)[j]? = some v → w.cell? (ad.add j) = some v := by
  obtain ⟨b, off, rfl, hc⟩ := h.rd (by intro e; rw [e] at h0; simp [u8s] at h0)
  refine ⟨_, rfl, fun j v hv => ?_⟩
  have hj : j < xs.length := by
    rcases Nat.lt_or_ge j xs.length with h | h
    · exact h
    · simp [u8s, h] at hv
  have := hc j hj
  rw [add_off, this, ← hv]
  simp [u8s, hj]
theorem splice_u8s (L xs : List Nat) (off : Nat) : splice (u8s L) off (u8s xs) = u8s (splice L off xs) := by simp [splice, u8s]
theorem Try.one_u8 : (Try.prog.info? 5).map (·.size) = some 1 := by kernel_rfl
set_option maxHeartbeats 800000 in
theorem tail_any (A : Option Addr) (n c : Nat) (data : List Nat) (w : World) (hA : IsB w (.slice A n c) data) (hn : data.length = n) (hb : ∀ x ∈ data, x < 256) (h : n ≤ 65536) :
    Calls Try.prog 85 #[.slice A n c] w fun e w' => ∃ s, e = .returned s ∧ Own w' w.heap.size s (ndTail data) ∧ Below w.heap.size w w' := by
  obtain ⟨i0, hi, hz0, hz1, hz2⟩ := info_parts Try.info_u8'
  have hg := ndSize_ge n h
  obtain ⟨m, hm⟩ : ∃ m, m = ndSize n := ⟨_, rfl⟩
  rw [← hm] at hg
  have HM := hide hm
  obtain ⟨k, hk⟩ : ∃ k, k = m - 24 - n := ⟨_, rfl⟩
  have hkz : (m : Int) - 24 - (n : Int) = (k : Int) := by omega
  have HK := hide hk
  have h4 : 4 ≤ k ∧ k < 12 := by omega
  have HA := hide hA
  have HN := hide hn
  have HB := hide hb
  clear hA hn hb hm hk
  go_enter Try.func85, Try.ntmps85
  go_wp2_with fail
  refine (ndsize_any _ _ (by omega) (by omega)).mono ?_
  rintro e w1 ⟨rfl, rfl⟩
  rw [Int.toNat_natCast, ← HM.out]
  go_wp2_with (at_make; refine halt ?_)
  refine ⟨?_⟩
  refine wpList_make_full _ rfl (.tmp 10) (.tmp 10) 23 rfl w.heap.size 5 i0 (.int .u8 0) 1 Try.underlying23 hi hz0 hz1 .i64 .i64 k k k rfl rfl rfl rfl (by rw [hz2]; omega) (by unfold maxLen; omega) (Nat.le_refl _) ?_
  intro w2 h2 g2
  have o2 := made_bytesN h2
  have b2 : Below w.heap.size w w2 := (Below.refl _ _).grown g2 (Nat.le_refl _) (by simp)
  have O2 := hide o2
  have K2 := hide b2
  have I2 := hide (HA.out.keep b2)
  clear h2 g2 hi hz0 hz1 hz2 i0 o2 b2
  obtain ⟨g, hg⟩ : ∃ g, g = w.heap.size := ⟨_, rfl⟩
  rw [← hg] at O2 K2 ⊢
  have HG := hide hg
  clear hg
  go_wp2_with fail
  refine (sum_any A n c data _ I2.out.rd HN.out.symm HB.out (by omega)).mono ?_
  rintro e w3 ⟨rfl, rfl⟩
  obtain ⟨t, ht⟩ : ∃ t, t = sumS data := ⟨_, rfl⟩
  have hl : t < 4294967296 := by rw [ht]; unfold sumS; omega
  rw [← ht]
  have HT := hide ht
  clear ht
  go_wp2_with fail
  refine (put32_any _ t rfl _ hl).mono ?_
  rintro e w4 ⟨s4, rfl, o4, k4⟩
  obtain ⟨A4, c4, rfl, i4, l4, m4⟩ := o4.isB.form (n := 4) rfl
  have O3 := hide (O2.out.keep k4)
  have I4 := hide i4
  have K4 := hide (K2.out.trans (k4.mono (by rw [HG.out]; exact K2.out.size)))
  clear o4 i4 k4
  have HW := hide (O3.out.whole (List.length_replicate ..))
  go_wp2_with (with_reducible refine halt_copyN _ _ _ _ rfl ?_)
  refine ⟨?_⟩
  refine wpList_copy_splice rfl (.tmp 12) (.tmp 15) 23 23 rfl 5 Try.underlying23 Try.one_u8 _ _ k k 4 c4 rfl rfl g 0 (u8s (List.replicate k 0)) 5 HW.out.2 (u8s (be32 t)) (by rw [u8s_len, be32_len]; show (4 : Nat) = min 4 k; omega) (fun h => ⟨rfl, I4.out.src h⟩) (by rw [u8s_len, u8s_len, be32_len, List.length_replicate]; omega) (u8s_one _) g w K4.out HW.out.1 ?_
  intro w5 h5 k5
  have e5 : splice (List.replicate k 0) 0 (be32 t) = ndTail data := by
    unfold splice ndTail
    rw [be32_len, ← HT.out, HN.out, ← HM.out]
    simp
    omega
  rw [splice_u8s, e5] at h5
  have O5 := hide (own_whole (n := k) HW.out.1 h5.out (by rw [ndTail_len _ (by rw [HN.out]; exact h), HN.out, ← HM.out, ← HK.out]) (by omega))
  have K5 := hide k5
  clear h5 k5 e5
  go_wp2_with fail
  go_ret
  rw [← HG.out]
  exact ⟨_, rfl, O5.out, K5.out⟩
end Go.Proofs.Ytehgjkckhjggbaa
namespace Go.Proofs.Ytehgjkckhjggbaa
open Go.RowKit
/-- The walk stops at a load of a whole array, and at a store of one. -/
theorem halt_load {P : Program} {ops : Array Oper} {Q : Exit → Act → World → Prop} {rest : List Oper} {o : Oper} {a : Act} {w : World} (ty : TypeId) (x : Operand) (_ho : o.op = .load ty x) (h : Halt (wpList P ops Q (o :: rest) a w)) : wpList P ops Q (o :: rest) a w := h.out
/-- Bytes somewhere in a block of bytes. -/
theorem isB_in {w : World} {g : Nat} {xs : List Nat} {t : TypeId} {fr : Nat × Nat} (hg : w.heap[g]? = some (.cells (u8s xs).toArray t fr)) (off n c : Nat) (h1 : off + n ≤ xs.length) (h2 : n ≤ c) (h3 : c ≤ 9223372036854775807) :
    IsB w (.slice (some ⟨g, off, none⟩) n c) ((xs.drop off).take n) := by
  have hl : ((xs.drop off).take n).length = n := by rw [List.length_take, List.length_drop]; omega
  refine ⟨_, c, by rw [hl], fun _ => ⟨g, off, rfl, fun i hi => ?_⟩, (fun h => by cases h), by omega, h3⟩
  rw [hl] at hi
  rw [cell_of_row w g (off + i) _ t fr hg]
  simp [u8s, hi, show off + i < xs.length by omega]
theorem len24 {xs : List Nat} (h : xs.length = 24) : (u8s xs).toArray.size = 24 := by simp [u8s, h]
theorem Try.info_head : (Try.prog.info? 141).map (·.size) = some 24 := by kernel_rfl
theorem u8s_all (xs : List Nat) : (u8s xs).toArray.all (·.oneCell') = true := by
  rw [Array.all_eq_true]
  intro i hi
  have hi' : i < (u8s xs).length := by simpa using hi
  have := u8s_one xs ((u8s xs)[i]) (List.getElem_mem hi')
  simpa using this
theorem halt_store {P : Program} {ops : Array Oper} {Q : Exit → Act → World → Prop} {rest : List Oper} {o : Oper} {a : Act} {w : World} (ty : TypeId) (x y : Operand) (_ho : o.op = .store ty x y) (h : Halt (wpList P ops Q (o :: rest) a w)) : wpList P ops Q (o :: rest) a w := h.out
/-- What is known behind the first lines: the needle's box, a block for the answer, and the head's. -/
structure Start (w W : World) (b0 b1 b2 key cook : Nat) (v2 : Value) (H : List Nat) : Prop where
  base : b0 = w.heap.size
  one : b1 = b0 + 1
  two : b2 = b0 + 2
  size : W.heap.size = b0 + 3
  key : W.cell? ⟨b0, 0, none⟩ = some (.int .u64 (key : Int))
  cook : W.cell? ⟨b0, 1, none⟩ = some (.int .u32 (cook : Int))
  dead : W.cell? ⟨b0, 2, none⟩ = some v2
  ans : ∃ old : Array Value, old.size = 24 ∧ W.heap[b1]? = some (.cells old 141 (0, 0))
  head : W.heap[b2]? = some (.cells (u8s H).toArray 141 (0, 0))
  below : Below b0 w W
theorem heap_old' (w : World) (o : Obj) (i : Nat) (h : i < w.heap.size) : (w.alloc o).heap[i]? = w.heap[i]? := by
  show (w.heap.push o)[i]? = w.heap[i]?
  rw [Array.getElem?_push, if_neg (Nat.ne_of_lt h)]
theorem start_new (w : World) (key cook : Nat) (v2 v3 : Value) (T1 : TypeId) (old cs : Array Value) (H : List Nat) (ho : old.size = 24) (hc : cs = (u8s H).toArray) :
    Start w (((w.alloc (.cells #[.int .u64 (key : Int), .int .u32 (cook : Int), v2, v3] T1)).alloc (.cells old 141)).alloc (.cells cs 141)) w.heap.size (w.heap.size + 1) (w.heap.size + 1 + 1) key cook v2 H := by
  subst hc
  obtain ⟨o0, h0⟩ : ∃ o, o = Obj.cells #[.int .u64 (key : Int), .int .u32 (cook : Int), v2, v3] T1 := ⟨_, rfl⟩
  have s1 : (w.alloc o0).heap.size = w.heap.size + 1 := by simp
  obtain ⟨o1, h1⟩ : ∃ o, o = Obj.cells old 141 := ⟨_, rfl⟩
  have s2 : ((w.alloc o0).alloc o1).heap.size = w.heap.size + 1 + 1 := by simp
  rw [← h0, ← h1]
  have g0 : ∀ o, (((w.alloc o0).alloc o1).alloc o).heap[w.heap.size]? = some o0 := fun o => by
    rw [heap_old' _ _ _ (by omega), heap_old' _ _ _ (by omega), heap_alloc_new]
  refine ⟨rfl, rfl, rfl, by simp, ?_, ?_, ?_, ⟨old, ho, ?_⟩, ?_, ?_⟩
  · rw [cell_of_row _ _ _ _ _ _ (by rw [g0, h0])]; rfl
  · rw [cell_of_row _ _ _ _ _ _ (by rw [g0, h0])]; rfl
  · rw [cell_of_row _ _ _ _ _ _ (by rw [g0, h0])]; rfl
  · rw [heap_old' _ _ _ (by omega), ← s1, heap_alloc_new, h1]
  · rw [← s2, heap_alloc_new]
  · exact ((below_alloc w o0).trans ((below_alloc _ o1).mono (by omega))).trans ((below_alloc _ _).mono (by omega))
theorem Start.turned {w W W' : World} {b0 b1 b2 key cook : Nat} {v2 : Value} {H H' : List Nat} (h : Start w W b0 b1 b2 key cook v2 H) (k : Below b2 W W') (hs : W'.heap.size = W.heap.size) (hh : W'.heap[b2]? = some (.cells (u8s H').toArray 141 (0, 0))) : Start w W' b0 b1 b2 key cook v2 H' := by
  obtain ⟨h1, h2, h3, h4, h5, h6, h7, ⟨old, ho, h8⟩, h9, h10⟩ := h
  exact ⟨h1, h2, h3, by rw [hs, h4], (k.cell (p := ⟨b0, 0, none⟩) (by show b0 < b2; omega)).trans h5, (k.cell (p := ⟨b0, 1, none⟩) (by show b0 < b2; omega)).trans h6, (k.cell (p := ⟨b0, 2, none⟩) (by show b0 < b2; omega)).trans h7, ⟨old, ho, (k.block b1 (by omega)).trans h8⟩, hh, h10.trans (k.mono (by omega))⟩
theorem Start.row {w W : World} {b0 b1 b2 key cook : Nat} {v2 : Value} {H H' : List Nat} (h : Start w W b0 b1 b2 key cook v2 H) (cs : Array Value) (hc : cs = (u8s H').toArray) : Start w (W.setRow b2 cs) b0 b1 b2 key cook v2 H' := by
  subst hc
  exact h.turned (below_setRow (Below.refl _ _) (Nat.le_refl _) _) (by simp [World.setRow]) (setRow_heap W b2 _ _ 141 _ h.head)
theorem Start.one_ {w W : World} {b0 b1 b2 key cook : Nat} {v2 : Value} {H : List Nat} (h : Start w W b0 b1 b2 key cook v2 H) (i x : Nat) : Start w (W.setCell ⟨b2, i, none⟩ (.int .u8 (x : Int))) b0 b1 b2 key cook v2 (H.set i x) := by
  refine h.turned (by have h0 : Below b2 W W := Below.refl _ _; have hle : b2 ≤ (⟨b2, i, none⟩ : Addr).block := Nat.le_refl b2; exact h0.setCell hle _) (by simp) ?_
  rw [heap_setCell_same W b2 i _ _ _ h.head]
  congr 2
  apply Array.toList_inj.1
  rw [Array.toList_setIfInBounds]
  simp [u8s, List.map_set]
def startH (d : Bool) : List Nat := [110, 100, dbit d, 0] ++ List.replicate 20 0
theorem startH_true : (startH false).set 2 1 = startH true := rfl
theorem splice_len (L xs : List Nat) (off : Nat) (h : off + xs.length ≤ L.length) : (splice L off xs).length = L.length := length_splice L off xs h
theorem head_splices (key cook : Nat) (d : Bool) (len t : Nat) : splice (splice (splice (splice (startH d) 4 (be64 key)) 12 (be32 cook)) 16 (be32 len)) 20 (be32 t) = head20 key cook d len ++ be32 t := rfl
theorem head_20 (key cook : Nat) (d : Bool) (len : Nat) : ((splice (splice (splice (startH d) 4 (be64 key)) 12 (be32 cook)) 16 (be32 len)).drop 0).take 20 = head20 key cook d len := rfl
set_option maxRecDepth 100000 in
set_option maxHeartbeats 3200000 in
theorem headOf_any (key cook : Nat) (d : Bool) (A : Option Addr) (n c : Nat) (len : Nat) (w : World) (hk : key < 18446744073709551616) (hc : cook < 4294967296) (hl : len < 4294967296) :
    Calls Try.prog 83 #[.agg #[.int .u64 (key : Int), .int .u32 (cook : Int), .bool d, .slice A n c], .int .i64 (len : Int)] w fun e w' => e = .returned (.agg (u8s (head24 key cook d len)).toArray) ∧ Below w.heap.size w w' := by
  obtain ⟨R, hR⟩ : ∃ R, R = head24 key cook d len := ⟨_, rfl⟩
  rw [← hR]
  have HR := hide hR
  clear hR
  have hwl : IntKind.u32.wrap (len : Int) = (len : Int) := by rw [IntKind.wrap_u32]; omega
  go_enter Try.func83, Try.ntmps83
  go_wp2_with (with_reducible refine halt_store 141 _ _ rfl ?_)
  refine ⟨?_⟩
  have st0 := start_new w key cook (.bool d) (.slice A n c) 35 #[.int .u8 0, .int .u8 0, .int .u8 0, .int .u8 0, .int .u8 0, .int .u8 0, .int .u8 0, .int .u8 0, .int .u8 0, .int .u8 0, .int .u8 0, .int .u8 0, .int .u8 0, .int .u8 0, .int .u8 0, .int .u8 0, .int .u8 0, .int .u8 0, .int .u8 0, .int .u8 0, .int .u8 0, .int .u8 0, .int .u8 0, .int .u8 0] #[.int .u8 0, .int .u8 0, .int .u8 0, .int .u8 0, .int .u8 0, .int .u8 0, .int .u8 0, .int .u8 0, .int .u8 0, .int .u8 0, .int .u8 0, .int .u8 0, .int .u8 0, .int .u8 0, .int .u8 0, .int .u8 0, .int .u8 0, .int .u8 0, .int .u8 0, .int .u8 0, .int .u8 0, .int .u8 0, .int .u8 0, .int .u8 0] (List.replicate 24 0) rfl rfl
  generalize (((w.alloc (.cells #[.int .u64 (key : Int), .int .u32 (cook : Int), .bool d, .slice A n c] 35)).alloc (.cells #[.int .u8 0, .int .u8 0, .int .u8 0, .int .u8 0, .int .u8 0, .int .u8 0, .int .u8 0, .int .u8 0, .int .u8 0, .int .u8 0, .int .u8 0, .int .u8 0, .int .u8 0, .int .u8 0, .int .u8 0, .int .u8 0, .int .u8 0, .int .u8 0, .int .u8 0, .int .u8 0, .int .u8 0, .int .u8 0, .int .u8 0, .int .u8 0] 141)).alloc (.cells #[.int .u8 0, .int .u8 0, .int .u8 0, .int .u8 0, .int .u8 0, .int .u8 0, .int .u8 0, .int .u8 0, .int .u8 0, .int .u8 0, .int .u8 0, .int .u8 0, .int .u8 0, .int .u8 0, .int .u8 0, .int .u8 0, .int .u8 0, .int .u8 0, .int .u8 0, .int .u8 0, .int .u8 0, .int .u8 0, .int .u8 0, .int .u8 0] 141)) = W0 at st0 ⊢
  obtain ⟨b2, hb2⟩ : ∃ b2, b2 = w.heap.size + 1 + 1 := ⟨_, rfl⟩
  rw [← hb2] at st0 ⊢
  obtain ⟨b1, hb1⟩ : ∃ b1, b1 = w.heap.size + 1 := ⟨_, rfl⟩
  rw [← hb1] at st0 ⊢
  obtain ⟨b0, hb0⟩ : ∃ b0, b0 = w.heap.size := ⟨_, rfl⟩
  rw [← hb0] at st0 ⊢
  have HB := hide (And.intro hb0 (And.intro hb1 hb2))
  clear hb0 hb1 hb2
  refine wpList_store_row rfl 141 (.tmp 5) (.tmp 6) rfl b2 #[.int .u8 110, .int .u8 100, .int .u8 0, .int .u8 0, .int .u8 0, .int .u8 0, .int .u8 0, .int .u8 0, .int .u8 0, .int .u8 0, .int .u8 0, .int .u8 0, .int .u8 0, .int .u8 0, .int .u8 0, .int .u8 0, .int .u8 0, .int .u8 0, .int .u8 0, .int .u8 0, .int .u8 0, .int .u8 0, .int .u8 0, .int .u8 0] rfl rfl 141 (u8s (List.replicate 24 0)).toArray st0.head (by rw [Try.info_head]; rfl) rfl (by exact u8s_all (startH false)) ?_
  have st1 := st0.row (H' := startH false) #[.int .u8 110, .int .u8 100, .int .u8 0, .int .u8 0, .int .u8 0, .int .u8 0, .int .u8 0, .int .u8 0, .int .u8 0, .int .u8 0, .int .u8 0, .int .u8 0, .int .u8 0, .int .u8 0, .int .u8 0, .int .u8 0, .int .u8 0, .int .u8 0, .int .u8 0, .int .u8 0, .int .u8 0, .int .u8 0, .int .u8 0, .int .u8 0] rfl
  generalize W0.setRow b2 #[.int .u8 110, .int .u8 100, .int .u8 0, .int .u8 0, .int .u8 0, .int .u8 0, .int .u8 0, .int .u8 0, .int .u8 0, .int .u8 0, .int .u8 0, .int .u8 0, .int .u8 0, .int .u8 0, .int .u8 0, .int .u8 0, .int .u8 0, .int .u8 0, .int .u8 0, .int .u8 0, .int .u8 0, .int .u8 0, .int .u8 0, .int .u8 0] = W1 at st1 ⊢
  clear st0
  have dd := st1.dead
  have f2 : W1.frozen? ⟨b2, 2, none⟩ = false := frozen_of_row W1 b2 2 _ _ st1.head
  have g2 : W1.cell? ⟨b2, 2, none⟩ = some (.int .u8 0) := by rw [cell_of_row W1 b2 2 _ _ _ st1.head]; rfl
  have ST1 := hide st1
  clear st1
  rcases d
  · go_wp2_with fail
    have st := ST1.out
    obtain ⟨W, hW⟩ : ∃ W, W = W1 := ⟨_, rfl⟩
    rw [← hW] at st ⊢
    clear hW dd f2 g2
    have ST := hide st
    have c0 := st.key
    have c1 := st.cook
    have C0 := hide c0
    have C1 := hide c1
    have lt0 : b0 < b2 := by rw [st.two]; omega
    have lt2 : b2 < W.heap.size := by rw [st.size, st.two]; omega
    have KW : Below b2 W W := Below.refl _ _
    have HW := st.head
    have LT := hide (And.intro lt0 lt2)
    have LT0b := hide lt2
    have LT0 := hide (Nat.le_of_lt lt2)
    clear st lt0 lt2
    obtain ⟨H0, hH0⟩ : ∃ H, H = startH false := ⟨_, rfl⟩
    rw [← hH0] at HW
    have H0L : Hid (H0.length = 24) := hide (by rw [hH0]; rfl)
    have HH0 := hide hH0
    clear hH0
    have HW0 := hide HW
    have KW0 := hide KW
    clear HW KW
    go_region_law (first
      | (refine step_copy_splice rfl (.tmp 10) (.tmp 13) 23 23 rfl 5 Try.underlying23 Try.one_u8 (some ⟨b2, 4, none⟩) A1 20 20 8 c1' rfl rfl b2 4 (u8s H0) 141 BL1.out (u8s (be64 key)) (by rw [u8s_len]; rfl) (fun h => ⟨rfl, I1.out.src h⟩) (by rw [u8s_len, u8s_len, H0L.out, be64_len]; decide) (u8s_one _) b2 W KK1.out (Nat.le_refl _) ?_; intro v1 h2 k2)
      | (go_simp; go_at_call 113; refine (put64_any key _ hk).mono ?_; rintro e w1 ⟨s1, rfl, o1, k1⟩; obtain ⟨A1, c1', rfl, i1, l1, m1⟩ := o1.isB.form (n := 8) rfl; have I1 := hide i1; have KK1 : Hid (Below b2 W w1) := hide (by refine Below.trans ?_ (k1.mono LT0.out); exact ⟨KW0.out.os, KW0.out.tape, KW0.out.output, KW0.out.size, KW0.out.block⟩); have BL1 : Hid (w1.heap[b2]? = some (.cells (u8s H0).toArray 141 (0, 0))) := hide ((k1.block b2 LT0b.out).trans HW0.out); clear o1 i1 k1))
    rw [splice_u8s] at h2
    obtain ⟨H1, hH1⟩ : ∃ H, H = splice H0 4 (be64 key) := ⟨_, rfl⟩
    rw [← hH1] at h2
    have H1L : Hid (H1.length = 24) := hide (by rw [hH1, splice_len _ _ _ (by rw [H0L.out, be64_len]; decide)]; exact H0L.out)
    have HH1 := hide hH1
    have HW1 := hide h2.out
    have KW1 := hide k2
    have LT1b : Hid (b2 < v1.heap.size) := hide (heap_lt h2.out)
    have LT1 : Hid (b2 ≤ v1.heap.size) := hide (Nat.le_of_lt (heap_lt h2.out))
    have c0 := (k2.cell (p := ⟨b0, 0, none⟩) LT.out.1).trans C0.out
    have c1 := (k2.cell (p := ⟨b0, 1, none⟩) LT.out.1).trans C1.out
    clear h2 k2 hH1 BL1 KK1 I1
    go_wp2_with fail
    go_region_law (first
      | (refine step_copy_splice rfl (.tmp 15) (.tmp 18) 23 23 rfl 5 Try.underlying23 Try.one_u8 (some ⟨b2, 12, none⟩) A1 12 12 4 c1' rfl rfl b2 12 (u8s H1) 141 BL1.out (u8s (be32 cook)) (by rw [u8s_len]; rfl) (fun h => ⟨rfl, I1.out.src h⟩) (by rw [u8s_len, u8s_len, H1L.out, be32_len]; decide) (u8s_one _) b2 W KK1.out (Nat.le_refl _) ?_; intro v2 h2 k2)
      | (go_simp; go_at_call 79; refine (put32_any _ cook rfl _ hc).mono ?_; rintro e w1 ⟨s1, rfl, o1, k1⟩; obtain ⟨A1, c1', rfl, i1, l1, m1⟩ := o1.isB.form (n := 4) rfl; have I1 := hide i1; have KK1 : Hid (Below b2 W w1) := hide (by refine Below.trans ?_ (k1.mono LT1.out); exact ⟨KW1.out.os, KW1.out.tape, KW1.out.output, KW1.out.size, KW1.out.block⟩); have BL1 : Hid (w1.heap[b2]? = some (.cells (u8s H1).toArray 141 (0, 0))) := hide ((k1.block b2 LT1b.out).trans HW1.out); clear o1 i1 k1))
    rw [splice_u8s] at h2
    obtain ⟨H2, hH2⟩ : ∃ H, H = splice H1 12 (be32 cook) := ⟨_, rfl⟩
    rw [← hH2] at h2
    have H2L : Hid (H2.length = 24) := hide (by rw [hH2, splice_len _ _ _ (by rw [H1L.out, be32_len]; decide)]; exact H1L.out)
    have HH2 := hide hH2
    have HW2 := hide h2.out
    have KW2 := hide k2
    have LT2b : Hid (b2 < v2.heap.size) := hide (heap_lt h2.out)
    have LT2 : Hid (b2 ≤ v2.heap.size) := hide (Nat.le_of_lt (heap_lt h2.out))
    have c0 := (k2.cell (p := ⟨b0, 0, none⟩) LT.out.1).trans C0.out
    have c1 := (k2.cell (p := ⟨b0, 1, none⟩) LT.out.1).trans C1.out
    clear h2 k2 hH2 BL1 KK1 I1
    go_wp2_with fail
    go_region_law (first
      | (refine step_copy_splice rfl (.tmp 20) (.tmp 23) 23 23 rfl 5 Try.underlying23 Try.one_u8 (some ⟨b2, 16, none⟩) A1 8 8 4 c1' rfl rfl b2 16 (u8s H2) 141 BL1.out (u8s (be32 len)) (by rw [u8s_len]; rfl) (fun h => ⟨rfl, I1.out.src h⟩) (by rw [u8s_len, u8s_len, H2L.out, be32_len]; decide) (u8s_one _) b2 W KK1.out (Nat.le_refl _) ?_; intro v3 h2 k2)
      | (go_simp; go_at_call 79; refine (put32_any _ len (by first | rfl | exact hwl) _ hl).mono ?_; rintro e w1 ⟨s1, rfl, o1, k1⟩; obtain ⟨A1, c1', rfl, i1, l1, m1⟩ := o1.isB.form (n := 4) rfl; have I1 := hide i1; have KK1 : Hid (Below b2 W w1) := hide (by refine Below.trans ?_ (k1.mono LT2.out); exact ⟨KW2.out.os, KW2.out.tape, KW2.out.output, KW2.out.size, KW2.out.block⟩); have BL1 : Hid (w1.heap[b2]? = some (.cells (u8s H2).toArray 141 (0, 0))) := hide ((k1.block b2 LT2b.out).trans HW2.out); clear o1 i1 k1))
    rw [splice_u8s] at h2
    obtain ⟨H3, hH3⟩ : ∃ H, H = splice H2 16 (be32 len) := ⟨_, rfl⟩
    rw [← hH3] at h2
    have H3L : Hid (H3.length = 24) := hide (by rw [hH3, splice_len _ _ _ (by rw [H2L.out, be32_len]; decide)]; exact H2L.out)
    have HH3 := hide hH3
    have HW3 := hide h2.out
    have KW3 := hide k2
    have LT3b : Hid (b2 < v3.heap.size) := hide (heap_lt h2.out)
    have LT3 : Hid (b2 ≤ v3.heap.size) := hide (Nat.le_of_lt (heap_lt h2.out))
    have c0 := (k2.cell (p := ⟨b0, 0, none⟩) LT.out.1).trans C0.out
    have c1 := (k2.cell (p := ⟨b0, 1, none⟩) LT.out.1).trans C1.out
    clear h2 k2 hH3 BL1 KK1 I1
    obtain ⟨P, hP⟩ : ∃ P, P = (H3.drop 0).take 20 := ⟨_, rfl⟩
    have hPL : P.length = 20 := by rw [hP, List.length_take, List.length_drop, H3L.out]; rfl
    have hPe : P = head20 key cook false len := by rw [hP, HH3.out, HH2.out, HH1.out, HH0.out, head_20]
    have IP : Hid (IsB v3 (.slice (some ⟨b2, 0, none⟩) 20 24) P) := hide (by rw [hP]; exact isB_in HW3.out 0 20 24 (by rw [H3L.out]; decide) (by decide) (by decide))
    have PB : Hid (∀ x ∈ P, x < 256) := hide (by rw [hPe]; exact head20_byte _ _ _ _)
    obtain ⟨t, ht⟩ : ∃ t, t = sumS P := ⟨_, rfl⟩
    have htl : t < 4294967296 := by rw [ht]; unfold sumS; omega
    have PE := hide (And.intro hPL (And.intro hPe ht))
    clear hP hPL hPe ht
    go_wp2_with fail
    go_region_law (first
      | (refine step_copy_splice rfl (.tmp 25) (.tmp 28) 23 23 rfl 5 Try.underlying23 Try.one_u8 (some ⟨b2, 20, none⟩) A1 4 4 4 c1' rfl rfl b2 20 (u8s H3) 141 BL1.out (u8s (be32 t)) (by rw [u8s_len]; rfl) (fun h => ⟨rfl, I1.out.src h⟩) (by rw [u8s_len, u8s_len, H3L.out, be32_len]; decide) (u8s_one _) b2 W KK1.out (Nat.le_refl _) ?_; intro v4 h2 k2)
      | (go_simp; go_at_call 107; refine (sum_any _ 20 _ P _ (by exact IP.out.rd) PE.out.1.symm PB.out (by decide)).mono ?_; rintro e wq ⟨rfl, rfl⟩; rw [← PE.out.2.2])
      | (go_simp; go_at_call 79; refine (put32_any _ t rfl _ htl).mono ?_; rintro e w1 ⟨s1, rfl, o1, k1⟩; obtain ⟨A1, c1', rfl, i1, l1, m1⟩ := o1.isB.form (n := 4) rfl; have I1 := hide i1; have KK1 : Hid (Below b2 W w1) := hide (by refine Below.trans ?_ (k1.mono LT3.out); exact ⟨KW3.out.os, KW3.out.tape, KW3.out.output, KW3.out.size, KW3.out.block⟩); have BL1 : Hid (w1.heap[b2]? = some (.cells (u8s H3).toArray 141 (0, 0))) := hide ((k1.block b2 LT3b.out).trans HW3.out); clear o1 i1 k1))
    rw [splice_u8s] at h2
    obtain ⟨H4, hH4⟩ : ∃ H, H = splice H3 20 (be32 t) := ⟨_, rfl⟩
    rw [← hH4] at h2
    have H4L : Hid (H4.length = 24) := hide (by rw [hH4, splice_len _ _ _ (by rw [H3L.out, be32_len]; decide)]; exact H3L.out)
    have HH4 := hide hH4
    have HW4 := hide h2.out
    have KW4 := hide k2
    have LT4b : Hid (b2 < v4.heap.size) := hide (heap_lt h2.out)
    have LT4 : Hid (b2 ≤ v4.heap.size) := hide (Nat.le_of_lt (heap_lt h2.out))
    have c0 := (k2.cell (p := ⟨b0, 0, none⟩) LT.out.1).trans C0.out
    have c1 := (k2.cell (p := ⟨b0, 1, none⟩) LT.out.1).trans C1.out
    clear h2 k2 hH4 BL1 KK1 I1
    obtain ⟨old, ho, ha⟩ := ST.out.ans
    have lt1 : b1 < b2 := by rw [ST.out.one, ST.out.two]; omega
    have HA : Hid (v4.heap[b1]? = some (.cells old 141 (0, 0))) := hide ((KW4.out.block b1 lt1).trans ha)
    have HR4 : Hid (H4 = R) := hide (by rw [HH4.out, HH3.out, HH2.out, HH1.out, HH0.out, head_splices, HR.out, PE.out.2.2, PE.out.2.1]; rfl)
    have OS := hide (And.intro ho lt1)
    clear ho ha lt1 c0 c1
    go_wp2_with (with_reducible refine halt_load 141 _ rfl ?_)
    refine ⟨?_⟩
    refine wpList_load_row rfl 141 (.tmp 5) rfl b2 rfl 141 (u8s H4).toArray (0, 0) _ HW4.out Try.underlying141 rfl (by rw [Try.info_head, len24 H4L.out]) ?_
    rw [HR4.out]
    refine wpList_store_row rfl 141 (.tmp 4) (.tmp 30) rfl b1 (u8s R).toArray rfl rfl 141 old HA.out (by rw [Try.info_head, len24 (by rw [← HR4.out]; exact H4L.out)]) (by rw [OS.out.1, len24 (by rw [← HR4.out]; exact H4L.out)]) (u8s_all _) ?_
    have hrow := setRow_heap v4 b1 _ (u8s R).toArray 141 _ HA.out
    have hbel : Below b0 w (v4.setRow b1 (u8s R).toArray) := below_setRow (ST.out.below.trans (KW4.out.mono (Nat.le_of_lt LT.out.1))) (by rw [ST.out.one]; omega) _
    obtain ⟨Y, hY⟩ : ∃ Y, Y = v4.setRow b1 (u8s R).toArray := ⟨_, rfl⟩
    rw [← hY] at hrow hbel ⊢
    have HRW := hide hrow
    have HBL := hide hbel
    clear hrow hbel hY
    go_wp2_with fail
    refine bodyPost_ret (v := .agg (u8s R).toArray) (results_cell_row rfl _ _ b1 141 _ (0, 0) _ rfl HRW.out Try.underlying141 rfl (by rw [Try.info_head, len24 (by rw [← HR4.out]; exact H4L.out)])) rfl ⟨rfl, by rw [← HB.out.1]; exact HBL.out⟩
  · go_wp2_with fail
    have st := ST1.out.one_ 2 1
    rw [startH_true] at st
    generalize hW : W1.setCell ⟨b2, 2, none⟩ (.int .u8 ((1 : Nat) : Int)) = W at st
    clear hW dd f2 g2
    have ST := hide st
    have c0 := st.key
    have c1 := st.cook
    have C0 := hide c0
    have C1 := hide c1
    have lt0 : b0 < b2 := by rw [st.two]; omega
    have lt2 : b2 < W.heap.size := by rw [st.size, st.two]; omega
    have KW : Below b2 W W := Below.refl _ _
    have HW := st.head
    have LT := hide (And.intro lt0 lt2)
    have LT0b := hide lt2
    have LT0 := hide (Nat.le_of_lt lt2)
    clear st lt0 lt2
    obtain ⟨H0, hH0⟩ : ∃ H, H = startH true := ⟨_, rfl⟩
    rw [← hH0] at HW
    have H0L : Hid (H0.length = 24) := hide (by rw [hH0]; rfl)
    have HH0 := hide hH0
    clear hH0
    have HW0 := hide HW
    have KW0 := hide KW
    clear HW KW
    go_region_law (first
      | (refine step_copy_splice rfl (.tmp 10) (.tmp 13) 23 23 rfl 5 Try.underlying23 Try.one_u8 (some ⟨b2, 4, none⟩) A1 20 20 8 c1' rfl rfl b2 4 (u8s H0) 141 BL1.out (u8s (be64 key)) (by rw [u8s_len]; rfl) (fun h => ⟨rfl, I1.out.src h⟩) (by rw [u8s_len, u8s_len, H0L.out, be64_len]; decide) (u8s_one _) b2 W KK1.out (Nat.le_refl _) ?_; intro v1 h2 k2)
      | (go_simp; go_at_call 113; refine (put64_any key _ hk).mono ?_; rintro e w1 ⟨s1, rfl, o1, k1⟩; obtain ⟨A1, c1', rfl, i1, l1, m1⟩ := o1.isB.form (n := 8) rfl; have I1 := hide i1; have KK1 : Hid (Below b2 W w1) := hide (by refine Below.trans ?_ (k1.mono LT0.out); exact ⟨KW0.out.os, KW0.out.tape, KW0.out.output, KW0.out.size, KW0.out.block⟩); have BL1 : Hid (w1.heap[b2]? = some (.cells (u8s H0).toArray 141 (0, 0))) := hide ((k1.block b2 LT0b.out).trans HW0.out); clear o1 i1 k1))
    rw [splice_u8s] at h2
    obtain ⟨H1, hH1⟩ : ∃ H, H = splice H0 4 (be64 key) := ⟨_, rfl⟩
    rw [← hH1] at h2
    have H1L : Hid (H1.length = 24) := hide (by rw [hH1, splice_len _ _ _ (by rw [H0L.out, be64_len]; decide)]; exact H0L.out)
    have HH1 := hide hH1
    have HW1 := hide h2.out
    have KW1 := hide k2
    have LT1b : Hid (b2 < v1.heap.size) := hide (heap_lt h2.out)
    have LT1 : Hid (b2 ≤ v1.heap.size) := hide (Nat.le_of_lt (heap_lt h2.out))
    have c0 := (k2.cell (p := ⟨b0, 0, none⟩) LT.out.1).trans C0.out
    have c1 := (k2.cell (p := ⟨b0, 1, none⟩) LT.out.1).trans C1.out
    clear h2 k2 hH1 BL1 KK1 I1
    go_wp2_with fail
    go_region_law (first
      | (refine step_copy_splice rfl (.tmp 15) (.tmp 18) 23 23 rfl 5 Try.underlying23 Try.one_u8 (some ⟨b2, 12, none⟩) A1 12 12 4 c1' rfl rfl b2 12 (u8s H1) 141 BL1.out (u8s (be32 cook)) (by rw [u8s_len]; rfl) (fun h => ⟨rfl, I1.out.src h⟩) (by rw [u8s_len, u8s_len, H1L.out, be32_len]; decide) (u8s_one _) b2 W KK1.out (Nat.le_refl _) ?_; intro v2 h2 k2)
      | (go_simp; go_at_call 79; refine (put32_any _ cook rfl _ hc).mono ?_; rintro e w1 ⟨s1, rfl, o1, k1⟩; obtain ⟨A1, c1', rfl, i1, l1, m1⟩ := o1.isB.form (n := 4) rfl; have I1 := hide i1; have KK1 : Hid (Below b2 W w1) := hide (by refine Below.trans ?_ (k1.mono LT1.out); exact ⟨KW1.out.os, KW1.out.tape, KW1.out.output, KW1.out.size, KW1.out.block⟩); have BL1 : Hid (w1.heap[b2]? = some (.cells (u8s H1).toArray 141 (0, 0))) := hide ((k1.block b2 LT1b.out).trans HW1.out); clear o1 i1 k1))
    rw [splice_u8s] at h2
    obtain ⟨H2, hH2⟩ : ∃ H, H = splice H1 12 (be32 cook) := ⟨_, rfl⟩
    rw [← hH2] at h2
    have H2L : Hid (H2.length = 24) := hide (by rw [hH2, splice_len _ _ _ (by rw [H1L.out, be32_len]; decide)]; exact H1L.out)
    have HH2 := hide hH2
    have HW2 := hide h2.out
    have KW2 := hide k2
    have LT2b : Hid (b2 < v2.heap.size) := hide (heap_lt h2.out)
    have LT2 : Hid (b2 ≤ v2.heap.size) := hide (Nat.le_of_lt (heap_lt h2.out))
    have c0 := (k2.cell (p := ⟨b0, 0, none⟩) LT.out.1).trans C0.out
    have c1 := (k2.cell (p := ⟨b0, 1, none⟩) LT.out.1).trans C1.out
    clear h2 k2 hH2 BL1 KK1 I1
    go_wp2_with fail
    go_region_law (first
      | (refine step_copy_splice rfl (.tmp 20) (.tmp 23) 23 23 rfl 5 Try.underlying23 Try.one_u8 (some ⟨b2, 16, none⟩) A1 8 8 4 c1' rfl rfl b2 16 (u8s H2) 141 BL1.out (u8s (be32 len)) (by rw [u8s_len]; rfl) (fun h => ⟨rfl, I1.out.src h⟩) (by rw [u8s_len, u8s_len, H2L.out, be32_len]; decide) (u8s_one _) b2 W KK1.out (Nat.le_refl _) ?_; intro v3 h2 k2)
      | (go_simp; go_at_call 79; refine (put32_any _ len (by first | rfl | exact hwl) _ hl).mono ?_; rintro e w1 ⟨s1, rfl, o1, k1⟩; obtain ⟨A1, c1', rfl, i1, l1, m1⟩ := o1.isB.form (n := 4) rfl; have I1 := hide i1; have KK1 : Hid (Below b2 W w1) := hide (by refine Below.trans ?_ (k1.mono LT2.out); exact ⟨KW2.out.os, KW2.out.tape, KW2.out.output, KW2.out.size, KW2.out.block⟩); have BL1 : Hid (w1.heap[b2]? = some (.cells (u8s H2).toArray 141 (0, 0))) := hide ((k1.block b2 LT2b.out).trans HW2.out); clear o1 i1 k1))
    rw [splice_u8s] at h2
    obtain ⟨H3, hH3⟩ : ∃ H, H = splice H2 16 (be32 len) := ⟨_, rfl⟩
    rw [← hH3] at h2
    have H3L : Hid (H3.length = 24) := hide (by rw [hH3, splice_len _ _ _ (by rw [H2L.out, be32_len]; decide)]; exact H2L.out)
    have HH3 := hide hH3
    have HW3 := hide h2.out
    have KW3 := hide k2
    have LT3b : Hid (b2 < v3.heap.size) := hide (heap_lt h2.out)
    have LT3 : Hid (b2 ≤ v3.heap.size) := hide (Nat.le_of_lt (heap_lt h2.out))
    have c0 := (k2.cell (p := ⟨b0, 0, none⟩) LT.out.1).trans C0.out
    have c1 := (k2.cell (p := ⟨b0, 1, none⟩) LT.out.1).trans C1.out
    clear h2 k2 hH3 BL1 KK1 I1
    obtain ⟨P, hP⟩ : ∃ P, P = (H3.drop 0).take 20 := ⟨_, rfl⟩
    have hPL : P.length = 20 := by rw [hP, List.length_take, List.length_drop, H3L.out]; rfl
    have hPe : P = head20 key cook true len := by rw [hP, HH3.out, HH2.out, HH1.out, HH0.out, head_20]
    have IP : Hid (IsB v3 (.slice (some ⟨b2, 0, none⟩) 20 24) P) := hide (by rw [hP]; exact isB_in HW3.out 0 20 24 (by rw [H3L.out]; decide) (by decide) (by decide))
    have PB : Hid (∀ x ∈ P, x < 256) := hide (by rw [hPe]; exact head20_byte _ _ _ _)
    obtain ⟨t, ht⟩ : ∃ t, t = sumS P := ⟨_, rfl⟩
    have htl : t < 4294967296 := by rw [ht]; unfold sumS; omega
    have PE := hide (And.intro hPL (And.intro hPe ht))
    clear hP hPL hPe ht
    go_wp2_with fail
    go_region_law (first
      | (refine step_copy_splice rfl (.tmp 25) (.tmp 28) 23 23 rfl 5 Try.underlying23 Try.one_u8 (some ⟨b2, 20, none⟩) A1 4 4 4 c1' rfl rfl b2 20 (u8s H3) 141 BL1.out (u8s (be32 t)) (by rw [u8s_len]; rfl) (fun h => ⟨rfl, I1.out.src h⟩) (by rw [u8s_len, u8s_len, H3L.out, be32_len]; decide) (u8s_one _) b2 W KK1.out (Nat.le_refl _) ?_; intro v4 h2 k2)
      | (go_simp; go_at_call 107; refine (sum_any _ 20 _ P _ (by exact IP.out.rd) PE.out.1.symm PB.out (by decide)).mono ?_; rintro e wq ⟨rfl, rfl⟩; rw [← PE.out.2.2])
      | (go_simp; go_at_call 79; refine (put32_any _ t rfl _ htl).mono ?_; rintro e w1 ⟨s1, rfl, o1, k1⟩; obtain ⟨A1, c1', rfl, i1, l1, m1⟩ := o1.isB.form (n := 4) rfl; have I1 := hide i1; have KK1 : Hid (Below b2 W w1) := hide (by refine Below.trans ?_ (k1.mono LT3.out); exact ⟨KW3.out.os, KW3.out.tape, KW3.out.output, KW3.out.size, KW3.out.block⟩); have BL1 : Hid (w1.heap[b2]? = some (.cells (u8s H3).toArray 141 (0, 0))) := hide ((k1.block b2 LT3b.out).trans HW3.out); clear o1 i1 k1))
    rw [splice_u8s] at h2
    obtain ⟨H4, hH4⟩ : ∃ H, H = splice H3 20 (be32 t) := ⟨_, rfl⟩
    rw [← hH4] at h2
    have H4L : Hid (H4.length = 24) := hide (by rw [hH4, splice_len _ _ _ (by rw [H3L.out, be32_len]; decide)]; exact H3L.out)
    have HH4 := hide hH4
    have HW4 := hide h2.out
    have KW4 := hide k2
    have LT4b : Hid (b2 < v4.heap.size) := hide (heap_lt h2.out)
    have LT4 : Hid (b2 ≤ v4.heap.size) := hide (Nat.le_of_lt (heap_lt h2.out))
    have c0 := (k2.cell (p := ⟨b0, 0, none⟩) LT.out.1).trans C0.out
    have c1 := (k2.cell (p := ⟨b0, 1, none⟩) LT.out.1).trans C1.out
    clear h2 k2 hH4 BL1 KK1 I1
    obtain ⟨old, ho, ha⟩ := ST.out.ans
    have lt1 : b1 < b2 := by rw [ST.out.one, ST.out.two]; omega
    have HA : Hid (v4.heap[b1]? = some (.cells old 141 (0, 0))) := hide ((KW4.out.block b1 lt1).trans ha)
    have HR4 : Hid (H4 = R) := hide (by rw [HH4.out, HH3.out, HH2.out, HH1.out, HH0.out, head_splices, HR.out, PE.out.2.2, PE.out.2.1]; rfl)
    have OS := hide (And.intro ho lt1)
    clear ho ha lt1 c0 c1
    go_wp2_with (with_reducible refine halt_load 141 _ rfl ?_)
    refine ⟨?_⟩
    refine wpList_load_row rfl 141 (.tmp 5) rfl b2 rfl 141 (u8s H4).toArray (0, 0) _ HW4.out Try.underlying141 rfl (by rw [Try.info_head, len24 H4L.out]) ?_
    rw [HR4.out]
    refine wpList_store_row rfl 141 (.tmp 4) (.tmp 30) rfl b1 (u8s R).toArray rfl rfl 141 old HA.out (by rw [Try.info_head, len24 (by rw [← HR4.out]; exact H4L.out)]) (by rw [OS.out.1, len24 (by rw [← HR4.out]; exact H4L.out)]) (u8s_all _) ?_
    have hrow := setRow_heap v4 b1 _ (u8s R).toArray 141 _ HA.out
    have hbel : Below b0 w (v4.setRow b1 (u8s R).toArray) := below_setRow (ST.out.below.trans (KW4.out.mono (Nat.le_of_lt LT.out.1))) (by rw [ST.out.one]; omega) _
    obtain ⟨Y, hY⟩ : ∃ Y, Y = v4.setRow b1 (u8s R).toArray := ⟨_, rfl⟩
    rw [← hY] at hrow hbel ⊢
    have HRW := hide hrow
    have HBL := hide hbel
    clear hrow hbel hY
    go_wp2_with fail
    refine bodyPost_ret (v := .agg (u8s R).toArray) (results_cell_row rfl _ _ b1 141 _ (0, 0) _ rfl HRW.out Try.underlying141 rfl (by rw [Try.info_head, len24 (by rw [← HR4.out]; exact H4L.out)])) rfl ⟨rfl, by rw [← HB.out.1]; exact HBL.out⟩
end Go.Proofs.Ytehgjkckhjggbaa
namespace Go.Proofs.Ytehgjkckhjggbaa
open Go.RowKit
theorem u8s_at (xs : List Nat) (i : Nat) (h : i < xs.length) : (u8s xs).toArray[i]? = some (.int .u8 ((xs.getD i 0 : Nat) : Int)) := by simp [u8s, h]
theorem run_eqItems_u8 {P : Program} (w : World) (d : Nat) {e : TypeId} (hu : P.underlying e = some (.int .u8)) (he : P.plainKey e = true) (xs ys : List Nat) : ∀ is : List Nat, (∀ i ∈ is, i < xs.length ∧ i < ys.length) →
    (Op.eqItems (d + 1) e 1 (u8s xs).toArray (u8s ys).toArray is).run P w = .ok (is.all fun i => xs.getD i 0 == ys.getD i 0) w
  | [], _ => by simp [Op.eqItems]
  | i :: is, h => by
    obtain ⟨h1, h2⟩ := h i (by simp)
    have ih := run_eqItems_u8 w d hu he xs ys is (fun j hj => h j (by simp [hj]))
    have p1 := run_part_plain w (P := P) he (u8s_at xs i h1)
    have p2 := run_part_plain w (P := P) he (u8s_at ys i h2)
    have p3 := run_equalIn_int w (P := P) d e .u8 .u8 ((xs.getD i 0 : Nat) : Int) ((ys.getD i 0 : Nat) : Int) hu
    simp only [Op.eqItems, Nat.mul_one, Sem.run_bind, p1, p2, p3, Result.andThen_ok]
    by_cases hx : xs.getD i 0 = ys.getD i 0
    · have e1 : (((xs.getD i 0 : Nat) : Int) == ((ys.getD i 0 : Nat) : Int)) = true := by rw [hx]; simp
      rw [e1]
      simp only [Bool.not_true, Bool.false_eq_true, if_false]
      rw [ih, List.all_cons, hx]
      simp
    · have e1 : (((xs.getD i 0 : Nat) : Int) == ((ys.getD i 0 : Nat) : Int)) = false := by simp only [beq_eq_false_iff_ne, ne_eq]; omega
      have e2 : (xs.getD i 0 == ys.getD i 0) = false := by simpa using hx
      rw [e1, List.all_cons, e2]
      simp
theorem all_eq {xs ys : List Nat} {n : Nat} (h1 : xs.length = n) (h2 : ys.length = n) : ((List.range n).all fun i => xs.getD i 0 == ys.getD i 0) = decide (xs = ys) := by
  rw [Bool.eq_iff_iff, decide_eq_true_iff, List.all_eq_true]
  constructor
  · intro h
    refine List.ext_getElem (by rw [h1, h2]) fun i a b => ?_
    have := h i (List.mem_range.2 (by omega))
    simpa [a, b] using this
  · rintro rfl i _
    simp
theorem Try.plain_u8 : Try.prog.plainKey 5 = true := by kernel_rfl
theorem Try.cells_u8a : Try.prog.cellsOf 5 = 1 := by kernel_rfl
/-- Two arrays of bytes held against one another. -/
theorem run_equal_arr {w : World} {T : TypeId} {n : Nat} (hu : Try.prog.underlying T = some (.array n 5)) {xs ys : List Nat} (h1 : xs.length = n) (h2 : ys.length = n) :
    (Op.equal T (.agg (u8s xs).toArray) (.agg (u8s ys).toArray)).run Try.prog w = .ok (decide (xs = ys)) w := by
  obtain ⟨i0, hi, _⟩ := info_parts Try.info_u8'
  unfold Op.equal Op.maxDepth
  rw [run_equalIn_array w 9999 _ _ hu hi, Try.cells_u8a, run_eqItems_u8 w 9998 Try.underlying5 Try.plain_u8 xs ys _ (fun i hi => by have := List.mem_range.1 hi; omega), all_eq h1 h2]
theorem run_eql_arr {w : World} {T : TypeId} {n : Nat} (hu : Try.prog.underlying T = some (.array n 5)) {xs ys : List Nat} (h1 : xs.length = n) (h2 : ys.length = n) :
    (binOp .eql T (.agg (u8s xs).toArray) (.agg (u8s ys).toArray)).run Try.prog w = .ok (.bool (decide (xs = ys))) w := by
  simp [binOp, run_equal_arr hu h1 h2]
/-- A whole array loaded out of cells that are known. -/
theorem run_loadVar_cells {P : Program} (w : World) (ad : Addr) (ty : TypeId) (cs : List Value) (d : TypeDesc) (hc : ∀ j v, cs[j]? = some v → w.cell? (ad.add j) = some v)
    (hu : P.underlying ty = some d) (hd : (match d with | .struct _ | .array _ _ => true | _ => false) = true) (hi : (P.info? ty).map (·.size) = some cs.length) :
    (loadVar ty ad).run P w = .ok (.agg cs.toArray) w := by
  have hl : (loadCells ad cs.length).run P w = .ok cs.toArray w := run_loadCells_list (P := P) w ad cs hc
  cases hq : P.info? ty with
  | none => simp [hq] at hi
  | some i =>
    have hs : i.size = cs.length := by simpa [hq] using hi
    have hagg : (isAgg ty).run P w = .ok true w := by
      unfold isAgg
      rw [Sem.run_bind, run_underlying hu w]
      cases d <;> simp_all
    simp [loadVar, Sem.run_bind, hagg, sizeOf, typeInfo, hq, hs, hl]
theorem wpList_load_cells {P : Program} {ops : Array Oper} {rest : List Oper} {o : Oper} {a : Act} {w : World} {Q : Exit → Act → World → Prop} (hgd : o.guard = none) (ty : TypeId) (x : Operand) (ho : o.op = .load ty x)
    (ad : Addr) (hx : a.eval x = .pointer (some ad)) (cs : List Value) (d : TypeDesc) (hc : ∀ j v, cs[j]? = some v → w.cell? (ad.add j) = some v)
    (hu : P.underlying ty = some d) (hd : (match d with | .struct _ | .array _ _ => true | _ => false) = true) (hi : (P.info? ty).map (·.size) = some cs.length)
    (h : wpList P ops Q rest (a.put o.dst (.agg cs.toArray)) w) : wpList P ops Q (o :: rest) a w :=
  wpList_plain hgd fun _ hK => by
    unfold Oper.wp execOp
    simp only [ho, hx, Instr.loadAt, Instr.sureAddr, Sem.run_bind, Sem.run_pure, Result.andThen_ok, run_loadVar_cells w ad ty cs d hc hu hd hi]
    exact hK _ _ h
end Go.Proofs.Ytehgjkckhjggbaa
