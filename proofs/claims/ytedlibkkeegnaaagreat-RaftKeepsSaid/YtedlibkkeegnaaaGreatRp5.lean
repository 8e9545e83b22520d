/- Bytes that a slice holds. No condition. The contracts of bits.Uvarint and of the document's own: a number as bytes of seven digits. Condition: the number has 64 -/
import Derived.Test.YtedlibkkeegnaaaGreatRp3
import Derived.WalkSpells
import Derived.WalkLawsBesides
import Derived.BigQuiet
import Derived.Test.YtedlibkkeegnaaaGreatRp1
namespace Go.Proofs.YtedlibkkeegnaaaGreat
open Go.RowKit
variable {w w' w1 : World} {B n : Nat}
def Rd (w : World) (A : Option Addr) (xs : List Nat) : Prop :=
 xs ≠ [] -> ∃ b off, A = some ⟨b, off, none⟩ /\ ∀ i, i < xs.length -> w.cell? ⟨b, off + i, none⟩ = some (.int .u8 ((xs.getD i 0 : Nat) : Int))
theorem cell_lt {a : Addr} {v : Value} (h : w.cell? a = some v) : a.block < w.heap.size := by
 rcases Nat.lt_or_ge a.block w.heap.size with hlt | hge
 ·exact hlt
 ·simp [World.cell?, Array.getElem?_eq_none hge] at h
theorem Rd.keep {A : Option Addr} {xs : List Nat} (h : Rd w A xs) (hk : ∀ a v, w.cell? a = some v -> w'.cell? a = some v) : Rd w' A xs := by
 intro hne;obtain ⟨b, off, e, hc⟩ := h hne;exact ⟨b, off, e, fun i hi => hk _ _ (hc i hi)⟩
theorem Rd.below {A : Option Addr} {xs : List Nat} (h : Rd w A xs) (hb : Below w.heap.size w w') : Rd w' A xs :=
 h.keep fun _ _ hc => (hb.cell (cell_lt hc)).trans hc
theorem Rd.drewN {A : Option Addr} {xs : List Nat} (h : Rd w A xs) (n : Nat) : Rd (w.drewN n) A xs := h
theorem below_drewN {a : World} (h : Below B a w) (n : Nat) : Below B a (w.drewN n) := ⟨h.os, h.tape, h.output, h.size, h.block⟩
def Own (w : World) (B : Nat) (v : Value) (xs : List Nat) : Prop := w.ownsRow B 5 1 v xs.length (xs.map fun x : Nat => Value.int .u8 (x : Int))
theorem own_push {v : Value} {xs : List Nat} {x : Nat} (h : w.ownsRow B 5 1 v (xs.length + 1) ((xs.map fun x : Nat => Value.int .u8 (x : Int)) ++ [.int .u8 (x : Int)])) : Own w B v (xs ++ [x]) := by
 unfold Own;simpa using h
theorem push_below {wr : World} {e s : Nat} {v : Value} {l : List Value} {o : Obj} (hbel : Below B w wr) (hB : B <= wr.heap.size) (hown : wr.ownsRow B e s v n l)
  (hg : (wr.alloc o).grownBy w1 v.ownBlock) : Below B w w1 :=
 (hbel.alloc hB o).grown hg (by simp; omega) (fun k hk => (hown.lt k hk).1)
theorem one_cell_int (k : IntKind) (n : Int) : ∀ u ∈ [Value.int k n], u.oneCell' = true := by
 intro u hu; simp at hu; subst hu; rfl
theorem one_at (w : World) (v : Value) (e : TypeId) : ∀ j u, [v][j]? = some u -> (w.alloc (.cells #[v] e)).cell? ((⟨w.heap.size, 0, none⟩ : Addr).add j) = some u := by
 intro j u hj
 match j, hj with
 | 0, hj => simp at hj; subst hj; simp [Addr.add]
theorem Own.form {v : Value} {xs : List Nat} (h : Own w B v xs) : ∃ A c, v = .slice A xs.length c /\ Rd w A xs := by
 unfold Own at h;rcases h.2 with ⟨rfl, hn⟩ | ⟨g, cap, cur, rfl, _, _⟩
 ·refine ⟨none, 0, by rw [hn], fun hne => ?_⟩;exact absurd (List.eq_nil_of_length_eq_zero hn) hne
 ·refine ⟨_, _, rfl, fun _ => ⟨g, 0, rfl, fun i hi => ?_⟩⟩;rw [Nat.zero_add, h.cellAt i (by omega)];simp [hi]
theorem Own.len {v : Value} {xs : List Nat} (h : Own w B v xs) : xs.length <= 9223372036854775807 := by
 unfold Own at h;rcases h.2 with ⟨rfl, hn⟩ | ⟨g, cap, cur, rfl, _, _, h1, h2, _⟩
 ·omega
 ·unfold maxLen at h2; omega
theorem Own.keep {v : Value} {xs : List Nat} (h : Own w B v xs) (hb : Below w.heap.size w w') : Own w' B v xs := by
 unfold Own at h ⊢;refine ⟨h.1, ?_⟩;rcases h.2 with hn | ⟨g, cap, cur, hv, h1, h2, r⟩
 ·exact .inl hn
 ·refine .inr ⟨g, cap, cur, hv, h1, ?_, r⟩;rw [hb.block g ?_]
  ·exact h2
  ·exact (h.lt g (by rw [hv]; rfl)).2
theorem Own.drewN {v : Value} {xs : List Nat} (h : Own w B v xs) (n : Nat) : Own (w.drewN n) B v xs := h
theorem rd_new (w : World) (cs : Array Value) (e : TypeId) (fr : Nat × Nat) (xs : List Nat) (b : Nat) (hb : b = w.heap.size) (h : cs.toList = xs.map fun x : Nat => Value.int .u8 (x : Int)) : Rd (w.alloc (.cells cs e fr)) (some ⟨b, 0, none⟩) xs := by
 subst hb;intro _;refine ⟨_, 0, rfl, fun i hi => ?_⟩;have hc : cs[i]? = some (Value.int .u8 ((xs.getD i 0 : Nat) : Int)) := by
  rw [<- Array.getElem?_toList, h];simp [hi]
 rw [Nat.zero_add, <- hc];exact cell_of_row _ _ _ _ _ fr (heap_alloc_new w _)
theorem or128 (y : Nat) : bits .or .u8 ((y : Int) % 256) 128 = ((y % 128 + 128 : Nat) : Int) := by
 rw [u8_or _ _ (by omega) (by omega) (by decide) (by decide)];have h : ((y : Int) % 256).toNat = y % 256 := by omega
 have h2 : (128 : Int).toNat = 128 := rfl;rw [h, h2];have : ∀ z, z < 256 -> z ||| 128 = z % 128 + 128 := by decide +kernel
 rw [this _ (Nat.mod_lt _ (by decide))];omega
theorem Tryz.info_u8 : (Tryz.prog.info? 5).map (fun i => (i.zero, i.size, i.bytes)) = some (some (.int .u8 0), 1, 1) := by kernel_rfl
set_option maxHeartbeats 400000 in
set_option maxRecDepth 1000000 in
theorem uvarint_any (v : Nat) (w : World) (hv : v < 18446744073709551616) :
  Calls Tryz.prog 97 #[.int .u64 (v : Int)] w fun e w' => ∃ s, e = .returned s /\ Own w' w.heap.size s (uvl v) /\ Below w.heap.size w w' := by
 obtain ⟨i0, hi, hz0, hz1, hz2⟩ := info_parts Tryz.info_u8;have hlen := uvl_len64 v hv;have HV := hide hv;clear hv;go_enter Tryz.func97, Tryz.ntmps97;go_wp2
 go_loopw [0, 3] (fun x s wr => ∃ (y : Nat) (acc : List Nat), y <= v /\ x = .int .u64 (y : Int) /\ Hid (acc ++ uvl y = uvl v) /\ Own wr w.heap.size s acc /\ Below w.heap.size w wr) (fun x _ _ => (intOf x).toNat)
 case atStart => exact ⟨v, [], Nat.le_refl _, rfl, rfl, World.ownsRow_nil _ _ _ _, Below.refl _ _⟩
 case round =>
  obtain ⟨y, acc, hy, rfl, hs, hown, hbel⟩ := hrel;have hal : acc.length + (uvl y).length <= 10 := by
   have := congrArg List.length hs.out;rw [List.length_append] at this;omega
  by_cases hge : y < 128
  ·have hl1 : acc.length <= 9 := by rw [uvl_low hge] at hal; simp at hal; omega
   clear hal hlen;unfold Own at hown;go_wp2_with (at_builtin; go_must (refine wpList_append_own _ rfl _ _ 32 rfl w.heap.size 5 i0 (.int .u8 0) 1 1 Tryz.underlying32 hi hz0 hz1 hz2 rfl (by decide) _ _ _ rfl (hown.alloc _) ⟨wr.heap.size, 0, none⟩ 1 1 [.int .u8 (y : Int)] rfl rfl (one_at _ _ _) (one_cell_int _ _) (by unfold maxLen; omega) (by omega) (by have := hbel.size; simp; omega) ?_); intro s' w1 hown' hgrow _; have hbel1 := push_below hbel hbel.size hown hgrow; have hown1 := own_push hown'; clear hown' hgrow)
   go_ret;rw [uvl_low hge] at hs;exact ⟨_, rfl, by rw [<- hs.out]; exact hown1, hbel1⟩
  ·have hor := or128 y;have hl1 : acc.length <= 9 := by rw [uvl_high hge] at hal; simp at hal; omega
   clear hal hlen;unfold Own at hown;go_wp2_with (at_builtin; go_must (refine wpList_append_own _ rfl _ _ 32 rfl w.heap.size 5 i0 (.int .u8 0) 1 1 Tryz.underlying32 hi hz0 hz1 hz2 rfl (by decide) _ _ _ rfl (hown.alloc _) ⟨wr.heap.size, 0, none⟩ 1 1 [.int .u8 ((y % 128 + 128 : Nat) : Int)] rfl rfl (one_at _ _ _) (one_cell_int _ _) (by unfold maxLen; omega) (by omega) (by have := hbel.size; simp; omega) ?_); intro s' w1 hown' hgrow _; have hbel1 := push_below hbel hbel.size hown hgrow; have hown1 := own_push hown'; clear hown' hgrow)
   go_roundw
   case rel => exact ⟨y / 128, acc ++ [y % 128 + 128], by omega, by go_num, by rw [uvl_high hge] at hs; rw [List.append_assoc]; exact hs, hown1, hbel1⟩
   case measure => simp [intOf]; omega
end Go.Proofs.YtedlibkkeegnaaaGreat
