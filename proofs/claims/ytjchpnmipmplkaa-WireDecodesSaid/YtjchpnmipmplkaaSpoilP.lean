/- The contract of the law's own 'spoil': bytes that lie somewhere in a block of the call's own are written over and grown. Condition: there are fewer than 2 to the 40 bytes. -/
import Derived.Test.YtjchpnmipmplkaaSame
import Derived.Test.YtjchpnmipmplkaaPiece
import Derived.ArgAppend
namespace Go.Proofs.Ytjchpnmipmplkaa
open Go.RowKit
/-- Places for so many bytes in a block of the call's own. -/
def Room (w : World) (B g o n : Nat) : Prop := B ≤ g ∧ ∃ cur : Array Value, w.heap[g]? = some (.cells cur 5 (0, 0)) ∧ o + n ≤ cur.size
theorem Room.cell {w : World} {B g o n : Nat} (h : Room w B g o n) (k : Nat) (hk : k < n) : ∃ v, w.cell? ⟨g, o + k, none⟩ = some v := by
  obtain ⟨_, cur, hg, hs⟩ := h
  rw [cell_of_row w g (o + k) cur _ (0, 0) hg]
  exact ⟨cur[o + k], by rw [Array.getElem?_eq_getElem (by omega)]⟩
theorem Room.frozen {w : World} {B g o n : Nat} (h : Room w B g o n) (k : Nat) : w.frozen? ⟨g, k, none⟩ = false := by
  obtain ⟨_, cur, hg, hs⟩ := h
  exact frozen_of_row w g k cur _ hg
theorem Room.set {w : World} {B g o n : Nat} (h : Room w B g o n) (k : Nat) (u : Value) : Room (w.setCell ⟨g, k, none⟩ u) B g o n := by
  obtain ⟨hb, cur, hg, hs⟩ := h
  exact ⟨hb, _, heap_setCell_same w g k cur _ u hg, by rw [Array.size_setIfInBounds]; exact hs⟩
theorem Own.room {w : World} {B : Nat} {v : Value} {xs : List Nat} {n : Nat} (h : Own w B v xs) (hn : xs.length = n) (h1 : 1 ≤ n) : ∃ g c, v = .slice (some ⟨g, 0, none⟩) n c ∧ Room w B g 0 n ∧ n ≤ c ∧ c ≤ 9223372036854775807 := by
  subst hn
  unfold Own at h
  rcases h.2 with ⟨rfl, hn⟩ | ⟨g, cap, cur, rfl, hb, hg, hc, hm, hs, _⟩
  · omega
  · exact ⟨g, cap, rfl, ⟨hb, cur, hg, by omega⟩, hc, by unfold maxLen at hm; omega⟩
theorem wpList_append_piece {w : World} {ops : Array Oper} {rest : List Oper} {o : Oper} {a : Act} {Q : Exit → Act → World → Prop} (hgd : o.guard = none) (s x : Operand)
    (ho : o.op = .call { callee := .builtin .append, args := #[s, x], argTypes := #[23, 23] })
    (B n : Nat) (v : Value) (xs : List Nat) (hs : a.eval s = v) (hown : Piece w B v xs) (hn : xs.length = n)
    (b y : Nat) (hx : a.eval x = .slice (some ⟨b, 0, none⟩) 1 1) (hu : w.cell? ⟨b, 0, none⟩ = some (.int .u8 (y : Int)))
    (hlen : n + 1 ≤ 140737488355328) (hbase : B ≤ w.heap.size)
    (h : ∀ g o' c w', Room w' B g o' (n + 1) → n + 1 ≤ c → c ≤ 9223372036854775807 → Below B w w' → wpList Try.prog ops Q rest (a.put o.dst (.slice (some ⟨g, o', none⟩) (n + 1) c)) w') : wpList Try.prog ops Q (o :: rest) a w := by
  subst hn
  rcases hown with ⟨rfl, rfl⟩ | ⟨g, off, c, cur, rfl, hb, hg, h1, h2, h3, hc⟩
  · refine wpList_append_bytes hgd s x ho B _ [] hs (World.ownsRow_nil _ _ _ _) _ [y] hx ⟨_, 1, rfl, fun _ => ⟨b, 0, rfl, fun i hi => ?_⟩, (fun h => by cases h), by simp, by decide⟩ (by simp) hbase ?_
    · have : i = 0 := by simpa using hi
      subst this
      simpa using hu
    · intro v' w' hown' hbel
      obtain ⟨g, c, rfl, hr, hc1, hc2⟩ := hown'.room (n := 1) rfl (by decide)
      exact h g 0 c w' hr hc1 hc2 hbel
  · obtain ⟨i0, hi, hz0, hz1, hz2⟩ := info_parts Try.info_u8'
    refine wpList_append_arg w hgd s x _ ho 5 i0 (.int .u8 0) 1 1 Try.underlying23 hi hz0 hz1 hz2 rfl (by decide) g off xs.length c (xs.map fun x : Nat => Value.int .u8 (x : Int)) hs (by simp) ?_ ⟨b, 0, none⟩ 1 1 [.int .u8 (y : Int)] hx rfl ?_ ?_ ?_ (by unfold maxLen at *; omega) (by omega) ?_ ?_
    · intro j u hj
      have hj2 : j < xs.length := by
        rcases Nat.lt_or_ge j xs.length with h | h
        · exact h
        · simp [h] at hj
      rw [cell_of_row w g (off + j) cur _ (0, 0) hg, hc j hj2]
      simp [hj2] at hj ⊢
      exact hj
    · intro j z hj
      match j, hj with
      | 0, hj => simp at hj; subst hj; simpa [Addr.add] using hu
    · intro z hz; simp at hz; subst hz; rfl
    · intro hroom j hj
      have hj0 : j = 0 := by simpa using hj
      subst hj0
      refine ⟨?_, frozen_of_row w g _ cur _ hg⟩
      rw [cell_of_row w g _ cur _ (0, 0) hg, Array.getElem?_eq_getElem (by omega)]
      rfl
    · intro hroom
      refine h g off c _ ⟨hb, _, heap_setCell_same w g (off + xs.length * 1) cur _ _ hg, by rw [Array.size_setIfInBounds]; omega⟩ hroom (by unfold maxLen at h2; omega) ?_
      exact (Below.refl _ _).setCell (p := ⟨g, off + xs.length * 1, none⟩) hb _
    · intro hgrow v' w' hown' hg'
      have hO : Own w' w.heap.size v' (xs ++ [y]) := by unfold Own; simpa using hown'
      obtain ⟨g', c', rfl, hr, hc1, hc2⟩ := hO.room (n := xs.length + 1) (by simp) (by omega)
      exact h g' 0 c' w' ⟨Nat.le_trans hbase hr.1, hr.2⟩ hc1 hc2 ((Below.refl _ _).grown hg' hbase (fun k hk => by cases hk))
set_option maxHeartbeats 800000 in
theorem spoilP_any (A : Option Addr) (n c : Nat) (xs : List Nat) (w : World) (B : Nat) (hO : Piece w B (.slice A n c) xs) (hn : xs.length = n) (hB : B ≤ w.heap.size) (h3 : n ≤ 1099511627776) :
    Calls Try.prog 17 #[.slice A n c] w fun e w' => e = .returned (.tuple #[]) ∧ Below B w w' := by
  have HO := hide hO
  have HN := hide hn
  clear hO hn
  go_enter Try.func17, Try.ntmps17
  go_wp2_with (at_builtin; refine halt ?_)
  refine ⟨?_⟩
  have nb : Below B w (w.alloc (.cells #[.int .u8 99] 5)) := (Below.refl _ _).alloc hB _
  have nbs : Below w.heap.size w (w.alloc (.cells #[.int .u8 99] 5)) := (Below.refl _ _).alloc (Nat.le_refl _) _
  refine wpList_append_piece rfl (.tmp 4) (.tmp 5) rfl B n _ _ rfl (HO.out.keep nbs) HN.out w.heap.size 99 rfl (by simp) (by omega) (Nat.le_trans hB nb.size) ?_
  intro g o c1 w1 o1 hc1 hc2 k1
  have O1 := hide o1
  have K1 := hide (nb.trans k1)
  clear nb nbs o1 k1
  go_wp2_with fail
  go_loopw [3] (fun i wr => ∃ k : Nat, k ≤ n + 1 ∧ i = .int .i64 (k : Int) ∧ Hid (Room wr B g o (n + 1)) ∧ Hid (Below B w wr)) (fun i _ => n + 1 - (intOf i).toNat)
  case atStart => exact ⟨0, Nat.zero_le _, rfl, O1.out, K1.out⟩
  case round =>
    obtain ⟨k, hk, rfl, hr, hbel⟩ := hrel
    by_cases hlt : k < n + 1
    · obtain ⟨v, ck⟩ := hr.out.cell k hlt
      have fk := hr.out.frozen (o + k)
      have R2 := hide (hr.out.set (o + k) (.int .u8 98))
      have K2 := hide (show Below B w (wr.setCell ⟨g, o + k, none⟩ (.int .u8 98)) from hbel.out.setCell hr.out.1 _)
      clear hr hbel
      go_wp2_with fail
      go_roundw
      case rel => exact ⟨k + 1, by omega, by go_num, R2, K2⟩
      case measure => simp [intOf]; omega
    · go_wp2_with fail
      go_end0
      exact ⟨rfl, hbel.out⟩
end Go.Proofs.Ytjchpnmipmplkaa
