/- The net's At and Take, whatever the place; a new net; a nil one. No condition but the widths. -/
import Derived.Test.YtdhamhaadclhkaaNTake
namespace Go.Proofs.Ytdhamhaadclhkaa
open Go.RowKit
/-- Messages as they are told. -/
abbrev Tale : Type := Int × Int × Int × List Int × List Nat
def getM (i : Int) (L : List Tale) : Tale := if 0 ≤ i ∧ i < (L.length : Int) then L.getD i.toNat (0, 0, 0, [], []) else (0, 0, 0, [], [])
def cutM (i : Int) (L : List Tale) : List Tale := if 0 ≤ i ∧ i < (L.length : Int) then L.take i.toNat ++ L.drop (i.toNat + 1) else L
/-- A message of the call's own that lies outside of a thing. -/
def FreshO (w : World) (B : Nat) (F : Nat → Prop) (r : Value) (m : Tale) : Prop :=
  ∃ A c D cp, r = .agg #[.int .i64 m.1, .int .i64 m.2.1, .int .i64 m.2.2.1, .slice A m.2.2.2.1.length c, .slice D m.2.2.2.2.length cp] ∧ OwnN w B (.slice A m.2.2.2.1.length c) m.2.2.2.1 ∧ Own w B (.slice D m.2.2.2.2.length cp) m.2.2.2.2 ∧ Off F (.slice A m.2.2.2.1.length c) ∧ Off F (.slice D m.2.2.2.2.length cp)
theorem Fresh.off {w : World} {B : Nat} {F : Nat → Prop} {r : Value} {f t k : Int} {zs : List Int} {d : List Nat} (h : Fresh w B r f t k zs d) (hF : ∀ b, F b → b < B) : FreshO w B F r (f, t, k, zs, d) := by
  obtain ⟨A, c, D, cp, e, o1, o2⟩ := h
  refine ⟨A, c, D, cp, e, o1, o2, fun b hb hf => ?_, fun b hb hf => ?_⟩
  · have h1 := (World.ownsRow.lt o1 b hb).1
    have h2 := hF b hf
    omega
  · have h1 := (World.ownsRow.lt o2 b hb).1
    have h2 := hF b hf
    omega
theorem freshO_zero (w : World) (B : Nat) (F : Nat → Prop) : FreshO w B F zeroMsg (0, 0, 0, [], []) := ⟨none, 0, none, 0, rfl, OwnN.nil _ _, World.ownsRow_nil _ _ _ _, Off.nil _, Off.nil _⟩
theorem getM_in {X : List Itm} {j : Nat} (hj : j < X.length) : getM (j : Int) (X.map Itm.says) = X[j].says := by
  unfold getM
  rw [if_pos (by rw [List.length_map]; omega)]
  simp [hj]
theorem getM_out {L : List Tale} {i : Int} (h : ¬ (0 ≤ i ∧ i < (L.length : Int))) : getM i L = (0, 0, 0, [], []) := if_neg h
theorem cutM_in {X : List Itm} {j : Nat} (hj : j < X.length) : cutM (j : Int) (X.map Itm.says) = (X.take j ++ X.drop (j + 1)).map Itm.says := by
  unfold cutM
  rw [if_pos (by rw [List.length_map]; omega)]
  simp
theorem cutM_out {L : List Tale} {i : Int} (h : ¬ (0 ≤ i ∧ i < (L.length : Int))) : cutM i L = L := if_neg h
theorem at5_any (F : Nat → Prop) (g : Nat) (L : List Tale) (i : Int) (w : World) (h : NetAt PN w F g L) :
    Calls Try.prog 23 #[.pointer (some ⟨g, 0, none⟩), .int .i64 i] w fun e w' => ∃ r, e = .returned (.tuple #[r, .bool (decide (0 ≤ i ∧ i < (L.length : Int)))]) ∧ FreshO w' w.heap.size F r (getM i L) ∧ Below w.heap.size w w' := by
  obtain ⟨v, X, rfl, hS⟩ := h
  by_cases hi : 0 ≤ i ∧ i < ((X.map Itm.says).length : Int)
  · rw [decide_eq_true hi]
    rw [List.length_map] at hi
    obtain ⟨j, rfl⟩ : ∃ j : Nat, i = (j : Int) := ⟨i.toNat, by omega⟩
    have hj : j < X.length := by omega
    rw [getM_in hj]
    refine (at_some F g v X j w hS hj).mono ?_
    rintro e w' ⟨r, rfl, fr, k⟩
    exact ⟨r, rfl, fr.off hS.low, k⟩
  · rw [decide_eq_false hi, getM_out hi]
    rw [List.length_map] at hi
    refine (at_none F g v X i w hS hi).mono ?_
    rintro e w' ⟨rfl, k⟩
    exact ⟨_, rfl, freshO_zero _ _ _, k⟩
theorem rat5_any (F : Nat → Prop) (g : Nat) (L : List Tale) (i : Int) (w : World) (h : NetAt RN w F g L) :
    Calls Try.prog 24 #[.pointer (some ⟨g, 0, none⟩), .int .i64 i] w fun e w' => ∃ r, e = .returned (.tuple #[r, .bool (decide (0 ≤ i ∧ i < (L.length : Int)))]) ∧ FreshO w' w.heap.size F r (getM i L) ∧ Below w.heap.size w w' := by
  obtain ⟨v, X, rfl, hS⟩ := h
  by_cases hi : 0 ≤ i ∧ i < ((X.map Itm.says).length : Int)
  · rw [decide_eq_true hi]
    rw [List.length_map] at hi
    obtain ⟨j, rfl⟩ : ∃ j : Nat, i = (j : Int) := ⟨i.toNat, by omega⟩
    have hj : j < X.length := by omega
    rw [getM_in hj]
    refine (rat_some F g v X j w hS hj).mono ?_
    rintro e w' ⟨r, rfl, fr, k⟩
    exact ⟨r, rfl, fr.off hS.low, k⟩
  · rw [decide_eq_false hi, getM_out hi]
    rw [List.length_map] at hi
    refine (rat_none F g v X i w hS hi).mono ?_
    rintro e w' ⟨rfl, k⟩
    exact ⟨_, rfl, freshO_zero _ _ _, k⟩
theorem take5_any (F : Nat → Prop) (g : Nat) (L : List Tale) (i : Int) (w : World) (h : NetAt PN w F g L) :
    Calls Try.prog 25 #[.pointer (some ⟨g, 0, none⟩), .int .i64 i] w fun e w' => ∃ r, e = .returned (.tuple #[r, .bool (decide (0 ≤ i ∧ i < (L.length : Int)))]) ∧ ∃ F', FreshO w' w.heap.size F' r (getM i L) ∧ NetAt PN w' F' g (cutM i L) ∧ Next F w F' w' := by
  obtain ⟨v, X, rfl, hS⟩ := h
  by_cases hi : 0 ≤ i ∧ i < ((X.map Itm.says).length : Int)
  · rw [decide_eq_true hi]
    rw [List.length_map] at hi
    obtain ⟨j, rfl⟩ : ∃ j : Nat, i = (j : Int) := ⟨i.toNat, by omega⟩
    have hj : j < X.length := by omega
    rw [getM_in hj, cutM_in hj]
    refine (take_some F g v X j w hS hj).mono ?_
    rintro e w' ⟨r, rfl, fr, ⟨v', h'⟩, t⟩
    exact ⟨r, rfl, F, fr.off hS.low, ⟨v', _, rfl, h'⟩, t, fun _ => .inl⟩
  · rw [decide_eq_false hi, getM_out hi, cutM_out hi]
    rw [List.length_map] at hi
    refine (take_none F g v X i w hS hi).mono ?_
    rintro e w' ⟨rfl, k⟩
    exact ⟨_, rfl, F, freshO_zero _ _ _, ⟨v, X, rfl, hS.below k⟩, Next.of_below F k⟩
theorem len5_at (F : Nat → Prop) (g : Nat) (L : List Tale) (w : World) (h : NetAt PN w F g L) :
    Calls Try.prog 32 #[.pointer (some ⟨g, 0, none⟩)] w fun e w' => e = .returned (.int .i64 (L.length : Int)) ∧ w = w' := by
  obtain ⟨v, X, rfl, hS⟩ := h
  rw [List.length_map]
  exact len5_any F g v X w hS
/-- A new net has none. -/
theorem net_new (e : TypeId) (w : World) (b : Nat) (hb : b = w.heap.size) : NetAt e (w.alloc (.cells #[.slice none 0 0] e)) (fun k => k = b) b [] := by
  subst hb
  exact ⟨.slice none 0 0, [], rfl, Blk.new w e _ (Nat.zero_le _), OwnM.nil _ _, fun b h => by simp [Value.ownBlock] at h, rfl, fun k h => by rw [h]; simp, (fun q h => by cases h), by simp⟩
/-! ### a nil net -/
theorem len_nil5 (w : World) : Calls Try.prog 32 #[.pointer none] w fun e w' => e = .returned (.int .i64 0) ∧ w = w' := by
  go_enter Try.func32, Try.ntmps32
  go_wp2
  go_ret
  exact ⟨rfl, rfl⟩
theorem has_nil5 (i : Int) (w : World) : Calls Try.prog 65 #[.pointer none, .int .i64 i] w fun e w' => e = .returned (.bool false) ∧ w = w' := by
  by_cases h0 : 0 ≤ i
  · have h1 : decide (i < 0) = false := decide_eq_false (by omega)
    go_enter Try.func65, Try.ntmps65
    go_wp2_with fail
    refine (len_nil5 w).mono ?_
    rintro e w' ⟨rfl, rfl⟩
    go_wp2
    go_ret
    exact ⟨rfl, rfl⟩
  · go_enter Try.func65, Try.ntmps65
    go_wp2
    go_ret
    exact ⟨rfl, rfl⟩
theorem twice_nil5 (i : Int) (w : World) : Calls Try.prog 28 #[.pointer none, .int .i64 i] w fun e w' => e = .returned (.bool false) ∧ w = w' := by
  go_enter Try.func28, Try.ntmps28
  go_wp2_with fail
  refine (has_nil5 i w).mono ?_
  rintro e w' ⟨rfl, rfl⟩
  go_wp2
  go_ret
  exact ⟨rfl, rfl⟩
theorem send_nil5 (f t k : Int) (U V : Value) (w : World) : Calls Try.prog 20 #[.pointer none, .agg #[.int .i64 f, .int .i64 t, .int .i64 k, U, V]] w fun e w' => e = .returned (.bool false) ∧ Below w.heap.size w w' := by
  have ka := below_alloc w (.cells #[.int .i64 f, .int .i64 t, .int .i64 k, U, V] 45)
  go_enter Try.func20, Try.ntmps20
  go_wp2_with fail
  go_ret
  exact ⟨rfl, ka⟩
theorem drop_nil5 (i : Int) (w : World) : Calls Try.prog 30 #[.pointer none, .int .i64 i] w fun e w' => e = .returned (.int .i64 0) ∧ Below w.heap.size w w' := by
  have ka := below_alloc w (.cells #[.int .i64 i] 3)
  go_enter Try.func30, Try.ntmps30
  go_wp2_with fail
  go_ret
  exact ⟨rfl, ka⟩
theorem at_nil5 (i : Int) (w : World) : Calls Try.prog 23 #[.pointer none, .int .i64 i] w fun e w' => e = .returned (.tuple #[zeroMsg, .bool false]) ∧ Below w.heap.size w w' := by
  have ka := below_alloc w (.cells zeroArr 45)
  obtain ⟨q0, q1, q2, q3, q4⟩ := msgAt_new w 45 0 0 0 (.slice none 0 0) (.slice none 0 0)
  have HH := hide (has_nil5 i (w.alloc (.cells zeroArr 45)))
  go_enter Try.func23, Try.ntmps23
  go_wp2_with fail
  refine HH.out.mono ?_
  rintro e w' ⟨rfl, rfl⟩
  go_wp2_with fail
  refine bodyPost_ret (v := .tuple #[zeroMsg, .bool false]) (by simp [results, Try.results23, go_sem, zeroMsg]) rfl ⟨rfl, ka⟩
end Go.Proofs.Ytdhamhaadclhkaa
