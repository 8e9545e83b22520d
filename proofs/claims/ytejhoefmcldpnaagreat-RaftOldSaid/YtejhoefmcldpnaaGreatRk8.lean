/- Numbers that a slice holds. No condition but that a slice has at most so many places. The contract of raft's numbers: numbers as bytes, one behind the other. Condition: at most eight of them, none below 0. Numbers of both signs that the call gathers in a slice of its own, and an append to them. Condition: fewer than 2 to the 40. Rows and the blocks that they lie in; an append that says where the new row lies. It names nothing of the program but the type of its numbers. An append of bytes to a slice of the call's own, with where the new slice lies. Condition: the lengths together are below 2 to the 47. A cell that is none of a thing's stands behind a call of it. No condition. An append that is not kept: the row that it was made of still stands. It names nothing of the program. Rows of rows of bytes that the call makes: a slice of slices that grows by one, each with bytes of its own. Condition: fewer than 2 to the 40 rows. keep.steps: four functions over boxes of the call's own. No condition but the widths. -/
import Derived.Test.YtejhoefmcldpnaaGreatRk7
import Derived.Test.YtejhoefmcldpnaaGreatRk5
import Derived.Maps.AppendAt
import Derived.OwnWalk
namespace Go.Proofs.YtejhoefmcldpnaaGreat
open Go.RowKit
/-- The slice at A reads as these numbers. -/
def RdI (w : World) (A : Option Addr) (zs : List Int) : Prop :=
  zs ≠ [] → ∃ b off, A = some ⟨b, off, none⟩ ∧ ∀ i, i < zs.length → w.cell? ⟨b, off + i, none⟩ = some (.int .i64 (zs.getD i 0))
def IsI (w : World) (v : Value) (zs : List Int) : Prop := ∃ A c, v = .slice A zs.length c ∧ RdI w A zs ∧ zs.length ≤ c ∧ c ≤ 9223372036854775807
theorem RdI.below {w w' : World} {A : Option Addr} {zs : List Int} (h : RdI w A zs) (hb : Below w.heap.size w w') : RdI w' A zs := by
  intro hne
  obtain ⟨b, off, e, hc⟩ := h hne
  exact ⟨b, off, e, fun i hi => (hb.cell (cell_lt (hc i hi))).trans (hc i hi)⟩
theorem IsI.keep {w w' : World} {v : Value} {zs : List Int} (h : IsI w v zs) (hb : Below w.heap.size w w') : IsI w' v zs := by
  obtain ⟨A, c, e, hr, hn⟩ := h
  exact ⟨A, c, e, hr.below hb, hn⟩
theorem IsI.drewN {w : World} {v : Value} {zs : List Int} (h : IsI w v zs) (d : Nat) : IsI (w.drewN d) v zs := h
theorem IsI.rd {w : World} {A : Option Addr} {n c : Nat} {zs : List Int} (h : IsI w (.slice A n c) zs) : RdI w A zs := by
  obtain ⟨A', c', e, r, _⟩ := h
  cases e
  exact r
theorem IsI.len {w : World} {A : Option Addr} {n c : Nat} {zs : List Int} (h : IsI w (.slice A n c) zs) : zs.length = n := by
  obtain ⟨A', c', e, r, _⟩ := h
  cases e
  rfl
theorem IsI.caps {w : World} {A : Option Addr} {n c : Nat} {zs : List Int} (h : IsI w (.slice A n c) zs) : n ≤ c ∧ c ≤ 9223372036854775807 := by
  obtain ⟨_, _, e, _, h2⟩ := h
  cases e
  exact h2
theorem IsI.form {w : World} {v : Value} {zs : List Int} {n : Nat} (h : IsI w v zs) (hn : zs.length = n) : ∃ A c, v = .slice A n c ∧ IsI w (.slice A n c) zs ∧ n ≤ c ∧ c ≤ 9223372036854775807 := by
  subst hn
  obtain ⟨A, c, e, r, h2, h3⟩ := h
  exact ⟨A, c, e, ⟨A, c, rfl, r, h2, h3⟩, h2, h3⟩
theorem isI_nil (w : World) : IsI w (.slice none 0 0) [] := ⟨none, 0, rfl, fun h => absurd rfl h, Nat.zero_le _, by decide⟩
theorem isI_new (w : World) (cs : Array Value) (e : TypeId) (fr : Nat × Nat) (zs : List Int) (b n : Nat) (hb : b = w.heap.size) (hn : n = zs.length) (hl : cs.toList = zs.map fun z => Value.int .i64 z) (h : n ≤ 9223372036854775807) : IsI (w.alloc (.cells cs e fr)) (.slice (some ⟨b, 0, none⟩) n n) zs := by
  subst hb; subst hn
  refine ⟨_, _, rfl, fun _ => ⟨_, 0, rfl, fun i hi => ?_⟩, Nat.le_refl _, h⟩
  have hc : cs[i]? = some (Value.int .i64 (zs.getD i 0)) := by
    rw [← Array.getElem?_toList, hl]
    simp [hi]
  rw [Nat.zero_add, ← hc]
  exact cell_of_row _ _ _ _ _ fr (heap_alloc_new w _)
/-- Numbers that came in read as numbers. -/
theorem IsRow.isI {w : World} {a : Option Addr} {len cap : Nat} {zs : List Int} (h : IsRow .i64 w a len cap zs) :
    ∃ xs : List Int, xs.length = len ∧ (∀ x ∈ xs, -9223372036854775808 ≤ x ∧ x < 9223372036854775808) ∧ IsI w (.slice a len cap) xs ∧ len ≤ 9223372036854775807 := by
  rcases h with ⟨rfl, rfl, rfl, rfl⟩ | ⟨x, rfl, h1, h2, h3, hc, hw⟩
  · exact ⟨[], rfl, by simp, isI_nil w, by decide⟩
  · have hb : ∀ z ∈ zs, -9223372036854775808 ≤ z ∧ z ≤ 9223372036854775807 := fun z hz => bounds_i64 (hw z hz)
    refine ⟨zs.take len, by simp; omega, ?_, ⟨some x, cap, by congr 1; simp; omega, ?_, by simp; omega, by unfold maxLen at h2; omega⟩, by unfold maxLen at h2; omega⟩
    · intro y hy
      have := hb y (List.mem_of_mem_take hy)
      omega
    · intro hne
      have hl : 0 < zs.length := by
        rcases zs with _ | ⟨z, zs⟩
        · simp at hne
        · simp
      obtain ⟨b, off, sp⟩ := x
      have hs0 := hc 0 hl
      have hsp : sp = none := by simpa [Addr.add] using World.cell?_spot hs0
      subst hsp
      refine ⟨b, off, rfl, fun i hi => ?_⟩
      have hi2 : i < len ∧ i < zs.length := by simp at hi; omega
      have := hc i hi2.2
      rw [add_off] at this
      rw [this]
      simp [hi2.1, hi2.2]
end Go.Proofs.YtejhoefmcldpnaaGreat
namespace Go.Proofs.YtejhoefmcldpnaaGreat
open Go.RowKit
/-- Numbers as bytes, one behind the other. -/
def numsL : List Nat → List Nat
  | [] => []
  | x :: r => uvl x ++ numsL r
theorem numsL_snoc (xs : List Nat) (x : Nat) : numsL (xs ++ [x]) = numsL xs ++ uvl x := by
  induction xs with
  | nil => simp [numsL]
  | cons y r ih => simp only [List.cons_append, numsL, ih, List.append_assoc]
theorem numsL_byte : ∀ xs, ∀ x ∈ numsL xs, x < 256
  | [], _, h => by cases h
  | y :: r, x, h => by
    rcases List.mem_append.1 (show x ∈ uvl y ++ numsL r from h) with h | h
    · exact uvl_byte y x h
    · exact numsL_byte r x h
theorem numsL_len : ∀ (xs : List Nat), (∀ x ∈ xs, x < 18446744073709551616) → (numsL xs).length ≤ 10 * xs.length
  | [], _ => by simp [numsL]
  | y :: r, h => by
    have h1 := uvl_len64 y (h y (by simp))
    have h2 := numsL_len r (fun x hx => h x (by simp [hx]))
    simp only [numsL, List.length_append, List.length_cons]
    omega
set_option maxRecDepth 100000 in
set_option maxHeartbeats 1600000 in
theorem rnums_any (A : Option Addr) (n c : Nat) (xs : List Nat) (w : World) (hA : RdI w A (xs.map fun x : Nat => (x : Int))) (hn : xs.length = n) (hb : ∀ x ∈ xs, x < 9223372036854775808) (h8 : n ≤ 8) :
    Calls Tryz.prog 78 #[.slice A n c] w fun e w' => ∃ s, e = .returned s ∧ Own w' w.heap.size s (numsL xs) ∧ Below w.heap.size w w' := by
  have HA := hide hA
  have HN := hide hn
  have HB := hide hb
  clear hA hn hb
  go_enter Tryz.func78, Tryz.ntmps78
  go_wp2_with fail
  go_loopw [3, 5, 8] (fun b _ i wr => ∃ j : Nat, j ≤ n ∧ i = .int .i64 (j : Int) ∧ Hid (Own wr w.heap.size b (numsL (xs.take j))) ∧ Hid (Below w.heap.size w wr)) (fun _ _ i _ => n - (intOf i).toNat)
  case atStart => exact ⟨0, Nat.zero_le _, rfl, World.ownsRow_nil _ _ _ _, Below.refl _ _⟩
  case round =>
    obtain ⟨j, hj, rfl, HO, HK⟩ := hrel
    by_cases hlt : j < n
    · have hjx : j < xs.length := by rw [HN.out]; exact hlt
      obtain ⟨b, off, rfl, hcell⟩ := (HA.out.below (HK.out.mono (Nat.le_refl _))) (by intro e; rw [List.map_eq_nil_iff] at e; rw [e] at hjx; simp at hjx)
      have hc0 := hcell j (by simpa using hjx)
      obtain ⟨x, hx⟩ : ∃ x, x = xs[j] := ⟨_, rfl⟩
      have hc : wr.cell? ⟨b, off + j, none⟩ = some (.int .i64 (x : Int)) := by
        rw [hc0, hx]
        simp [hjx]
      have hxb : x < 9223372036854775808 := by rw [hx]; exact HB.out _ (List.getElem_mem hjx)
      have hwz : IntKind.u64.wrap (x : Int) = (x : Int) := by rw [IntKind.wrap_u64]; omega
      have hs : Hid (numsL (xs.take j) ++ uvl x = numsL (xs.take (j + 1))) := hide (by rw [← numsL_snoc, hx, List.take_append_getElem hjx])
      have hl : (numsL (xs.take j)).length ≤ 100 := by
        have := numsL_len (xs.take j) (fun y hy => by have := HB.out y (List.mem_of_mem_take hy); omega)
        rw [List.length_take] at this
        omega
      have hul := uvl_len64 x (by omega)
      clear hc0 hx hcell hjx
      go_wp2_with fail
      refine (uvarint_any x _ (by omega)).mono ?_
      rintro e w3 ⟨s3, rfl, o3, k3⟩
      have I3 := hide o3.isB
      have O3 := hide (HO.out.keep k3)
      have K3 := hide (HK.out.trans (k3.mono HK.out.size))
      clear o3 k3
      go_wp2_with (at_builtin; refine halt ?_)
      refine ⟨?_⟩
      refine wpList_append_bytes rfl (.tmp 12) (.tmp 15) rfl w.heap.size _ _ rfl O3.out _ _ rfl I3.out (by omega) K3.out.size ?_
      intro s4 w4 o4 k4
      rw [hs.out] at o4
      have O4 := hide o4
      have K4 := hide (K3.out.trans k4)
      clear o4 k4 O3 K3 I3
      go_wp2_with fail
      go_roundw
      case rel => exact ⟨j + 1, by omega, by go_num, O4, K4⟩
      case measure => simp [intOf]; omega
    · have hjn : j = n := by omega
      subst hjn
      go_wp2_with fail
      go_ret
      have h9 := HO.out
      rw [List.take_of_length_le (by rw [HN.out]; exact Nat.le_refl _)] at h9
      exact ⟨_, rfl, h9, HK.out⟩
end Go.Proofs.YtejhoefmcldpnaaGreat
namespace Go.Proofs.YtejhoefmcldpnaaGreat
open Go.RowKit
/-- A slice of the call's own that holds these numbers. -/
def OwnN (w : World) (B : Nat) (v : Value) (zs : List Int) : Prop := w.ownsRow B 3 1 v zs.length (zs.map fun z : Int => Value.int .i64 z)
theorem OwnN.nil (w : World) (B : Nat) : OwnN w B (.slice none 0 0) [] := World.ownsRow_nil _ _ _ _
theorem ownsRow_turn {S : Nat → Prop} {w w' : World} {B n s : Nat} {e : TypeId} {v : Value} {l : List Value} (h : w.ownsRow B e s v n l) (t : Turn S w w') (ho : Off S v) : w'.ownsRow B e s v n l := by
  refine ⟨h.1, ?_⟩
  rcases h.2 with hn | ⟨g, cap, cur, hv, h1, h2, r⟩
  · exact .inl hn
  · refine .inr ⟨g, cap, cur, hv, h1, ?_, r⟩
    rw [t.block g (heap_lt h2) (ho g (by rw [hv]; rfl))]
    exact h2
theorem ownsRow_more {w : World} {B B' n s : Nat} {e : TypeId} {v : Value} {l : List Value} (h : w.ownsRow B e s v n l) (hb : B' ≤ B) : w.ownsRow B' e s v n l := by
  refine ⟨h.1, ?_⟩
  rcases h.2 with hn | ⟨g, cap, cur, hv, h1, r⟩
  · exact .inl hn
  · exact .inr ⟨g, cap, cur, hv, by omega, r⟩
theorem ownsRow_keep {w w' : World} {B n s : Nat} {e : TypeId} {v : Value} {l : List Value} (h : w.ownsRow B e s v n l) (k : Below w.heap.size w w') : w'.ownsRow B e s v n l :=
  ownsRow_turn (S := fun _ => False) h (Turn.of_below _ k) (fun _ _ => id)
/-- A row lies apart from a row whose elements are of another type. -/
theorem ownsRow_apart {w w' : World} {B B' n n' s s' : Nat} {e e' : TypeId} {v u : Value} {l l' : List Value} (h : w.ownsRow B e s v n l) (k : w.ownsRow B' e' s' u n' l') (hne : e ≠ e') (hg : w.grownBy w' u.ownBlock) : w'.ownsRow B e s v n l := by
  refine World.ownsRow.kept h hg ?_
  rcases h.2 with ⟨rfl, _⟩ | ⟨g, cap, cur, rfl, _, hh, _⟩
  · exact .inl rfl
  · right
    rcases k.2 with ⟨rfl, _⟩ | ⟨g', cap', cur', rfl, _, hh', _⟩
    · intro e; cases e
    · intro e
      have e' : g = g' := by simpa [Value.ownBlock] using e
      subst e'
      rw [hh] at hh'
      simp only [Option.some.injEq, Obj.cells.injEq] at hh'
      exact hne hh'.2.1
/-- A row and a block of another type. -/
theorem ownsRow_blk {w : World} {B B' n s g : Nat} {e e' : TypeId} {v : Value} {l cs : List Value} (h : w.ownsRow B e s v n l) (k : Blk w B' e' g cs) (hne : e ≠ e') : v.ownBlock ≠ some g := by
  rcases h.2 with ⟨rfl, _⟩ | ⟨g', cap, cur, rfl, _, hh, _⟩
  · intro e; cases e
  · intro e
    have e2 : g' = g := by simpa [Value.ownBlock] using e
    subst e2
    obtain ⟨_, c3, h3, _⟩ := k
    rw [hh] at h3
    simp only [Option.some.injEq, Obj.cells.injEq] at h3
    exact hne h3.2.1
theorem OwnN.keep {w w' : World} {B : Nat} {v : Value} {zs : List Int} (h : OwnN w B v zs) (k : Below w.heap.size w w') : OwnN w' B v zs := ownsRow_keep h k
theorem OwnN.more {w : World} {B B' : Nat} {v : Value} {zs : List Int} (h : OwnN w B v zs) (hb : B' ≤ B) : OwnN w B' v zs := ownsRow_more h hb
theorem OwnN.isI {w : World} {B : Nat} {v : Value} {zs : List Int} (h : OwnN w B v zs) : IsI w v zs := by
  unfold OwnN at h
  rcases h.2 with ⟨rfl, hn⟩ | ⟨g, cap, cur, rfl, _, _, c1, c2, _⟩
  · rw [List.eq_nil_of_length_eq_zero hn]
    exact isI_nil w
  · refine ⟨_, _, rfl, fun _ => ⟨g, 0, rfl, fun i hi => ?_⟩, c1, by unfold maxLen at c2; omega⟩
    rw [Nat.zero_add, h.cellAt i (by omega)]
    simp [hi]
theorem OwnN.empty (w : World) : OwnN (w.alloc (.cells #[] 3)) w.heap.size (.slice (some ⟨w.heap.size, 0, none⟩) 0 0) [] := by
  unfold OwnN
  exact ⟨rfl, .inr ⟨_, 0, #[], rfl, Nat.le_refl _, heap_alloc_new w _, Nat.le_refl _, Nat.zero_le _, rfl, rfl⟩⟩
theorem OwnN.stored {w : World} {B : Nat} {g n c : Nat} {zs : List Int} (h : OwnN w B (.slice (some ⟨g, 0, none⟩) n c) zs) (hn : zs.length = n) (k : Nat) (z : Int) :
    OwnN (w.setCell ⟨g, k, none⟩ (.int .i64 z)) B (.slice (some ⟨g, 0, none⟩) n c) (zs.set k z) := by
  subst hn
  unfold OwnN at h ⊢
  have := (World.ownsRow.stored h k (.int .i64 z)).1
  simpa [List.map_set] using this
theorem OwnN.at_ {w : World} {B : Nat} {v : Value} {zs : List Int} {n : Nat} (h : OwnN w B v zs) (hn : zs.length = n) (h1 : 1 ≤ n) :
    ∃ g c, v = .slice (some ⟨g, 0, none⟩) n c ∧ B ≤ g ∧ n ≤ c ∧ c ≤ 9223372036854775807 ∧ (∀ k, k < n → w.cell? ⟨g, k, none⟩ = some (.int .i64 (zs.getD k 0))) ∧ ∀ k, w.frozen? ⟨g, k, none⟩ = false := by
  subst hn
  have h0 := h
  unfold OwnN at h
  rcases h.2 with ⟨rfl, hn⟩ | ⟨g, cap, cur, rfl, hb, hg, hc, hm, _⟩
  · omega
  · refine ⟨g, cap, rfl, hb, hc, by unfold maxLen at hm; omega, fun k hk => ?_, fun k => World.ownsRow.frozenAt h k⟩
    rw [World.ownsRow.cellAt h k (by omega)]
    simp [hk]
theorem Tryz.info_i64z : (Tryz.prog.info? 3).map (fun i => (i.zero, i.size, i.bytes)) = some (some (.int .i64 0), 1, 8) := by kernel_rfl
theorem IsI.none {w : World} {n c : Nat} {zs : List Int} (h : IsI w (.slice none n c) zs) : zs = [] := by
  rcases zs with _ | ⟨y, ys⟩
  · rfl
  · obtain ⟨_, _, e, _⟩ := h.rd (by simp)
    cases e
theorem wpList_append_nums {w : World} {ops : Array Oper} {rest : List Oper} {o : Oper} {a : Act} {Q : Exit → Act → World → Prop} (hgd : o.guard = none) (s x : Operand)
    (ho : o.op = .call { callee := .builtin .append, args := #[s, x], argTypes := #[31, 31] })
    (B : Nat) (v : Value) (xs : List Int) (hs : a.eval s = v) (hown : OwnN w B v xs)
    (u : Value) (ys : List Int) (hx : a.eval x = u) (hr : IsI w u ys) (hnil : ∀ n c, u = .slice none n c → c = 0)
    (hlen : xs.length + ys.length ≤ 1099511627776) (hbase : B ≤ w.heap.size)
    (h : ∀ v' w', OwnN w' B v' (xs ++ ys) → Below B w w' → wpList Tryz.prog ops Q rest (a.put o.dst v') w') : wpList Tryz.prog ops Q (o :: rest) a w := by
  obtain ⟨i0, hi, hz0, hz1, hz2⟩ := info_parts Tryz.info_i64z
  have hr0 := hr
  obtain ⟨A, c, rfl, hr, _⟩ := hr
  have fin : ∀ v' w', w'.ownsRow B 3 1 v' (xs.length + ys.length) ((xs.map fun x : Int => Value.int .i64 x) ++ (ys.map fun x : Int => Value.int .i64 x)) → w.grownBy w' v.ownBlock → wpList Tryz.prog ops Q rest (a.put o.dst v') w' := by
    intro v' w' hown' hg
    refine h v' w' (by unfold OwnN; simpa using hown') ((Below.refl _ _).grown hg hbase fun k hk => (hown.lt k hk).1)
  rcases A with _ | ad
  · have h0 := hnil _ _ rfl
    subst h0
    have hys := hr0.none
    subst hys
    exact wpList_append_own_none hgd s x _ ho B 3 i0 1 Tryz.underlying31 hi v _ _ hs hown hx (fin v w (by simpa [OwnN] using hown) (World.grownBy.refl w _))
  · refine wpList_append_own w hgd s x _ ho B 3 i0 (.int .i64 0) 1 8 Tryz.underlying31 hi hz0 hz1 hz2 rfl (by decide) v _ _ hs hown ad ys.length c (ys.map fun x : Int => Value.int .i64 x) hx (by simp) ?_ ?_ (by unfold maxLen; omega) (by omega) hbase (fun v' w' h1 h2 _ => fin v' w' h1 h2)
    · intro j u hu
      have hj : j < ys.length := by
        rcases Nat.lt_or_ge j ys.length with h | h
        · exact h
        · simp [h] at hu
      obtain ⟨b, off, e, hc⟩ := hr (by intro e; rw [e] at hj; simp at hj)
      cases e
      have := hc j hj
      simp [hj] at hu
      subst hu
      simpa [add_off, hj] using this
    · intro u hu
      simp at hu
      obtain ⟨y, _, rfl⟩ := hu
      rfl
end Go.Proofs.YtejhoefmcldpnaaGreat
namespace Go.Proofs.YtejhoefmcldpnaaGreat
open Go.RowKit Go.Maps
theorem row_typed {w : World} {B n s g : Nat} {e : TypeId} {v : Value} {l : List Value} (h : w.ownsRow B e s v n l) (hv : v.ownBlock = some g) : ∃ cur, w.heap[g]? = some (.cells cur e (0, 0)) := by
  rcases h.2 with ⟨rfl, _⟩ | ⟨g', cap, cur, rfl, _, hh, _⟩
  · cases hv
  · have e' : g' = g := by simpa [Value.ownBlock] using hv
    subst e'
    exact ⟨_, hh⟩
theorem row_form {w : World} {B n s : Nat} {e : TypeId} {v : Value} {l : List Value} (h : w.ownsRow B e s v n l) : ∃ A c, v = .slice A n c := by
  rcases h.2 with ⟨rfl, hn⟩ | ⟨g, cap, cur, rfl, _⟩
  · exact ⟨none, 0, by rw [hn]⟩
  · exact ⟨_, cap, rfl⟩
theorem ownsRow_notIn {w : World} {B g n z : Nat} {v : Value} {l cs : List Value} {e e' : TypeId} (h : w.ownsRow B e z v n l) (hb : Blk w 0 e' g cs) (hne : e ≠ e') : v.ownBlock ≠ some g := by
  intro q
  rcases h.2 with ⟨rfl, _⟩ | ⟨g', cap, cur, rfl, _, hh, _⟩
  · cases q
  · have e2 : g' = g := by simpa [Value.ownBlock] using q
    subst e2
    obtain ⟨_, cur', h2, _⟩ := hb
    rw [hh] at h2
    simp only [Option.some.injEq, Obj.cells.injEq] at h2
    exact hne h2.2.1
theorem wp_append_own_at {P : Program} {w : World} {o : Oper} {a : Act} {K : Act → World → Prop} {Q : Exit → Act → World → Prop} (s x : Operand) (t : TypeId)
    (ho : o.op = .call { callee := .builtin .append, args := #[s, x], argTypes := #[t, t] })
    (base : Nat) (e : TypeId) (i : TypeInfo) (z : Value) (size bytes : Nat) (ht : P.underlying t = some (.slice e)) (hi : P.info? e = some i) (hz : i.zero = some z)
    (hsize : i.size = size) (hby : i.bytes = bytes) (hzs : z.cells.size = size) (hsz : 0 < size)
    (v : Value) (n : Nat) (xs : List Value) (hs : a.eval s = v) (hown : w.ownsRow base e size v n xs)
    (ad : Addr) (m c : Nat) (news : List Value) (hx : a.eval x = .slice (some ad) m c) (hl : news.length = m * size) (hnews : ∀ j u, news[j]? = some u → w.cell? (ad.add j) = some u) (h1 : ∀ u ∈ news, u.oneCell' = true)
    (h63 : n + m ≤ maxLen) (hbytes : (n + m) * bytes ≤ 140737488355328) (hbase : base ≤ w.heap.size)
    (h : ∀ v' w', w'.ownsRow base e size v' (n + m) (xs ++ news) → w.grownBy w' v.ownBlock → (v'.ownBlock = v.ownBlock ∨ v'.ownBlock = some w.heap.size) → K (a.put o.dst v') w') : o.wp P a w K Q := by
  obtain ⟨v', w', hr, h2, h3, _, h4⟩ := run_append_own_at (P := P) w base t o.type e i z size bytes ht hi hz hsize hby hzs hsz v n xs hown ad m c news hl hnews h1 h63 hbytes hbase
  unfold Oper.wp execOp
  simp only [ho, resolve, invoke, builtin, Sem.run_bind, Sem.run_pure, Result.andThen_ok, List.map_toArray, List.map_cons, List.map_nil, hs, hx, hr]
  exact h v' w' h2 h3 h4
theorem step_append_num {w : World} {ops : Array Oper} {o : Oper} {a : Act} {K : Act → World → Prop} {Q : Exit → Act → World → Prop} {E : Prop} (hgd : o.guard = none) (s x : Operand)
    (ho : o.op = .call { callee := .builtin .append, args := #[s, x], argTypes := #[31, 31] })
    (B : Nat) (v : Value) (zs : List Int) (hs : a.eval s = v) (hown : OwnN w B v zs)
    (b : Nat) (z : Int) (hx : a.eval x = .slice (some ⟨b, 0, none⟩) 1 1) (h0 : w.cell? ⟨b, 0, none⟩ = some (.int .i64 z))
    (hlen : zs.length + 1 ≤ 1099511627776) (hbase : B ≤ w.heap.size)
    (h : ∀ v' w', OwnN w' B v' (zs ++ [z]) → w.grownBy w' v.ownBlock → (v'.ownBlock = v.ownBlock ∨ v'.ownBlock = some w.heap.size) → K (a.put o.dst v') w') : if Region.wanted o (yielded ops a.tmps) = true then Oper.wp Tryz.prog o a w K Q else E := by
  have hw : Region.wanted o (yielded ops a.tmps) = true := by simp [Region.wanted, hgd]
  rw [if_pos hw]
  obtain ⟨i0, hi, hz0, hz1, hz2⟩ := info_parts Tryz.info_i64z
  refine wp_append_own_at s x _ ho B 3 i0 _ 1 8 Tryz.underlying31 hi hz0 hz1 hz2 rfl (by decide) v _ _ hs hown ⟨b, 0, none⟩ 1 1 [.int .i64 z] hx rfl ?_ ?_ (by unfold maxLen; omega) (by omega) hbase ?_
  · intro j u hj
    match j, hj with
    | 0, hj => simp at hj; subst hj; simpa [Addr.add] using h0
  · intro u hu
    simp at hu
    subst hu
    rfl
  · intro v' w' k1 k2 k3
    refine h v' w' ?_ k2 k3
    unfold OwnN
    rw [List.length_append, List.map_append]
    exact k1
end Go.Proofs.YtejhoefmcldpnaaGreat
namespace Go.Proofs.YtejhoefmcldpnaaGreat
open Go.RowKit
theorem wpList_append_at {w : World} {ops : Array Oper} {rest : List Oper} {o : Oper} {a : Act} {Q : Exit → Act → World → Prop} (hgd : o.guard = none) (s x : Operand)
    (ho : o.op = .call { callee := .builtin .append, args := #[s, x], argTypes := #[32, 32] })
    (B : Nat) (v : Value) (xs : List Nat) (hs : a.eval s = v) (hown : Own w B v xs)
    (u : Value) (ys : List Nat) (hx : a.eval x = u) (hr : IsB w u ys)
    (hlen : xs.length + ys.length ≤ 140737488355328) (hbase : B ≤ w.heap.size)
    (h : ∀ v' w', Own w' B v' (xs ++ ys) → w.grownBy w' v.ownBlock → (v'.ownBlock = v.ownBlock ∨ v'.ownBlock = some w.heap.size) → wpList Tryz.prog ops Q rest (a.put o.dst v') w') : wpList Tryz.prog ops Q (o :: rest) a w := by
  obtain ⟨i0, hi, hz0, hz1, hz2⟩ := info_parts Tryz.info_u8'
  obtain ⟨A, c, rfl, hr, hn, _⟩ := hr
  have fin : ∀ v' w', w'.ownsRow B 5 1 v' (xs.length + ys.length) ((xs.map fun x : Nat => Value.int .u8 (x : Int)) ++ (ys.map fun x : Nat => Value.int .u8 (x : Int))) → w.grownBy w' v.ownBlock → (v'.ownBlock = v.ownBlock ∨ v'.ownBlock = some w.heap.size) → wpList Tryz.prog ops Q rest (a.put o.dst v') w' := by
    intro v' w' hown' hg hl
    exact h v' w' (by unfold Own; simpa using hown') hg hl
  rcases A with _ | ad
  · have h0 := hn rfl
    subst h0
    have hys : ys = [] := by
      rcases ys with _ | ⟨y, ys⟩
      · rfl
      · obtain ⟨_, _, e, _⟩ := hr (by simp)
        cases e
    subst hys
    exact wpList_append_own_none hgd s x _ ho B 5 i0 1 Tryz.underlying32 hi v _ _ hs hown hx (fin v w (by simpa [Own] using hown) (World.grownBy.refl w _) (.inl rfl))
  · refine wpList_append_own_at w hgd s x _ ho B 5 i0 (.int .u8 0) 1 1 Tryz.underlying32 hi hz0 hz1 hz2 rfl (by decide) v _ _ hs hown ad ys.length c (ys.map fun x : Nat => Value.int .u8 (x : Int)) hx (by simp) ?_ ?_ (by unfold maxLen; omega) (by omega) hbase (fun v' w' h1 h2 _ h4 => fin v' w' h1 h2 h4)
    · intro j u hu
      have hj : j < ys.length := by
        rcases Nat.lt_or_ge j ys.length with h | h
        · exact h
        · simp [h] at hu
      obtain ⟨b, off, e, hc⟩ := hr (by intro e; rw [e] at hj; simp at hj)
      cases e
      have := hc j hj
      simp [hj] at hu
      subst hu
      simpa [add_off, hj] using this
    · intro u hu
      simp at hu
      obtain ⟨y, _, rfl⟩ := hu
      rfl
end Go.Proofs.YtejhoefmcldpnaaGreat
namespace Go.Proofs.YtejhoefmcldpnaaGreat
open Go.RowKit
/-- A cell that is none of a disk's stands behind a call of it. -/
theorem Next.far {F F' : Nat → Prop} {w w' : World} (n : Next F w F' w') {b i : Nat} (hb : b < w.heap.size) (hn : ¬ F b) : w'.cell? ⟨b, i, none⟩ = w.cell? ⟨b, i, none⟩ := by
  have := n.turn.block b hb hn
  unfold World.cell?
  simp only [this]
theorem below_drew (w : World) : Below w.heap.size w w.drew := ⟨rfl, rfl, rfl, Nat.le_refl _, fun _ _ => rfl⟩
end Go.Proofs.YtejhoefmcldpnaaGreat
namespace Go.Proofs.YtejhoefmcldpnaaGreat
open Go.RowKit Go.Maps
theorem append_old {P : Program} {w : World} (base : Nat) (t ty e : TypeId) (i : TypeInfo) (z : Value) (size bytes : Nat) (ht : P.underlying t = some (.slice e)) (hi : P.info? e = some i) (hz : i.zero = some z)
    (hsize : i.size = size) (hby : i.bytes = bytes) (hsz : 0 < size)
    (v : Value) (n : Nat) (xs : List Value) (hown : w.ownsRow base e size v n xs)
    (a : Addr) (m c : Nat) (news : List Value) (hl : news.length = m * size) (hnews : ∀ j u, news[j]? = some u → w.cell? (a.add j) = some u) (h1 : ∀ u ∈ news, u.oneCell' = true)
    (h63 : n + m ≤ maxLen) (hbytes : (n + m) * bytes ≤ 140737488355328) {v' : Value} {w' : World}
    (hr : (Builtin.append_ #[t, t] ty #[v, .slice (some a) m c]).run P w = .ok v' w') : w'.ownsRow base e size v n xs := by
  subst hsize
  subst hby
  have hsmall : n + m ≤ 9223372036854775807 := by simp only [maxLen] at h63; omega
  rcases hown.2 with ⟨rfl, rfl⟩ | ⟨g, cap, cur, rfl, hbg, hg, hnc, hcm, hcs, htake⟩
  · exact ⟨hown.1, .inl ⟨rfl, rfl⟩⟩
  · by_cases hroom : n + m ≤ cap
    · have hfit : n * i.size + news.length ≤ cur.size := by rw [hl, hcs, ← Nat.add_mul]; exact Nat.mul_le_mul_right _ hroom
      have hr2 := run_append_room (P := P) w t ty e i ht hi g n cap cur hg a m c news hl hnews h1 hroom hfit
      rw [hr2] at hr
      cases hr
      refine ⟨hown.1, .inr ⟨g, cap, _, rfl, hbg, setRow_heap w g cur _ e _ hg, hnc, hcm, ?_, ?_⟩⟩
      · simp only [List.size_toArray, List.length_append, List.length_take, List.length_drop, Array.length_toList]
        omega
      · have hlx : (cur.toList.take (n * i.size)).length = n * i.size := by rw [List.length_take, Array.length_toList]; omega
        show List.take (n * i.size) (cur.toList.take (n * i.size) ++ news ++ cur.toList.drop (n * i.size + news.length)) = xs
        rw [List.append_assoc, List.take_left' hlx]
        exact htake
    · have holds : ∀ j u, xs[j]? = some u → w.cell? ((⟨g, 0, none⟩ : Addr).add j) = some u := hown.cells (g := g) rfl
      have hr2 := run_append_grow (P := P) w t ty e i z ht hi hz ⟨g, 0, none⟩ n cap xs hown.1 holds a m c news hl hnews (by omega) (by omega) (growslice_fits (by omega) hbytes)
      rw [hr2] at hr
      cases hr
      refine ⟨hown.1, .inr ⟨g, cap, cur, rfl, hbg, ?_, hnc, hcm, hcs, htake⟩⟩
      rw [heap_alloc_old w.drew _ (heap_lt hg)]
      exact hg
theorem wpList_append_own_old {P : Program} {w : World} {ops : Array Oper} {rest : List Oper} {o : Oper} {a : Act} {Q : Exit → Act → World → Prop} (hgd : o.guard = none) (s x : Operand) (t : TypeId)
    (ho : o.op = .call { callee := .builtin .append, args := #[s, x], argTypes := #[t, t] })
    (base : Nat) (e : TypeId) (i : TypeInfo) (z : Value) (size bytes : Nat) (ht : P.underlying t = some (.slice e)) (hi : P.info? e = some i) (hz : i.zero = some z)
    (hsize : i.size = size) (hby : i.bytes = bytes) (hzs : z.cells.size = size) (hsz : 0 < size)
    (v : Value) (n : Nat) (xs : List Value) (hs : a.eval s = v) (hown : w.ownsRow base e size v n xs)
    (ad : Addr) (m c : Nat) (news : List Value) (hx : a.eval x = .slice (some ad) m c) (hl : news.length = m * size) (hnews : ∀ j u, news[j]? = some u → w.cell? (ad.add j) = some u) (h1 : ∀ u ∈ news, u.oneCell' = true)
    (h63 : n + m ≤ maxLen) (hbytes : (n + m) * bytes ≤ 140737488355328) (hbase : base ≤ w.heap.size)
    (h : ∀ v' w', w'.ownsRow base e size v' (n + m) (xs ++ news) → w'.ownsRow base e size v n xs → w.grownBy w' v.ownBlock → (v'.ownBlock = v.ownBlock ∨ v'.ownBlock = some w.heap.size) → wpList P ops Q rest (a.put o.dst v') w') :
    wpList P ops Q (o :: rest) a w := by
  refine wpList_plain hgd fun K hK => ?_
  obtain ⟨v', w', hr, h2, h3, h4, h5⟩ := run_append_own_at (P := P) w base t o.type e i z size bytes ht hi hz hsize hby hzs hsz v n xs hown ad m c news hl hnews h1 h63 hbytes hbase
  have h6 := append_old base t o.type e i z size bytes ht hi hz hsize hby hsz v n xs hown ad m c news hl hnews h1 h63 hbytes hr
  unfold Oper.wp execOp
  simp only [ho, resolve, invoke, builtin, Sem.run_bind, Sem.run_pure, Result.andThen_ok, List.map_toArray, List.map_cons, List.map_nil, hs, hx, hr]
  exact hK _ _ (h v' w' h2 h6 h3 h5)
end Go.Proofs.YtejhoefmcldpnaaGreat
namespace Go.Proofs.YtejhoefmcldpnaaGreat
open Go.RowKit
/-- A slice of the call's own that holds these slices. -/
def OwnV (w : World) (B : Nat) (v : Value) (vs : List Value) : Prop := w.ownsRow B 32 1 v vs.length vs
/-- Each of these slices is of the call's own, and holds these bytes. -/
def Owns (w : World) (B : Nat) (vs : List Value) (xss : List (List Nat)) : Prop := vs.length = xss.length ∧ ∀ i, i < vs.length → Own w B (vs.getD i (.slice none 0 0)) (xss.getD i [])
theorem OwnV.nil (w : World) (B : Nat) : OwnV w B (.slice none 0 0) [] := World.ownsRow_nil _ _ _ _
theorem OwnV.form {w : World} {B : Nat} {v : Value} {vs : List Value} {n : Nat} (h : OwnV w B v vs) (hn : vs.length = n) : ∃ A c, v = .slice A n c ∧ RdV w A vs ∧ n ≤ 9223372036854775807 := by
  subst hn
  unfold OwnV at h
  rcases h.2 with ⟨rfl, hn⟩ | ⟨g, cap, cur, rfl, _, _, c1, c2, _⟩
  · refine ⟨none, 0, by rw [hn], fun hne => ?_, by omega⟩
    exact absurd (List.eq_nil_of_length_eq_zero hn) hne
  · refine ⟨_, _, rfl, fun _ => ⟨g, 0, rfl, fun i hi => ?_⟩, by unfold maxLen at c2; omega⟩
    rw [Nat.zero_add, h.cellAt i (by omega)]
    simp [hi]
theorem OwnV.keep {w w' : World} {B : Nat} {v : Value} {vs : List Value} (h : OwnV w B v vs) (hb : Below w.heap.size w w') : OwnV w' B v vs := by
  unfold OwnV at h ⊢
  refine ⟨h.1, ?_⟩
  rcases h.2 with hn | ⟨g, cap, cur, hv, h1, h2, r⟩
  · exact .inl hn
  · refine .inr ⟨g, cap, cur, hv, h1, ?_, r⟩
    rw [hb.block g ?_]
    · exact h2
    · exact (h.lt g (by rw [hv]; rfl)).2
theorem OwnV.more {w : World} {B B' : Nat} {v : Value} {vs : List Value} (h : OwnV w B v vs) (hb : B' ≤ B) : OwnV w B' v vs := by
  unfold OwnV at h ⊢
  refine ⟨h.1, ?_⟩
  rcases h.2 with hn | ⟨g, cap, cur, hv, h1, r⟩
  · exact .inl hn
  · exact .inr ⟨g, cap, cur, hv, by omega, r⟩
theorem Owns.keep {w w' : World} {B : Nat} {vs : List Value} {xss : List (List Nat)} (h : Owns w B vs xss) (hb : Below w.heap.size w w') : Owns w' B vs xss := ⟨h.1, fun i hi => (h.2 i hi).keep hb⟩
theorem Owns.isBs {w : World} {B : Nat} {vs : List Value} {xss : List (List Nat)} (h : Owns w B vs xss) : IsBs w vs xss := ⟨h.1, fun i hi => (h.2 i hi).isB⟩
theorem Owns.nil (w : World) (B : Nat) : Owns w B [] [] := ⟨rfl, fun _ h => absurd h (by simp)⟩
theorem Owns.more {w : World} {B B' : Nat} {vs : List Value} {xss : List (List Nat)} (h : Owns w B vs xss) (hb : B' ≤ B) : Owns w B' vs xss := ⟨h.1, fun i hi => (h.2 i hi).more hb⟩
/-- Bytes of the call's own are none of the blocks in which slices of slices lie. -/
theorem Own.apart {w w' : World} {B B' : Nat} {v u : Value} {xs : List Nat} {vs : List Value} (h : Own w B v xs) (hv : OwnV w B' u vs) (hg : w.grownBy w' u.ownBlock) : Own w' B v xs := by
  unfold Own OwnV at *
  refine World.ownsRow.kept h hg ?_
  rcases h.2 with ⟨rfl, _⟩ | ⟨g, cap, cur, rfl, _, hh, _⟩
  · exact .inl rfl
  · right
    rcases hv.2 with ⟨rfl, _⟩ | ⟨g', cap', cur', rfl, _, hh', _⟩
    · intro e; cases e
    · intro e
      have e' : g = g' := by simpa [Value.ownBlock] using e
      subst e'
      rw [hh] at hh'
      simp only [Option.some.injEq, Obj.cells.injEq] at hh'
      exact absurd hh'.2.1 (by decide)
theorem Owns.apart {w w' : World} {B B' : Nat} {u : Value} {vs us : List Value} {xss : List (List Nat)} (h : Owns w B vs xss) (hv : OwnV w B' u us) (hg : w.grownBy w' u.ownBlock) : Owns w' B vs xss := ⟨h.1, fun i hi => (h.2 i hi).apart hv hg⟩
theorem Owns.snoc {w : World} {B : Nat} {vs : List Value} {xss : List (List Nat)} {v : Value} {xs : List Nat} (h : Owns w B vs xss) (hv : Own w B v xs) : Owns w B (vs ++ [v]) (xss ++ [xs]) := by
  refine ⟨by rw [List.length_append, List.length_append, h.1]; rfl, fun i hi => ?_⟩
  rw [List.length_append] at hi
  simp only [List.getD_eq_getElem?_getD]
  by_cases hlt : i < vs.length
  · rw [List.getElem?_append_left hlt, List.getElem?_append_left (by rw [← h.1]; exact hlt), ← List.getD_eq_getElem?_getD, ← List.getD_eq_getElem?_getD]
    exact h.2 i hlt
  · have e : i = vs.length := by simp at hi; omega
    subst e
    rw [List.getElem?_append_right (Nat.le_refl _), List.getElem?_append_right (by rw [h.1]; exact Nat.le_refl _), h.1, Nat.sub_self]
    exact hv
theorem Tryz.info_rows : (Tryz.prog.info? 32).map (fun i => (i.zero, i.size, i.bytes)) = some (some (.slice none 0 0), 1, 24) := by kernel_rfl
theorem wpList_append_row {w : World} {ops : Array Oper} {rest : List Oper} {o : Oper} {a : Act} {Q : Exit → Act → World → Prop} (hgd : o.guard = none) (s x : Operand)
    (ho : o.op = .call { callee := .builtin .append, args := #[s, x], argTypes := #[48, 48] })
    (B : Nat) (v : Value) (vs : List Value) (hs : a.eval s = v) (hown : OwnV w B v vs)
    (b : Nat) (u : Value) (hx : a.eval x = .slice (some ⟨b, 0, none⟩) 1 1) (hu : w.cell? ⟨b, 0, none⟩ = some u) (h1 : u.oneCell' = true)
    (hlen : vs.length + 1 ≤ 1099511627776) (hbase : B ≤ w.heap.size)
    (h : ∀ v' w', OwnV w' B v' (vs ++ [u]) → Below B w w' → w.grownBy w' v.ownBlock → wpList Tryz.prog ops Q rest (a.put o.dst v') w') : wpList Tryz.prog ops Q (o :: rest) a w := by
  obtain ⟨i0, hi, hz0, hz1, hz2⟩ := info_parts Tryz.info_rows
  refine wpList_append_own w hgd s x _ ho B 32 i0 (.slice none 0 0) 1 24 Tryz.underlying48 hi hz0 hz1 hz2 rfl (by decide) v _ _ hs hown ⟨b, 0, none⟩ 1 1 [u] hx rfl ?_ ?_ (by unfold maxLen; omega) (by omega) hbase ?_
  · intro j z hj
    match j, hj with
    | 0, hj => simp at hj; subst hj; simpa [Addr.add] using hu
  · intro z hz; simp at hz; subst hz; exact h1
  · intro v' w' h2 h3 _
    exact h v' w' (by unfold OwnV; simpa using h2) ((Below.refl _ _).grown h3 hbase fun k hk => (hown.lt k hk).1) h3
theorem cell_new (w : World) (u : Value) (e : TypeId) : (w.alloc (.cells #[u] e)).cell? ⟨w.heap.size, 0, none⟩ = some u := by
  rw [cell_of_row _ _ _ _ _ (0, 0) (heap_alloc_new w _)]
  rfl
end Go.Proofs.YtejhoefmcldpnaaGreat
namespace Go.Proofs.YtejhoefmcldpnaaGreat
open Go.RowKit
/-- What the functions hold: boxes of the disk, the draft's name, the record, the name. -/
structure Boxes (w : World) (a b c e d : Nat) (t s : ByteArray) (R : Value) : Prop where
  disk : w.cell? ⟨a, 0, none⟩ = some (.pointer (some ⟨d, 0, none⟩))
  draft : w.cell? ⟨b, 0, none⟩ = some (.string t)
  record : w.cell? ⟨c, 0, none⟩ = some R
  name : w.cell? ⟨e, 0, none⟩ = some (.string s)
/-- The row of functions. -/
structure Funcs (w : World) (g a b c e : Nat) : Prop where
  f0 : w.cell? ⟨g, 0, none⟩ = some (.func (.func 121) #[] #[.pointer (some ⟨a, 0, none⟩), .pointer (some ⟨b, 0, none⟩)])
  f1 : w.cell? ⟨g, 1, none⟩ = some (.func (.func 122) #[] #[.pointer (some ⟨a, 0, none⟩), .pointer (some ⟨b, 0, none⟩), .pointer (some ⟨c, 0, none⟩)])
  f2 : w.cell? ⟨g, 2, none⟩ = some (.func (.func 123) #[] #[.pointer (some ⟨a, 0, none⟩), .pointer (some ⟨b, 0, none⟩)])
  f3 : w.cell? ⟨g, 3, none⟩ = some (.func (.func 124) #[] #[.pointer (some ⟨a, 0, none⟩), .pointer (some ⟨b, 0, none⟩), .pointer (some ⟨e, 0, none⟩)])
theorem size_alloc1 (w : World) (o : Obj) : (w.alloc o).heap.size = w.heap.size + 1 := by simp
theorem new_cell (w : World) (cs : Array Value) (t : TypeId) (b i : Nat) (v : Value) (hb : b = w.heap.size) (h : cs[i]? = some v) : (w.alloc (.cells cs t)).cell? ⟨b, i, none⟩ = some v := by
  subst hb
  rw [← h]
  exact cell_of_row _ _ _ _ _ (0, 0) (heap_alloc_new w _)
theorem old_cell (w : World) (o : Obj) {p : Addr} {v : Value} (h : w.cell? p = some v) : (w.alloc o).cell? p = some v := ((below_alloc w o).cell (cell_lt h)).trans h
set_option maxHeartbeats 1600000 in
theorem steps_any (d : Nat) (s : ByteArray) (P : Option Addr) (m cp : Nat) (w : World) (hs : s.size ≤ 64) :
    Calls Tryz.prog 105 #[.pointer (some ⟨d, 0, none⟩), .string s, .slice P m cp] w fun ex w' => ∃ g a b c e, ex = .returned (.slice (some ⟨g, 0, none⟩) 4 4) ∧ Boxes w' a b c e d (s ++ ⟨#[126]⟩) s (.slice P m cp) ∧ Funcs w' g a b c e ∧
      (w.heap.size ≤ a ∧ w.heap.size ≤ b ∧ w.heap.size ≤ c ∧ w.heap.size ≤ e ∧ w.heap.size ≤ g) ∧ Below w.heap.size w w' := by
  go_enter Tryz.func105, Tryz.ntmps105
  go_wp2_with fail
  refine bodyPost_ret (v := ?v) ?h1 ?h2 ?h3
  case h2 => rfl
  case h1 => exact results_tmp (fn := Tryz.f105) (t := 6) rfl _ _ _
  refine ⟨w.heap.size + 1 + 1 + 1 + 1, w.heap.size, w.heap.size + 1 + 1 + 1, w.heap.size + 1 + 1, w.heap.size + 1, rfl, ⟨?_, ?_, ?_, ?_⟩, ⟨?_, ?_, ?_, ?_⟩, ⟨by omega, by omega, by omega, by omega, by omega⟩, ?_⟩
  · exact old_cell _ _ (old_cell _ _ (old_cell _ _ (old_cell _ _ (new_cell _ _ _ _ _ _ rfl rfl))))
  · exact old_cell _ _ (new_cell _ _ _ _ _ _ (by simp only [size_alloc1]) rfl)
  · exact old_cell _ _ (old_cell _ _ (new_cell _ _ _ _ _ _ (by simp only [size_alloc1]) rfl))
  · exact old_cell _ _ (old_cell _ _ (old_cell _ _ (new_cell _ _ _ _ _ _ (by simp only [size_alloc1]) rfl)))
  · exact new_cell _ _ _ _ _ _ (by simp only [size_alloc1]) rfl
  · exact new_cell _ _ _ _ _ _ (by simp only [size_alloc1]) rfl
  · exact new_cell _ _ _ _ _ _ (by simp only [size_alloc1]) rfl
  · exact new_cell _ _ _ _ _ _ (by simp only [size_alloc1]) rfl
  · exact below_step (below_step (below_step (below_step (below_alloc w _) (below_alloc _ _)) (below_alloc _ _)) (below_alloc _ _)) (below_alloc _ _)
end Go.Proofs.YtejhoefmcldpnaaGreat
