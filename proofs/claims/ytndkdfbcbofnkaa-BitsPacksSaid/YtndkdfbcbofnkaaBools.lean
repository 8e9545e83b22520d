/- Truths that a slice holds: slices of truths that came in, that the call made, and an append to them; how many bytes hold so many digits. Conditions: lengths below 2 to the 47. -/
import Derived.Test.YtndkdfbcbofnkaaApp
namespace Go.Proofs.Ytndkdfbcbofnkaa
open Go.RowKit
def BRd (w : World) (A : Option Addr) (l : List Bool) : Prop :=
  l ≠ [] → ∃ b off, A = some ⟨b, off, none⟩ ∧ ∀ i, i < l.length → w.cell? ⟨b, off + i, none⟩ = some (.bool (l.getD i false))
theorem BRd.below {w w' : World} {A : Option Addr} {l : List Bool} (h : BRd w A l) (hb : Below w.heap.size w w') : BRd w' A l := by
  intro hne
  obtain ⟨b, off, e, hc⟩ := h hne
  exact ⟨b, off, e, fun i hi => (hb.cell (cell_lt (hc i hi))).trans (hc i hi)⟩
theorem BRd.drewN {w : World} {A : Option Addr} {l : List Bool} (h : BRd w A l) (n : Nat) : BRd (w.drewN n) A l := h
def BOwn (w : World) (B : Nat) (v : Value) (l : List Bool) : Prop := w.ownsRow B 4 1 v l.length (l.map Value.bool)
theorem BOwn.nil (w : World) (B : Nat) : BOwn w B (.slice none 0 0) [] := World.ownsRow_nil _ _ _ _
theorem BOwn.form {w : World} {B : Nat} {v : Value} {l : List Bool} {n : Nat} (h : BOwn w B v l) (hn : l.length = n) : ∃ A c, v = .slice A n c ∧ BRd w A l ∧ n ≤ 9223372036854775807 := by
  subst hn
  unfold BOwn at h
  rcases h.2 with ⟨rfl, hn⟩ | ⟨g, cap, cur, rfl, _, _, c1, c2, _⟩
  · refine ⟨none, 0, by rw [hn], fun hne => ?_, by omega⟩
    exact absurd (List.eq_nil_of_length_eq_zero hn) hne
  · refine ⟨_, _, rfl, fun _ => ⟨g, 0, rfl, fun i hi => ?_⟩, by unfold maxLen at c2; omega⟩
    rw [Nat.zero_add, h.cellAt i (by omega)]
    simp [hi]
theorem BOwn.keep {w w' : World} {B : Nat} {v : Value} {l : List Bool} (h : BOwn w B v l) (hb : Below w.heap.size w w') : BOwn w' B v l := by
  unfold BOwn at h ⊢
  refine ⟨h.1, ?_⟩
  rcases h.2 with hn | ⟨g, cap, cur, hv, h1, h2, r⟩
  · exact .inl hn
  · refine .inr ⟨g, cap, cur, hv, h1, ?_, r⟩
    rw [hb.block g ?_]
    · exact h2
    · exact (h.lt g (by rw [hv]; rfl)).2
theorem BOwn.more {w : World} {B B' : Nat} {v : Value} {l : List Bool} (h : BOwn w B v l) (hb : B' ≤ B) : BOwn w B' v l := by
  unfold BOwn at h ⊢
  refine ⟨h.1, ?_⟩
  rcases h.2 with hn | ⟨g, cap, cur, hv, h1, r⟩
  · exact .inl hn
  · exact .inr ⟨g, cap, cur, hv, by omega, r⟩
theorem Try.info_bool : (Try.prog.info? 4).map (fun i => (i.zero, i.size, i.bytes)) = some (some (.bool false), 1, 1) := by kernel_rfl
theorem wpList_append_bool {w : World} {ops : Array Oper} {rest : List Oper} {o : Oper} {a : Act} {Q : Exit → Act → World → Prop} (hgd : o.guard = none) (s x : Operand)
    (ho : o.op = .call { callee := .builtin .append, args := #[s, x], argTypes := #[51, 51] })
    (B : Nat) (v : Value) (l : List Bool) (hs : a.eval s = v) (hown : BOwn w B v l)
    (b : Nat) (t : Bool) (hx : a.eval x = .slice (some ⟨b, 0, none⟩) 1 1) (ht : w.cell? ⟨b, 0, none⟩ = some (.bool t))
    (hlen : l.length + 1 ≤ 140737488355328) (hbase : B ≤ w.heap.size)
    (h : ∀ v' w', BOwn w' B v' (l ++ [t]) → Below B w w' → wpList Try.prog ops Q rest (a.put o.dst v') w') : wpList Try.prog ops Q (o :: rest) a w := by
  obtain ⟨i0, hi, hz0, hz1, hz2⟩ := info_parts Try.info_bool
  refine wpList_append_own w hgd s x _ ho B 4 i0 (.bool false) 1 1 Try.underlying51 hi hz0 hz1 hz2 rfl (by decide) v _ _ hs hown ⟨b, 0, none⟩ 1 1 [.bool t] hx rfl ?_ ?_ (by unfold maxLen; omega) (by omega) hbase ?_
  · intro j u hj
    match j, hj with
    | 0, hj => simp at hj; subst hj; simpa [Addr.add] using ht
  · intro u hu; simp at hu; subst hu; rfl
  · intro v' w' h1 h2 _
    exact h v' w' (by unfold BOwn; simpa using h1) ((Below.refl _ _).grown h2 hbase fun k hk => (hown.lt k hk).1)
theorem BOwn.stored {w : World} {B : Nat} {g n c : Nat} {l : List Bool} (h : BOwn w B (.slice (some ⟨g, 0, none⟩) n c) l) (hn : l.length = n) (k : Nat) (z : Bool) :
    BOwn (w.setCell ⟨g, k, none⟩ (.bool z)) B (.slice (some ⟨g, 0, none⟩) n c) (l.set k z) := by
  subst hn
  unfold BOwn at h ⊢
  have := (World.ownsRow.stored h k (.bool z)).1
  simpa [List.map_set] using this
theorem BOwn.cells {w : World} {B : Nat} {g n c : Nat} {l : List Bool} (h : BOwn w B (.slice (some ⟨g, 0, none⟩) n c) l) (hn : l.length = n) (k : Nat) :
    (k < n → w.cell? ⟨g, k, none⟩ = some (.bool (l.getD k false))) ∧ w.frozen? ⟨g, k, none⟩ = false := by
  subst hn
  unfold BOwn at h
  refine ⟨fun hk => ?_, World.ownsRow.frozenAt h k⟩
  rw [World.ownsRow.cellAt h k (by omega)]
  simp [hk]
/-! ### how many bytes hold n digits -/
def need (n : Nat) : Nat := n / 8 + (if n % 8 = 0 then 0 else 1)
theorem need_eq (n : Nat) : need n = (n + 7) / 8 := by unfold need; split <;> omega
theorem and7 (n : Nat) (h : n < 9223372036854775808) : bits .and .i64 (n : Int) 7 = ((n % 8 : Nat) : Int) := by
  have e : (7 : Int) = ((7 : Nat) : Int) := rfl
  rw [e]
  show IntKind.i64.wrap ((BitVec.ofInt 64 (n : Int) &&& BitVec.ofInt 64 ((7 : Nat) : Int)).toNat : Int) = _
  rw [BitVec.toNat_and, ofInt_u64 n (by omega), ofInt_u64 7 (by decide), nat_mask3, IntKind.wrap_i64]
  omega
set_option maxHeartbeats 400000 in
theorem bytesOf_any (n : Nat) (w : World) (hn : n < 9223372036854775808) :
    Calls Try.prog 39 #[.int .i64 (n : Int)] w fun e w' => e = .returned (.int .i64 (need n : Nat)) ∧ w = w' := by
  have ha := and7 n hn
  by_cases h : n % 8 = 0
  · have HD : Hid (need n = n / 8) := by unfold need Hid; rw [if_pos h]; rfl
    rw [h] at ha
    clear h
    go_enter Try.func39, Try.ntmps39
    go_wp2
    go_ret
    exact ⟨ret_int (by rw [HD.out]; omega), rfl⟩
  · have HD : Hid (need n = n / 8 + 1) := by unfold need Hid; rw [if_neg h]
    have hne : (((n % 8 : Nat) : Int) != 0) = true := by simp; omega
    obtain ⟨r, hr⟩ : ∃ r, r = n % 8 := ⟨_, rfl⟩
    rw [← hr] at ha hne
    clear h hr
    go_enter Try.func39, Try.ntmps39
    go_wp2
    go_ret
    exact ⟨ret_int (by rw [HD.out]; omega), rfl⟩
end Go.Proofs.Ytndkdfbcbofnkaa
