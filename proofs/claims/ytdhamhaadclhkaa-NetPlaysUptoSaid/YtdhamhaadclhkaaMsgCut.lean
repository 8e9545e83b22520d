/- A row of messages cut in its own block: what is moved up, what is cleared. No condition. -/
import Derived.Test.YtdhamhaadclhkaaMsgRow
import Derived.Deep.RegionLaw
import Derived.Laws.IdiomCopy
namespace Go.Proofs.Ytdhamhaadclhkaa
open Go.RowKit
theorem ownsRow_setCells {B s n c b : Nat} {e : TypeId} {l : List Value} : ∀ (vs : List Value) (o : Nat) (w : World), n * s ≤ o → w.ownsRow B e s (.slice (some ⟨b, 0, none⟩) n c) n l → (w.setCells b o vs).ownsRow B e s (.slice (some ⟨b, 0, none⟩) n c) n l ∧ w.grownBy (w.setCells b o vs) (some b)
  | [], _, w, _, h => ⟨h, World.grownBy.refl w _⟩
  | v :: r, o, w, ho, h => by
    have h1 := (World.ownsRow.stored h o v).1
    rw [List.set_eq_of_length_le (by rw [h.1]; exact ho)] at h1
    obtain ⟨h2, g2⟩ := ownsRow_setCells r (o + 1) (w.setCell ⟨b, o, none⟩ v) (by omega) h1
    exact ⟨h2, (grown_set w b o v).trans g2⟩
theorem OwnM.front {w : World} {B b N c : Nat} {X : List Itm} (h : OwnM w B (.slice (some ⟨b, 0, none⟩) N c) X) (i : Nat) (hi : i ≤ X.length) : OwnM w B (.slice (some ⟨b, 0, none⟩) i c) (X.take i) := by
  have hl : (X.take i).length = i := by rw [List.length_take]; omega
  unfold OwnM at h ⊢
  rw [hl]
  refine ⟨by rw [cellsM_length, hl], ?_⟩
  rcases h.2 with ⟨e, _⟩ | ⟨g, cap, cur, e, h1, h2, h3, h4, h5, h6⟩
  · simp at e
  · simp only [Value.slice.injEq, Option.some.injEq, Addr.mk.injEq] at e
    obtain ⟨⟨rfl, _⟩, _, rfl⟩ := e
    refine .inr ⟨b, c, cur, rfl, h1, h2, by omega, h4, h5, ?_⟩
    rw [cellsM_take X i hi, ← h6, List.take_take]
    congr 1
    omega
theorem Try.zero_msg (w : World) : (zeroValue 45).run Try.prog w = .ok (.agg #[.int .i64 0, .int .i64 0, .int .i64 0, .slice none 0 0, .slice none 0 0]) w := by kernel_rfl
theorem zeroCells_one (n : Nat) : ∀ v ∈ (Builtin.zeroCells (Value.agg #[.int .i64 0, .int .i64 0, .int .i64 0, .slice none 0 0, .slice none 0 0]).cells n).toList, v.oneCell' = true := by
  intro v hv
  simp only [Builtin.zeroCells, Array.toList_map, List.mem_map] at hv
  obtain ⟨i, _, rfl⟩ := hv
  have hz : (Value.agg #[.int .i64 0, .int .i64 0, .int .i64 0, .slice none 0 0, .slice none 0 0]).cells = #[.int .i64 0, .int .i64 0, .int .i64 0, .slice none 0 0, .slice none 0 0] := by rfl
  rw [hz]
  have : i % 5 < 5 := Nat.mod_lt _ (by decide)
  obtain ⟨j, hj⟩ : ∃ j, j = i % 5 := ⟨_, rfl⟩
  show ((#[.int .i64 0, .int .i64 0, .int .i64 0, .slice none 0 0, .slice none 0 0] : Array Value)[i % 5]!).oneCell' = true
  rw [← hj] at this ⊢
  match j, this with
  | 0, _ => rfl
  | 1, _ => rfl
  | 2, _ => rfl
  | 3, _ => rfl
  | 4, _ => rfl
/-- 'clear' of what stands behind the first n messages. -/
theorem clear_msgs (w : World) (B b n c k cc : Nat) (l : List Value) (h : w.ownsRow B 45 5 (.slice (some ⟨b, 0, none⟩) n c) n l) (hk : n + k ≤ c) :
    ∃ w', (∀ ty, (Builtin.clear_ #[49] ty #[.slice (some ⟨b, n * 5, none⟩) k cc]).run Try.prog w = .ok (.tuple #[]) w') ∧ w'.ownsRow B 45 5 (.slice (some ⟨b, 0, none⟩) n c) n l ∧ w.grownBy w' (some b) := by
  rcases Nat.eq_zero_or_pos k with rfl | hpos
  · exact ⟨w, fun ty => by simp [Builtin.clear_, run_underlying Try.underlying49], h, World.grownBy.refl w _⟩
  · obtain ⟨zs, hzs⟩ : ∃ zs, zs = (Builtin.zeroCells (Value.agg #[.int .i64 0, .int .i64 0, .int .i64 0, .slice none 0 0, .slice none 0 0]).cells k).toList := ⟨_, rfl⟩
    have hlen : zs.length = k * 5 := by
      rw [hzs, Array.length_toList, size_zeroCells]
      rfl
    obtain ⟨h2, g2⟩ := ownsRow_setCells zs (n * 5) w (Nat.le_refl _) h
    refine ⟨_, fun ty => ?_, h2, g2⟩
    rcases h.2 with ⟨e, _⟩ | ⟨g, cap, cur, e, h1, h2', h3, h4, h5, h6⟩
    · simp at e
    · simp only [Value.slice.injEq, Option.some.injEq, Addr.mk.injEq] at e
      obtain ⟨⟨rfl, _⟩, _, rfl⟩ := e
      have hst := run_storeCells_cells (P := Try.prog) b (n * 5) zs 0 w (fun j hj => by
          rw [cell_of_row w b _ cur _ (0, 0) h2']
          rw [hlen] at hj
          rw [Array.getElem?_eq_getElem (by omega)]
          rfl) (fun j hj => frozen_of_row w b _ cur _ h2') (by rw [hzs]; exact zeroCells_one k)
      simp only [Nat.add_zero] at hst
      obtain ⟨m, rfl⟩ : ∃ m, k = m + 1 := ⟨k - 1, by omega⟩
      rw [hzs] at hst
      rw [hzs]
      simp [Builtin.clear_, run_underlying Try.underlying49, hst]
theorem OwnM.clear {w : World} {B b n c : Nat} {X : List Itm} (h : OwnM w B (.slice (some ⟨b, 0, none⟩) n c) X) (hn : X.length = n) (k cc : Nat) (hk : n + k ≤ c) :
    ∃ w', (∀ ty, (Builtin.clear_ #[49] ty #[.slice (some ⟨b, n * 5, none⟩) k cc]).run Try.prog w = .ok (.tuple #[]) w') ∧ OwnM w' B (.slice (some ⟨b, 0, none⟩) n c) X ∧ w.grownBy w' (some b) := by
  unfold OwnM at h ⊢
  rw [hn] at h ⊢
  exact clear_msgs w B b n c k cc _ h hk
theorem cut_len {α : Type} (X : List α) (i N M : Nat) (hX : N = X.length) (hi : i < N) (hM : M = N - 1) : (X.take i ++ X.drop (i + 1)).length = M := by
  rw [List.length_append, List.length_take, List.length_drop]
  omega
theorem Below.one (w : World) : Below w.heap.size w w.drew := ⟨rfl, rfl, rfl, Nat.le_refl _, fun _ _ => rfl⟩
theorem List.take_mid {α : Type} (l : List α) (a b : Nat) (news : List α) (ha : a ≤ l.length) : (l.take a ++ news ++ l.drop b).take (a + news.length) = l.take a ++ news := by
  rw [List.take_left']
  rw [List.length_append, List.length_take]
  omega
/-- 'append(s[:i], s[i+1:]...)' inside a region that draws. -/
theorem step_delete_msgs {w : World} {ops : Array Oper} {o : Oper} {a : Act} {K : Act → World → Prop} {Q : Exit → Act → World → Prop} {E : Prop} (hgd : o.guard = none) (s x : Operand)
    (ho : o.op = .call { callee := .builtin .append, args := #[s, x], argTypes := #[49, 49] })
    (B b N c i : Nat) (X : List Itm) (F : Nat → Prop) (hX : N = X.length) (hown : OwnM w B (.slice (some ⟨b, 0, none⟩) N c) X) (hG : ∀ q ∈ X, Good w F q) (hi : i < N)
    (hs : a.eval s = .slice (some ⟨b, 0, none⟩) i c) (ax : Addr) (cx : Nat) (hx : a.eval x = .slice (some ax) (N - (i + 1)) cx) (hax : ax = ⟨b, if c = i + 1 then 0 else (i + 1) * 5, none⟩)
    (h : ∀ w', OwnM w' B (.slice (some ⟨b, 0, none⟩) (N - 1) c) (X.take i ++ X.drop (i + 1)) → w.grownBy w' (some b) → N ≤ c → K (a.put o.dst (.slice (some ⟨b, 0, none⟩) (N - 1) c)) w') : if Region.wanted o (yielded ops a.tmps) = true then Oper.wp Try.prog o a w K Q else E := by
  subst hX
  have hw : Region.wanted o (yielded ops a.tmps) = true := by simp [Region.wanted, hgd]
  rw [if_pos hw]
  obtain ⟨i0, hi0, hz0, hz1, hz2⟩ := info_parts Try.info_msg
  obtain ⟨⟨Ax, cx', ex, hn, hc⟩, h1⟩ := OwnM.drop hown hG (i + 1) (by omega) (some ax) (.inr ⟨b, rfl, by rw [hax]⟩)
  have hlm : (X.drop (i + 1)).length = X.length - (i + 1) := List.length_drop
  have hown' := hown
  unfold OwnM at hown'
  rcases hown'.2 with ⟨e, _⟩ | ⟨g, cap, cur, e, q1, q2, q3, q4, q5, q6⟩
  · simp at e
  · simp only [Value.slice.injEq, Option.some.injEq, Addr.mk.injEq] at e
    obtain ⟨⟨rfl, _⟩, _, rfl⟩ := e
    simp only [Value.slice.injEq] at ex
    obtain ⟨ex1, _, _⟩ := ex
    have hcl := cellsM_length (X.drop (i + 1))
    rw [hlm] at hcl
    have hr := run_append_room (P := Try.prog) w 49 o.type 45 i0 Try.underlying49 hi0 b i c cur q2 ax (X.length - (i + 1)) cx (cellsM (X.drop (i + 1))) (by rw [hz1]; exact hcl) (hc ax ex1.symm) h1 (by omega) (by rw [hz1, hcl, q5]; omega)
    rw [hz1] at hr
    unfold Oper.wp
    simp [execOp, ho, resolve, invoke, builtin, hs, hx, hr, Result.andThen]
    have hsum : i + (X.length - (i + 1)) = X.length - 1 := by omega
    rw [hsum]
    refine h _ ?_ ⟨rfl, rfl, rfl, by simp [World.setRow], fun k _ hk => setRow_other w b k _ (fun e => hk (by rw [e]))⟩ q3
    have hl2 : (X.take i ++ X.drop (i + 1)).length = X.length - 1 := by rw [List.length_append, List.length_take, List.length_drop]; omega
    unfold OwnM
    rw [hl2]
    refine ⟨by rw [cellsM_length, hl2], .inr ⟨b, c, _, rfl, q1, setRow_heap w b cur _ _ _ q2, by omega, q4, ?_, ?_⟩⟩
    · simp only [List.size_toArray, List.length_append, List.length_take, List.length_drop, Array.length_toList, hcl, q5]
      omega
    · have ht := List.take_mid cur.toList (i * 5) (i * 5 + (cellsM (X.drop (i + 1))).length) (cellsM (X.drop (i + 1))) (by rw [Array.length_toList, q5]; omega)
      have hz : i * 5 + (cellsM (X.drop (i + 1))).length = (X.length - 1) * 5 := by rw [hcl]; omega
      rw [cellsM_append, cellsM_take X i (by omega), ← q6, List.take_take, show min (i * 5) (X.length * 5) = i * 5 by omega, ← hz]
      rw [List.append_assoc] at ht
      exact ht
/-- The row is cut, and the cut one stored. -/
theorem NShell.cut {e : TypeId} {w w3 w4 : World} {F : Nat → Prop} {g : Nat} {v v4 : Value} {X Y : List Itm} (h : NShell e w F g v X) (h0 : 45 ≠ e) (h1 : 3 ≠ e) (h2 : 5 ≠ e) (k3 : Below w.heap.size w w3) (o4 : OwnM w4 0 v4 Y) (g4 : w3.grownBy w4 v.ownBlock) (l4 : v4.ownBlock = v.ownBlock)
    (each : ∀ q ∈ Y, q ∈ X) (hY : Y.length ≤ 4096) :
    Blk w4 0 e g [v] ∧ NShell e (w4.setCell ⟨g, 0, none⟩ v4) F g v4 Y ∧ Turn F w (w4.setCell ⟨g, 0, none⟩ v4) := by
  have h3 := h.below k3
  have b4 : Blk w4 0 e g [v] := h3.cells.kept g4 (ownsRow_blk h3.row h3.cells h0)
  have t4 : Turn F w w4 := (Turn.of_below F k3).trans ((Turn.of_grown g4).mono (fun k hk => h.mine k hk.symm))
  have t5 : Turn F w4 (w4.setCell ⟨g, 0, none⟩ v4) := (Turn.of_grown (grown_set w4 g 0 v4)).mono (fun k hk => by
    have e : k = g := by simpa using hk
    rw [e]; exact h.own)
  have hs : (w4.setCell ⟨g, 0, none⟩ v4).heap.size = w4.heap.size := by simp
  refine ⟨b4, ⟨b4.stored 0 v4, World.ownsRow.kept o4 (grown_set w4 g 0 v4) (.inr (ownsRow_blk o4 b4 h0)), (by rw [l4]; exact h.mine), h.own, fun k hk => by rw [hs]; exact Nat.lt_of_lt_of_le (h.low k hk) t4.size, fun q hq => ?_, hY⟩, t4.trans t5⟩
  exact ((h3.each q (each q hq)).row h3.row (by decide) (by decide) g4).blk b4 h1 h2 (grown_set w4 g 0 v4)
theorem mem_cut {α : Type} {X : List α} {i : Nat} : ∀ q ∈ X.take i ++ X.drop (i + 1), q ∈ X := fun _ hq => (List.mem_append.1 hq).elim List.mem_of_mem_take List.mem_of_mem_drop
theorem cut_le {α : Type} {X : List α} {i : Nat} (h : X.length ≤ 4096) : (X.take i ++ X.drop (i + 1)).length ≤ 4096 := by
  rw [List.length_append, List.length_take, List.length_drop]
  omega
end Go.Proofs.Ytdhamhaadclhkaa
