/- The contracts of the disk's own lay and drop. Condition: a name is no longer than the model's strings. -/
import Derived.Test.YtmledochidefeaaFind
import Derived.Test.YtmledochidefeaaStrClone
import Derived.BigRegion
import Derived.Deep.RegionLaw
import Derived.Deep.RegionWith
import Derived.Deep.Cut
namespace Go.Proofs.Ytmledochidefeaa
open Go.RowKit Go.Maps Go.WideMaps
theorem field_data (A : Option Addr) (n c : Nat) (l : Int) (w : World) : (Instr.field 77 (.agg #[.slice A n c, .int .i64 l]) 0).run Try.prog w = .ok (.slice A n c) w := by kernel_rfl
theorem lay_end {F : Nat → Prop} {d room : Nat} {X : List (Str × Fil)} {k : Str} {A : Option Addr} {n c l m b : Nat} {xs : List Nat} {w W3 w5 w6 : World} (hS : Shell w F d room X) (hn : xs.length = n) (hl : l ≤ n)
    (hp : sumK filL (putK k ((.slice A n c, xs, l) : Fil) X) = m) (hu : sumK filL (putK k ((.slice A n c, xs, l) : Fil) X) ≤ room) (hfew : (putK k ((.slice A n c, xs, l) : Fil) X).length ≤ 256)
    (hk : k.length ≤ 64) (hb : F b ∨ w.heap.size ≤ b) (hB : Blk W3 0 54 d [.int .i64 (room : Int), .int .i64 ((m : Nat) : Int), .map (some b)]) (ht : Turn F w W3) (hu8 : U8 w W3) (m3 : W3.ownsMap Try.prog 9 tok b X.length (strP filV X)) (K5 : Below W3.heap.size W3 w5)
    (m6 : w6.ownsMap Try.prog 9 tok b (X.length + 1) ((strP filV X).put (.string k) (.held (.agg #[.slice A n c, .int .i64 (l : Int)])))) (g6 : w5.grownBy w6 (some b)) :
    ∃ F', Shell w6 F' d room (putK k ((.slice A n c, xs, l) : Fil) X) ∧ Next F w F' w6 ∧ U8 w w6 ∧ (∀ k, F k → F' k) := by
  have hd : d < w.heap.size := hS.low d hS.own
  have em : (strP filV X).put (.string k) (.held (.agg #[.slice A n c, .int .i64 (l : Int)])) = strP filV (putK k ((.slice A n c, xs, l) : Fil) X) := strP_put filV k ((.slice A n c, xs, l) : Fil) X
  rw [em] at m6
  have m7 := ownsMap_tight m6
  rw [strP_size] at m7
  have m5 := ownsMap_turn (S := fun _ => False) m3 (Turn.of_below _ K5) id
  have B5 := hB.keep K5
  have hbd : ¬ (some d = some b) := by
    intro e
    have e : d = b := by simpa using e
    subst e
    obtain ⟨_, c5, h5, _⟩ := B5
    exact not_map_cells m5 h5
  have t6 : Turn (fun i => some i = some b) w5 w6 := Turn.of_grown g6
  have h35 : W3.heap.size ≤ w5.heap.size := K5.size
  have T6 : Turn F w w6 := (ht.trans (Turn.of_below F K5)).then t6 (fun i e => by
    have e : i = b := by simpa using e
    subst e
    exact hb)
  have hb6 : b < w6.heap.size := m6.lt
  refine ⟨fun i => F i ∨ (w.heap.size ≤ i ∧ i < w6.heap.size), ⟨⟨some b, ?_, .inr ⟨b, rfl, ?_, m7⟩⟩, .inl hS.own, ?_, hS.most, hu, hfew, ?_, putK_rise hS.rise, ?_⟩, ⟨T6, fun i hi => ?_⟩, ?_, fun i => .inl⟩
  · rw [hp]
    exact B5.turn t6 hbd
  · rcases hb with h | h
    · exact .inl h
    · exact .inr ⟨h, hb6⟩
  · rintro i (h | h)
    · exact Nat.lt_of_lt_of_le (hS.low i h) T6.size
    · exact h.2
  · intro p hp
    rcases mem_putK.1 hp with rfl | ⟨hp, _⟩
    · exact ⟨⟨A, c, by show Value.slice A n c = _; rw [hn]⟩, by show l ≤ xs.length; omega⟩
    · exact hS.shape p hp
  · intro p hp
    rcases mem_putK.1 hp with rfl | ⟨hp, _⟩
    · exact hk
    · exact hS.names p hp
  · rcases hi with h | h
    · exact .inl h
    · exact .inr h.1
  · refine (hu8.trans (U8.of_below K5)).trans ?_
    intro g cur hg
    rw [g6.block g (heap_lt hg) ?_]
    · exact hg
    · intro e
      have e : g = b := by simpa using e
      subst e
      exact not_map_cells m5 hg
set_option maxRecDepth 100000 in
set_option maxHeartbeats 1600000 in
/-- A file is laid: its blocks are the old ones and new ones; of the bytes nothing turns. -/
theorem lay_any (F : Nat → Prop) (d room : Nat) (X : List (Str × Fil)) (s : ByteArray) (A : Option Addr) (n c l : Nat) (xs : List Nat) (w : World) (hS : Shell w F d room X) (hs : s.size ≤ 64) (hn : xs.length = n) (hl : l ≤ n)
    (hu : sumK filL (putK s.data.toList ((.slice A n c, xs, l) : Fil) X) ≤ room) (hfew : (putK s.data.toList ((.slice A n c, xs, l) : Fil) X).length ≤ 256) :
    Calls Try.prog 36 #[.pointer (some ⟨d, 0, none⟩), .string s, .agg #[.slice A n c, .int .i64 l]] w fun e w' => e = .returned (.tuple #[]) ∧
      ∃ F', Shell w' F' d room (putK s.data.toList ((.slice A n c, xs, l) : Fil) X) ∧ Next F w F' w' ∧ U8 w w' ∧ (∀ k, F k → F' k) := by
  obtain ⟨mv, hB, hm⟩ := hS.cells
  have c2 : w.cell? ⟨d, 2, none⟩ = some (.map mv) := hB.cell 2
  have f2 := hB.frozen 2
  have hd : d < w.heap.size := hB.lt
  have qe : ∀ (w : World) (r : Option Nat), (binOp .eql 52 (.map r) (.map none)).run Try.prog w = .ok (.bool r.isNone) w := fun w r => run_eql_map_nil w _ _ _ r Try.underlying52
  have qm := @run_makeMap Try.prog
  obtain ⟨u, hu0⟩ : ∃ u, u = sumK filL X := ⟨_, rfl⟩
  rw [← hu0] at hB
  have HU0 := hide hu0
  have HU := hide hu
  have HFEW := hide hfew
  have HS := hide hS
  have HB := hide hB
  have HM := hide hm
  clear hu0 hu hfew hB hm hS
  go_enter Try.func36, Try.ntmps36
  go_upto_if 10 with fail
  go_cut [5] from 6 (fun s5 wr => s5 = .pointer (some ⟨w.heap.size, 0, none⟩) ∧ Hid (∃ b, (F b ∨ w.heap.size ≤ b) ∧ Blk wr 0 77 w.heap.size [.slice A n c, .int .i64 l] ∧ Blk wr 0 54 d [.int .i64 (room : Int), .int .i64 (u : Int), .map (some b)] ∧
      wr.ownsMap Try.prog 9 tok b X.length (strP filV X) ∧ Turn F w wr ∧ U8 w wr))
  case first =>
    have nb := below_alloc w (.cells #[.slice A n c, .int .i64 l] 77)
    rcases HM.out with ⟨rfl, rfl⟩ | ⟨b, rfl, hFb, hm⟩
    · go_wp2_with fail
      have e0 : (w.setCell ⟨d, 2, none⟩ (.map (some (w.heap.size + 1)))).heap.size = w.heap.size := by simp
      have k1 := below_alloc (w.setCell ⟨d, 2, none⟩ (.map (some (w.heap.size + 1)))) (.cells #[.slice A n c, .int .i64 l] 77)
      have b1 := (HB.out.stored 2 (.map (some (w.heap.size + 1)))).keep k1
      have b2 := Blk.new (B := 0) (w.setCell ⟨d, 2, none⟩ (.map (some (w.heap.size + 1)))) 77 #[.slice A n c, .int .i64 l] (Nat.zero_le _)
      rw [e0] at b2
      obtain ⟨W1, hW1⟩ : ∃ W1, W1 = ((w.setCell ⟨d, 2, none⟩ (.map (some (w.heap.size + 1)))).alloc (.cells #[.slice A n c, .int .i64 l] 77)) := ⟨_, rfl⟩
      have e1 : W1.heap.size = w.heap.size + 1 := by rw [hW1]; simp
      rw [← hW1] at k1 b1 b2 ⊢
      have k2 := below_alloc W1 (.map #[] 0)
      have m2 := World.ownsMap_made W1 Try.prog 9 tok
      rw [e1] at m2
      have t1 : Turn F w W1 := (((Turn.of_grown (grown_set w d 2 _)).mono (S' := F) (fun i e => by cases e; exact HS.out.own))).then (Turn.of_below F k1) fun _ => .inl
      have u1 : U8 w W1 := by
        intro g cur hg
        rw [k1.block g (by rw [e0]; exact heap_lt hg), heap_setCell_other w ⟨d, 2, none⟩ g _ ?_]
        · exact hg
        · intro e
          have e : g = d := by simpa using e
          subst e
          obtain ⟨_, c3, h3, _⟩ := HB.out
          rw [hg] at h3
          simp only [Option.some.injEq, Obj.cells.injEq] at h3
          exact absurd h3.2.1 (by decide)
      clear hW1
      go_meet
      case rel => exact ⟨rfl, w.heap.size + 1, .inr (Nat.le_succ _), b2.keep k2, b1.keep k2, m2, t1.trans (Turn.of_below F k2), u1.trans (U8.of_below k2)⟩
    · go_wp2_with fail
      go_meet
      case rel => exact ⟨rfl, b, .inl hFb, Blk.new (B := 0) w _ _ (Nat.zero_le _), HB.out.keep nb, ownsMap_turn (S := fun _ => False) hm (Turn.of_below _ nb) id, Turn.of_below _ nb, U8.of_below nb⟩
  case rest =>
    clear c2 f2
    obtain ⟨rfl, hcut⟩ := hcut
    obtain ⟨b, hb, bF, bD, hm, ht, hu8⟩ := hcut.out
    obtain ⟨A1, n1, c1, l1, hf, hn1, hrest⟩ := found_form HS.out s.data.toList
    have hlook := look_val hm.drew s (by unfold maxLen; omega)
    rw [hf] at hlook
    have qf := field_data A1 n1 c1 l1
    have hsum := sumK_del filL s.data.toList HS.out.rise
    rw [← HU0.out, ← hn1] at hsum
    have hput := sumK_put filL s.data.toList ((.slice A n c, xs, l) : Fil) X
    have hput2 : sumK filL (putK s.data.toList ((.slice A n c, xs, l) : Fil) X) = u + n - n1 := by
      rw [hput, hsum]
      show _ + xs.length = _
      rw [hn]
      omega
    have hle : n1 ≤ u := by omega
    have hub : u + n ≤ 1073741824 + n1 := by
      have := HU.out
      have := HS.out.most
      omega
    have hub2 : u ≤ 1073741824 := by
      have h1 := HS.out.used
      have h2 := HS.out.most
      rw [← HU0.out] at h1
      omega
    have f0 : wc.cell? ⟨w.heap.size, 0, none⟩ = some (.slice A n c) := bF.cell 0
    have f1 : wc.cell? ⟨w.heap.size, 1, none⟩ = some (.int .i64 l) := bF.cell 1
    have d1 : wc.cell? ⟨d, 1, none⟩ = some (.int .i64 (u : Int)) := bD.cell 1
    have d2 : wc.cell? ⟨d, 2, none⟩ = some (.map (some b)) := bD.cell 2
    have g1 := bD.frozen 1
    have hne : ¬ d = w.heap.size := by omega
    have hne2 : ¬ w.heap.size = d := by omega
    have HP := hide hput2
    have HBF := hide bF
    have HBD := hide bD
    have HMM := hide hm
    have HT := hide ht
    have HU8 := hide hu8
    have HN := hide hn
    clear hrest hput2 hput hsum bF bD hm ht hu8 hn hn1 hf qm qe hcut
    go_wp2_with fail
    go_region
    have E1 : ((u : Int) + ((n : Int) - (n1 : Int))) = ((u + n - n1 : Nat) : Int) := by omega
    rw [E1]
    have t3 := (Turn.of_grown (grown_set wc d 1 (.int .i64 ((u + n - n1 : Nat) : Int)))).mono (S' := F) (fun i e => by cases e; exact HS.out.own)
    have bD3 := HBD.out.stored 1 (.int .i64 ((u + n - n1 : Nat) : Int))
    have bF3 := HBF.out.kept (grown_set wc d 1 (.int .i64 ((u + n - n1 : Nat) : Int))) (fun e => hne (by simpa using e))
    have m3 := ownsMap_turn HMM.out (Turn.of_grown (grown_set wc d 1 (.int .i64 ((u + n - n1 : Nat) : Int)))) (by
      intro e
      have e : b = d := by simpa using e
      subst e
      obtain ⟨_, c3, h3, _⟩ := HBD.out
      exact not_map_cells HMM.out h3)
    have u3 : U8 wc (wc.setCell ⟨d, 1, none⟩ (.int .i64 ((u + n - n1 : Nat) : Int))) := by
      intro g cur hg
      rw [heap_setCell_other wc ⟨d, 1, none⟩ g _ ?_]
      · exact hg
      · intro e
        have e : g = d := by simpa using e
        subst e
        obtain ⟨_, c3, h3, _⟩ := HBD.out
        rw [hg] at h3
        simp only [Option.some.injEq, Obj.cells.injEq] at h3
        exact absurd h3.2.1 (by decide)
    have hlow : ∀ k, F k ∨ (w.heap.size ≤ k ∧ k < wc.heap.size) → k < wc.heap.size := by
      rintro k (hk | hk)
      · exact Nat.lt_of_lt_of_le (HS.out.low k hk) HT.out.size
      · exact hk.2
    have hsz3 : (wc.setCell ⟨d, 1, none⟩ (.int .i64 ((u + n - n1 : Nat) : Int))).heap.size = wc.heap.size := by simp
    have hbl : b < wc.heap.size := HMM.out.lt
    obtain ⟨W3, hW3⟩ : ∃ W3, W3 = (wc.setCell ⟨d, 1, none⟩ (.int .i64 ((u + n - n1 : Nat) : Int))) := ⟨_, rfl⟩
    rw [← hW3] at t3 bD3 bF3 m3 u3 hsz3 ⊢
    have T3 := hide (HT.out.trans t3)
    have U3 := hide (HU8.out.trans u3)
    have BD3 := hide bD3
    have BF3 := hide bF3
    have M3 := hide m3
    have LOW := hide hlow
    have SZ := hide hsz3
    clear t3 u3 bD3 bF3 m3 hlow hsz3 hW3 hlook qf E1 f0 f1 d1 d2 g1
    have f0 : W3.cell? ⟨w.heap.size, 0, none⟩ = some (.slice A n c) := BF3.out.cell 0
    have f1 : W3.cell? ⟨w.heap.size, 1, none⟩ = some (.int .i64 l) := BF3.out.cell 1
    have d2 : W3.cell? ⟨d, 2, none⟩ = some (.map (some b)) := BD3.out.cell 2
    have hup := fun (W : World) (hk : Below W3.heap.size W3 W) => (ownsMap_turn (S := fun _ => False) M3.out (Turn.of_below _ hk) id).update (string_keyed Try.underlying9) Try.underlying52 (by have := HS.out.few; unfold maxLen; omega) (keyOf_string_mk Try.underlying9 (s := s) (by unfold maxLen; omega)) (val := .agg #[.slice A n c, .int .i64 l]) (d := .held (.agg #[.slice A n c, .int .i64 l])) (ps := []) rfl
    have HUP := hide hup
    clear hup
    go_wp2_with fail
    go_region_with (go_at_call 65; refine (strClone_any s _ (by omega)).mono ?_; rintro e w5 ⟨rfl, k5⟩; have K5 : Below W3.heap.size W3 w5 := ⟨k5.os, k5.tape, k5.output, k5.size, k5.block⟩; obtain ⟨w6, r6, m6, g6⟩ := HUP.out w5 K5; have f05 := (K5.cell (cell_lt f0)).trans f0; have f15 := (K5.cell (cell_lt f1)).trans f1; have d25 := (K5.cell (cell_lt d2)).trans d2)
    all_goals
      have KE := lay_end HS.out HN.out hl HP.out HU.out HFEW.out hs hb BD3.out T3.out U3.out M3.out K5 m6 g6
      clear r6 m6 g6 f05 f15 d25 f0 f1 d2
      go_end0
      exact ⟨rfl, KE⟩
end Go.Proofs.Ytmledochidefeaa
