/- The contract of the disk's own drop: a file is taken away. Condition: it is there. -/
import Derived.Test.YtmledochidefeaaLay
namespace Go.Proofs.Ytmledochidefeaa
open Go.RowKit Go.Maps Go.WideMaps
theorem u8_set {w : World} {d i : Nat} {v : Value} {cs : List Value} {e : TypeId} (hB : Blk w 0 e d cs) (hne : e ≠ 5) : U8 w (w.setCell ⟨d, i, none⟩ v) := by
  intro g cur hg
  rw [heap_setCell_other w ⟨d, i, none⟩ g _ ?_]
  · exact hg
  · intro e'
    have e' : g = d := by simpa using e'
    subst e'
    obtain ⟨_, c3, h3, _⟩ := hB
    rw [hg] at h3
    simp only [Option.some.injEq, Obj.cells.injEq] at h3
    exact hne h3.2.1.symm
theorem u8_map {w w' : World} {P : Program} {k : TypeId} {R : Value → Option (DataW Value × List MemPlace)} {b n : Nat} {D : DataW Value} (h : w.ownsMap P k R b n D) (g6 : w.grownBy w' (some b)) : U8 w w' := by
  intro g cur hg
  rw [g6.block g (heap_lt hg) ?_]
  · exact hg
  · intro e
    have e : g = b := by simpa using e
    subst e
    exact not_map_cells h hg
theorem map_ne_cells {w : World} {P : Program} {k : TypeId} {R : Value → Option (DataW Value × List MemPlace)} {b n d : Nat} {D : DataW Value} {cs : List Value} {e : TypeId} (h : w.ownsMap P k R b n D) (hB : Blk w 0 e d cs) : b ≠ d := by
  rintro rfl
  obtain ⟨_, c3, h3, _⟩ := hB
  exact not_map_cells h h3
set_option maxRecDepth 100000 in
set_option maxHeartbeats 1600000 in
theorem drop_any (F : Nat → Prop) (d room : Nat) (X : List (Str × Fil)) (s : ByteArray) (a : Fil) (w : World) (hS : Shell w F d room X) (hs : s.size ≤ 1099511627776) (hg : getK s.data.toList X = some a) :
    Calls Try.prog 64 #[.pointer (some ⟨d, 0, none⟩), .string s] w fun e w' => e = .returned (.tuple #[]) ∧ Shell w' F d room (delK s.data.toList X) ∧ Next F w F w' ∧ U8 w w' := by
  obtain ⟨mv, hB, hm⟩ := hS.cells
  obtain ⟨b, rfl, hFb, hm⟩ : ∃ b, mv = some b ∧ F b ∧ w.ownsMap Try.prog 9 tok b X.length (strP filV X) := by
    rcases hm with ⟨_, rfl⟩ | h
    · cases hg
    · exact h
  obtain ⟨u, hu⟩ : ∃ u, u = sumK filL X := ⟨_, rfl⟩
  rw [← hu] at hB
  obtain ⟨A1, n1, c1, l1, hf, hn1, hrest⟩ := found_form hS s.data.toList
  have hlook := look_val hm.drew s (by unfold maxLen; omega)
  rw [hf] at hlook
  have qf := field_data A1 n1 c1 l1
  have hsum := sumK_del filL s.data.toList hS.rise
  rw [← hu, ← hn1] at hsum
  have hle : n1 ≤ u := by omega
  have hub2 : u ≤ 1073741824 := by
    have h1 := hS.used
    have h2 := hS.most
    rw [← hu] at h1
    omega
  have d1 : w.cell? ⟨d, 1, none⟩ = some (.int .i64 (u : Int)) := hB.cell 1
  have d2 : w.cell? ⟨d, 2, none⟩ = some (.map (some b)) := hB.cell 2
  have g1 := hB.frozen 1
  have HSUM : Hid (sumK filL (delK s.data.toList X) = u - n1) := by unfold Hid; omega
  have HB := hide hB
  have HM := hide hm
  have HS := hide hS
  clear hrest hf hn1 hu hsum hB hm hg hS
  go_enter Try.func64, Try.ntmps64
  go_wp2_with fail
  go_region
  have E1 : ((u : Int) - (n1 : Int)) = ((u - n1 : Nat) : Int) := by omega
  rw [E1]
  have bD3 := HB.out.stored 1 (.int .i64 ((u - n1 : Nat) : Int))
  have g3 := grown_set w d 1 (.int .i64 ((u - n1 : Nat) : Int))
  have m3 := ownsMap_turn HM.out (Turn.of_grown g3) (by
    intro e
    exact map_ne_cells HM.out HB.out (by simpa using e))
  have u3 : U8 w (w.setCell ⟨d, 1, none⟩ (.int .i64 ((u - n1 : Nat) : Int))) := u8_set HB.out (by decide)
  have t3 := (Turn.of_grown g3).mono (S' := F) (fun i e => by cases e; exact HS.out.own)
  obtain ⟨W3, hW3⟩ : ∃ W3, W3 = (w.setCell ⟨d, 1, none⟩ (.int .i64 ((u - n1 : Nat) : Int))).drew := ⟨_, rfl⟩
  have bD4 : Blk W3 0 54 d [.int .i64 (room : Int), .int .i64 ((u - n1 : Nat) : Int), .map (some b)] := by rw [hW3]; exact bD3
  have m4 : W3.ownsMap Try.prog 9 tok b X.length (strP filV X) := by rw [hW3]; exact m3
  have u4 : U8 w W3 := by rw [hW3]; exact u3
  have t4 : Turn F w W3 := by rw [hW3]; exact ⟨t3.os, t3.tape, t3.output, t3.size, t3.block⟩
  rw [← hW3]
  have B4 := hide bD4
  have M4 := hide m4
  have U4 := hide u4
  have T4 := hide t4
  clear hW3 bD3 g3 m3 u3 t3 m4 u4 t4 d1 d2 g1 E1 hlook qf
  have d2 : W3.cell? ⟨d, 2, none⟩ = some (.map (some b)) := bD4.cell 2
  clear bD4
  go_wp2_with (first | (at_delete; refine wpList_delete_own _ rfl _ _ 52 9 rfl 77 (string_keyed Try.underlying9) Try.underlying52 tok b X.length (strP filV X) rfl M4.out _ _ rfl (keyOf_string_mk Try.underlying9 (s := s) (by unfold maxLen; omega)) ?_; intro w1 own1 turn1))
  rw [strP_del] at own1
  have m7 := ownsMap_tight own1
  rw [strP_size] at m7
  have KE : Shell w1 F d room (delK s.data.toList X) ∧ Next F w F w1 ∧ U8 w w1 := by
    have g6 := turn1.grown
    have hbd : ¬ (some d = some b) := by
      intro e
      exact map_ne_cells M4.out B4.out (by simpa using e.symm)
    have T6 : Turn F w w1 := T4.out.then (Turn.of_grown g6) (fun i e => by
      have e : i = b := by simpa using e
      subst e
      exact .inl hFb)
    refine ⟨⟨⟨some b, ?_, .inr ⟨b, rfl, hFb, m7⟩⟩, HS.out.own, fun i h => Nat.lt_of_lt_of_le (HS.out.low i h) T6.size, HS.out.most, ?_, ?_, ?_, delK_rise HS.out.rise, fun p hp => HS.out.names p (mem_delK.1 hp).1⟩, ⟨T6, fun _ => .inl⟩, U4.out.trans (u8_map M4.out g6)⟩
    · rw [HSUM.out]
      exact B4.out.turn (Turn.of_grown g6) hbd
    · have h1 := HS.out.used
      have h2 := sumK_del filL s.data.toList HS.out.rise
      omega
    · exact Nat.le_trans (List.length_filter_le _ _) HS.out.few
    · exact fun p hp => HS.out.shape p (mem_delK.1 hp).1
  clear own1 turn1 m7 d2
  go_end0
  exact ⟨rfl, KE⟩
end Go.Proofs.Ytmledochidefeaa
