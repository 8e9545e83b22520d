/- The document's insert. No condition but the widths. -/
import Derived.Test.YtndffjgneapmdaaRBase
namespace Go.Proofs.Ytndffjgneapmdaa
open Go.RowKit Go.Maps
theorem own_emptyF {W : World} {B : Nat} (hB : B ≤ W.heap.size) (b : Nat) (hb : b = W.heap.size) : OwnF (W.alloc (.cells #[] 57)) B (.slice (some ⟨b, 0, none⟩) 0 0) [] := by
  subst hb
  exact (OwnF.empty W).down hB
theorem Blk.under {w w' : World} {B b : Nat} {e : TypeId} {g : Nat} {cs : List Value} (h : Blk w B e g cs) (k : Below b w w') (hg : g < b) : Blk w' B e g cs := by
  obtain ⟨hB, cur, hh, rfl⟩ := h
  exact ⟨hB, cur, by rw [k.block g hg]; exact hh, rfl⟩
theorem OwnF.shape {w : World} {B : Nat} {v : Value} {X : List (Str × Fil)} (h : OwnF w B v X) : ∃ A n c, v = .slice A n c := by
  unfold OwnF at h
  rcases h.2 with ⟨rfl, _⟩ | ⟨g, cap, cur, rfl, _⟩
  · exact ⟨_, _, _, rfl⟩
  · exact ⟨_, _, _, rfl⟩
theorem str_enc (s : ByteArray) : encStr s.data.toList = .string s := rfl
set_option maxRecDepth 100000 in
set_option maxHeartbeats 1600000 in
theorem insert_any (G : Nat → Prop) (p room : Nat) (v : Value) (X : List (Str × Fil)) (i : Nat) (s : ByteArray) (A : Option Addr) (n c : Nat) (xs : List Nat) (l : Nat) (w : World) (h : RShell w G p room v X) (hlen : X.length ≤ 256) (hi : i ≤ X.length)
    (ho : Own w 0 (.slice A n c) xs) (hm : ∀ b, (Value.slice A n c).ownBlock = some b → G b) (hb : ∀ x ∈ xs, x < 256) :
    Calls Try.prog 50 #[.pointer (some ⟨p, 0, none⟩), .int .i64 (i : Int), .agg #[.string s, .slice A n c, .int .i64 (l : Int)]] w fun e w' => e = .returned (.tuple #[]) ∧ ∃ G' v', RShell w' G' p room v' (X.take i ++ (s.data.toList, (.slice A n c, xs, l)) :: X.drop i) ∧ Next G w G' w' := by
  obtain ⟨A0, c0, rfl, hlc, hc63, hn0, hcell⟩ := h.form
  have c1 : w.cell? ⟨p, 1, none⟩ = some (.slice A0 X.length c0) := h.cells.cell 1
  have hpl := h.low p h.own
  have f1 := h.cells.frozen 1
  obtain ⟨N, hN⟩ : ∃ N, N = X.length := ⟨_, rfl⟩
  have HX := hide h
  have HO := hide ho
  have HM := hide hm
  have HB := hide hb
  have HE := hide (fun q hq => (h.each q hq).1 : ∀ q ∈ X, Own w 0 q.2.1 q.2.2.1)
  have HR := hide h.row
  rw [← hN] at c1 hlc hi hlen
  have HN := hide hN
  have hAA : A0 = none ∧ i = 0 ∧ c0 = 0 ∨ ∃ g, A0 = some ⟨g, 0, none⟩ := by
    rcases A0 with _ | ad
    · have := hn0 rfl
      exact .inl ⟨rfl, by omega, this⟩
    · have hr := h.row
      unfold OwnF at hr
      rcases hr.2 with ⟨e, _⟩ | ⟨g, cap, cur, e, _⟩
      · simp at e
      · simp only [Value.slice.injEq, Option.some.injEq] at e
        exact .inr ⟨g, by rw [e.1]⟩
  clear h ho hm hb hcell hN hn0
  go_enter Try.func50, Try.ntmps50
  go_wp2_with (at_builtin; refine halt ?_)
  refine ⟨?_⟩
  have nb := below_step (below_alloc w (.cells #[.string s, .slice A n c, .int .i64 (l : Int)] 57)) (below_alloc (w.alloc (.cells #[.string s, .slice A n c, .int .i64 (l : Int)] 57)) (.cells #[] 57))
  have bb := (Blk.new w (B := 0) 57 #[.string s, .slice A n c, .int .i64 (l : Int)] (Nat.zero_le _)).keep (below_alloc (w.alloc (.cells #[.string s, .slice A n c, .int .i64 (l : Int)] 57)) (.cells #[] 57))
  obtain ⟨W, hW⟩ : ∃ W, W = (w.alloc (.cells #[.string s, .slice A n c, .int .i64 (l : Int)] 57)).alloc (.cells #[] 57) := ⟨_, rfl⟩
  have hWs : W.heap.size = w.heap.size + 2 := by rw [hW]; simp
  have oe : OwnF W (w.heap.size + 1) (.slice (some ⟨w.heap.size + 1, 0, none⟩) 0 0) [] := by rw [hW]; exact own_emptyF (by simp) _ (by simp)
  rw [← hW] at nb bb ⊢
  clear hW
  refine wpList_append_files rfl (.tmp 7) (.tmp 13) rfl (w.heap.size + 1) _ [] rfl oe _ (X.take i) rfl ((HR.out.take HE.out i (by rw [← HN.out]; exact hi)).below nb) (by rw [List.length_nil, List.length_take]; omega) (by omega) ?_
  intro v2 w2 o2 _ k2 _
  rw [List.nil_append] at o2
  have b2 := bb.under k2 (by omega)
  have n2 := nb.trans (k2.mono (by omega))
  have q0 : w2.cell? ⟨w.heap.size, 0, none⟩ = some (.string s) := b2.cell 0
  have q1 : w2.cell? ⟨w.heap.size, 1, none⟩ = some (.slice A n c) := b2.cell 1
  have q2 : w2.cell? ⟨w.heap.size, 2, none⟩ = some (.int .i64 (l : Int)) := b2.cell 2
  have hW2 : w.heap.size + 2 ≤ w2.heap.size := by have := k2.size; omega
  have O2 := hide o2
  have N2 := hide n2
  clear nb bb oe hWs o2 k2 b2 n2
  go_wp2_with (at_builtin; refine halt ?_)
  refine ⟨?_⟩
  have k3 := below_alloc w2 (.cells #[.string s, .slice A n c, .int .i64 (l : Int)] 57)
  have o3 : OwnF (w2.alloc (.cells #[.string s, .slice A n c, .int .i64 (l : Int)] 57)) (w.heap.size + 1) v2 (X.take i) := O2.out.turn (S := fun _ => False) (Turn.of_below _ k3) (fun _ _ => id)
  have hs2 := N2.out.size
  refine wpList_append_files rfl (.tmp 15) (.tmp 17) rfl (w.heap.size + 1) _ (X.take i) rfl o3 _ [(s.data.toList, (.slice A n c, xs, l))] rfl (isF_one w2 s.data.toList A n c xs l _ rfl) (by rw [List.length_take, List.length_singleton]; omega) (by have := O2.out.lt; simp; omega) ?_
  intro v4 w4 o4 _ k4 _
  have n4 := (below_step N2.out k3).trans (k4.mono (by omega))
  have r4 := HR.out.turn (S := fun _ => False) (Turn.of_below _ n4) (fun _ _ => id)
  have he4 : ∀ q ∈ X, Own w4 0 q.2.1 q.2.2.1 := fun q hq => (HE.out q hq).turn (S := fun _ => False) (Turn.of_below _ n4) (fun _ _ => id)
  have c4 : w4.cell? ⟨p, 1, none⟩ = some (.slice A0 N c0) := (n4.cell hpl).trans c1
  have f4 : w4.frozen? ⟨p, 1, none⟩ = false := by
    rw [← f1]
    exact n4.frozen hpl
  have hW4 : w.heap.size + 2 ≤ w4.heap.size := by have := k3.size; have := k4.size; omega
  have R4 := hide r4
  have E4 := hide he4
  have O4 := hide o4
  have N4 := hide n4
  clear k3 o3 k4 o4 n4 r4 he4
  have fin : ∀ v5 w5, OwnF w5 (w.heap.size + 1) v5 (X.take i ++ [(s.data.toList, (.slice A n c, xs, l))] ++ X.drop i) → Below (w.heap.size + 1) w4 w5 → ∃ G' v', RShell (w5.setCell ⟨p, 1, none⟩ v5) G' p room v' (X.take i ++ (s.data.toList, (.slice A n c, xs, l)) :: X.drop i) ∧ Next G w G' (w5.setCell ⟨p, 1, none⟩ v5) := by
    intro v5 w5 o5 k5
    rw [List.append_assoc, List.singleton_append] at o5
    have n5 := N4.out.trans (k5.mono (by omega))
    refine ⟨fun k => G k ∨ (w.heap.size ≤ k ∧ k < w5.heap.size), v5, ?_, ?_⟩
    · refine ((HX.out.below n5).more (fun k hk => .inl hk) (fun k hk => ?_)).newrow (o5.down (Nat.zero_le _)) (fun g hg => .inr ?_) (fun q hq => ?_)
      · rcases hk with hk | hk
        · exact (HX.out.below n5).low k hk
        · exact hk.2
      · have := o5.lt g hg
        exact ⟨by omega, this.2⟩
      · rcases List.mem_append.1 hq with hq | hq
        · have := (HX.out.below n5).each q (List.mem_of_mem_take hq)
          exact ⟨this.1, fun g hg => .inl (this.2.1 g hg), this.2.2⟩
        · rcases List.mem_cons.1 hq with rfl | hq
          · exact ⟨HO.out.turn (S := fun _ => False) (Turn.of_below _ n5) (fun _ _ => id), fun g hg => .inl (HM.out g hg), HB.out⟩
          · have := (HX.out.below n5).each q (List.mem_of_mem_drop hq)
            exact ⟨this.1, fun g hg => .inl (this.2.1 g hg), this.2.2⟩
    · refine ⟨(Turn.of_below _ n5).then (S' := fun k => some k = some p) (Turn.of_grown (grown_set w5 p 1 v5)) (fun k hk => .inl ?_), fun k hk => ?_⟩
      · have hk : k = p := by simpa using hk
        rw [hk]
        exact HX.out.own
      · rcases hk with hk | hk
        · exact .inl hk
        · exact .inr hk.1
  have hd : (A0 = none ∧ i = 0 ∧ c0 = 0) ∨ (∃ g, A0 = some ⟨g, 0, none⟩ ∧ c0 = i) ∨ ∃ g, A0 = some ⟨g, 0, none⟩ ∧ ¬ c0 = i := by
    rcases hAA with h | ⟨g, h⟩
    · exact .inl h
    · by_cases hc : c0 = i
      · exact .inr (.inl ⟨g, h, hc⟩)
      · exact .inr (.inr ⟨g, h, hc⟩)
  have hlenT : (X.take i ++ [(s.data.toList, ((.slice A n c, xs, l) : Fil))]).length + (X.drop i).length ≤ 1073741824 := by
    rw [List.length_append, List.length_take, List.length_drop, List.length_singleton]
    have := HN.out
    omega
  have FIN := hide fin
  have hsz : w.heap.size + 1 ≤ w4.heap.size := by omega
  clear hAA fin
  rcases hd with ⟨rfl, rfl, rfl⟩ | ⟨g, rfl, hc⟩ | ⟨g, rfl, hc⟩
  · go_wp2_with (at_builtin; refine halt ?_)
    refine ⟨?_⟩
    refine wpList_append_files rfl (.tmp 20) (.tmp 26) rfl (w.heap.size + 1) _ _ rfl O4.out _ (X.drop 0) rfl (by have := R4.out.drop E4.out 0 (Nat.zero_le _) none (.inl ⟨rfl, rfl⟩); rw [← HN.out, show N - 0 = 0 by omega] at this; exact this) hlenT hsz ?_
    intro v5 w5 o5 _ k5 _
    obtain ⟨A5, n5, c5, rfl⟩ := o5.shape
    have HR5 := hide (FIN.out _ w5 o5 k5)
    have f5 : w5.frozen? ⟨p, 1, none⟩ = false := by
      rw [← f4]
      exact k5.frozen (show p < w.heap.size + 1 by omega)
    have c5 := (k5.cell (p := ⟨p, 1, none⟩) (show p < w.heap.size + 1 by omega)).trans c4
    clear o5 k5
    go_wp2_with fail
    go_end0
    exact ⟨rfl, HR5.out⟩
  · go_wp2_with (at_builtin; refine halt ?_)
    refine ⟨?_⟩
    refine wpList_append_files rfl (.tmp 20) (.tmp 26) rfl (w.heap.size + 1) _ _ rfl O4.out _ (X.drop i) rfl (by have := R4.out.drop E4.out i (by rw [← HN.out]; exact hi) _ (.inr ⟨g, rfl, rfl⟩); rw [if_pos hc, ← HN.out, show c0 - i = 0 by omega] at this; exact this) hlenT hsz ?_
    intro v5 w5 o5 _ k5 _
    obtain ⟨A5, n5, c5, rfl⟩ := o5.shape
    have HR5 := hide (FIN.out _ w5 o5 k5)
    have f5 : w5.frozen? ⟨p, 1, none⟩ = false := by
      rw [← f4]
      exact k5.frozen (show p < w.heap.size + 1 by omega)
    have c5 := (k5.cell (p := ⟨p, 1, none⟩) (show p < w.heap.size + 1 by omega)).trans c4
    clear o5 k5
    go_wp2_with fail
    go_end0
    exact ⟨rfl, HR5.out⟩
  · go_wp2_with (at_builtin; refine halt ?_)
    refine ⟨?_⟩
    refine wpList_append_files rfl (.tmp 20) (.tmp 26) rfl (w.heap.size + 1) _ _ rfl O4.out _ (X.drop i) rfl (by have := R4.out.drop E4.out i (by rw [← HN.out]; exact hi) _ (.inr ⟨g, rfl, rfl⟩); rw [if_neg hc, ← HN.out] at this; exact this) hlenT hsz ?_
    intro v5 w5 o5 _ k5 _
    obtain ⟨A5, n5, c5, rfl⟩ := o5.shape
    have HR5 := hide (FIN.out _ w5 o5 k5)
    have f5 : w5.frozen? ⟨p, 1, none⟩ = false := by
      rw [← f4]
      exact k5.frozen (show p < w.heap.size + 1 by omega)
    have c5 := (k5.cell (p := ⟨p, 1, none⟩) (show p < w.heap.size + 1 by omega)).trans c4
    clear o5 k5
    go_wp2_with fail
    go_end0
    exact ⟨rfl, HR5.out⟩
end Go.Proofs.Ytndffjgneapmdaa
