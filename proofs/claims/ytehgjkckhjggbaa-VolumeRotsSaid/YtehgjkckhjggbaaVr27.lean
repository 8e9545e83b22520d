/- The iterator of maps.Values over a volume's map of one place, as a contract by rounds. slices.AppendSeq and slices.Collect over the values of a volume's map of one place. slices.SortFunc of one place: it stays. slices.SortedFunc of the values of a volume's map of one place. -/
import Derived.Test.YtehgjkckhjggbaaVr13
import Derived.Test.YtehgjkckhjggbaaVr26
import Derived.Sort.MapsRangeIn
import Derived.Test.YtehgjkckhjggbaaVr19
import Derived.Test.YtehgjkckhjggbaaVr3
namespace Go.Proofs.Ytehgjkckhjggbaa
open Go.RowKit Go.Maps Go.WideMaps
attribute [local go_sem] Oper.semAt_some
/-- What a round is handed; z: where the iterator lies. -/
def valR (q : Pl) (z : Nat) (_ : Nat) (vs : Array Value) (A : World) : Prop := vs = #[plV q] ∧ z < A.heap.size
def stepAt (z : Nat) (A B : World) : Prop := Turn (fun k => k = z) A B
theorem ranges_turn {H : Type} {P : Program} {k : TypeId} {R : Value → Option (DataW H × List MemPlace)} {w w' : World} {b r n : Nat} {D : DataW H} {left : Lit → Bool} {cnt : Nat} {S : Nat → Prop}
    (h : w.ranges P k R b r n D left cnt) (t : Turn S w w') (hb : ¬ S b) (hr : ¬ S r) : w'.ranges P k R b r n D left cnt := by
  obtain ⟨es, clock, since, seen, c0, h1, h2, h3, h4, h5, h6⟩ := h
  exact ⟨es, clock, since, seen, c0, t.at_ h1 hb, h2, h3, h4, t.at_ h5 hr, h6⟩
set_option maxRecDepth 100000 in
set_option maxHeartbeats 3200000 in
theorem vals_seq {W : World} {S : Nat → Prop} {bm b n : Nat} {q : Pl} (hm : W.cell? ⟨bm, 0, none⟩ = some (.map (some b))) (hown : W.ownsMap Try.prog 31 tok b n (plP [q])) (hb : ¬ S b) (hz : ¬ S W.heap.size) :
    SeqC Try.prog 95 #[] #[.pointer (some ⟨bm, 0, none⟩)] (valR q W.heap.size) (stepAt W.heap.size) S 1 W := by
  intro l J Jx hJ hJx hY h0
  have HY := hide hY
  have HJ := hide hJ
  have HJX := hide hJx
  have H0 := hide h0
  have HB := hide hb
  have HZ := hide hz
  clear hJ hJx hY h0 hb hz
  refine callsIn_of_wp Try.func95 rfl trivial ?_ rfl
  simp only [Try.ntmps95, List.size_toArray, List.length_cons, List.length_nil, Nat.reduceAdd, Nat.reduceSub, Array.replicate_succ, Array.replicate_zero, List.push_toArray, List.append_toArray, List.nil_append, List.cons_append]
  gi_wp2_with (first
    | (gi_at_range; refine wpListIn_range_own _ rfl _ 85 rfl 31 83 (int_keyed Try.underlying31) Try.underlying85 _ b n _ rfl hown ?_; intro w0 hrg0 hg0 hs0)
    | gi_in)
  go_frame
  gi_loopw [4] (fun _ wr => ∃ (i : Nat) (left : Lit → Bool) (cnt : Nat), wr.ranges Try.prog 31 tok b W.heap.size n (plP [q]) left cnt ∧ i + cnt ≤ 1 ∧ (i = 0 → left = Maps.has (plP [q])) ∧ Hid (J i wr) ∧ W.heap.size < wr.heap.size)
    (fun _ wr => wr.rangeLeft b W.heap.size)
  case atStart =>
    exact ⟨0, _, _, hrg0, by rw [plP_size]; simp, fun _ => rfl, hide (HJ.out 0 _ _ H0.out ((Turn.of_grown hg0).mono (S' := fun k => k = W.heap.size) (fun _ e => by cases e))), by omega⟩
  case round =>
    obtain ⟨i, left, cnt, hrg, hic, hl, hj, hsz⟩ := hrel
    gi_wp2_with (first
      | (gi_at_next; refine wpListIn_next_ranges _ rfl _ rfl 31 (int_keyed Try.underlying31) tok (fun x : Int => Value.int .u64 x) id (fun key kl hk => by obtain ⟨x, hx, _⟩ := Maps.keyOf_int_inv Try.underlying31 hk; exact ⟨x, hx⟩) (fun v _ _ => ⟨v, rfl⟩) b W.heap.size n _ _ _ rfl hrg ?_ ?_)
      | gi_in)
    · intro hc0 hl0
      have hi1 : i = 1 := by
        rcases Nat.lt_or_ge 0 i with h | h
        · omega
        · have e0 := hl (by omega)
          have e1 := hl0 (.int .u64 (q.key : Int))
          rw [e0, plP_has] at e1
          simp [getP] at e1
      subst hi1
      gi_wp2
      go_end0
      exact ⟨⟨_, rfl⟩, .inl hj.out⟩
    · intro x c kl yd yp w2 cnt2 hkey hlk hv hat hrg2 hlt hg2 hs2 hen
      obtain ⟨x', ex, rfl, hwf⟩ := Maps.keyOf_int_inv Try.underlying31 hkey
      obtain rfl : x = x' := (Value.int.inj ex).2
      have hi0 : i = 0 := by omega
      subst hi0
      rw [hl rfl] at hlk
      have hx0 : ∃ k : Nat, x = (k : Int) := by
        have h9 := hwf
        simp [Lit.wf, IntKind.min, IntKind.max, IntKind.signed, IntKind.bits] at h9
        exact ⟨x.toNat, by omega⟩
      obtain ⟨k, rfl⟩ := hx0
      rw [plP_has] at hlk
      have hkq : q.key = k := by
        by_cases e : q.key = k
        · exact e
        · simp [getP, e] at hlk
      have ec : c = plV q := by
        have h9 := hat (.held c)
        rw [plP_at] at h9
        simp [getP, hkq] at h9
        unfold tok at hv
        simp only [Option.some.injEq, Prod.mk.injEq] at hv
        rw [← hv.1] at h9
        exact (DataW.held.inj h9).symm
      subst ec
      have J2 := hide (HJ.out 0 _ _ hj.out ((Turn.of_grown hg2).mono (S' := fun k => k = W.heap.size) (fun _ e => by have := Option.some.inj e; omega)))
      have hz2 : W.heap.size < w2.heap.size := by omega
      have ka := below_alloc w2 (.cells #[.int .u64 (q.key : Int), .int .i64 (q.at_ : Int), .int .i64 (q.n : Int), .int .u32 (q.cook : Int), .bool q.dead] 83)
      have J3 := HJ.out 0 _ _ J2.out ((Turn.of_below (fun k => k = W.heap.size) ka))
      have hR : valR q W.heap.size 0 #[.agg #[.int .u64 (q.key : Int), .int .i64 (q.at_ : Int), .int .i64 (q.n : Int), .int .u32 (q.cook : Int), .bool q.dead]] (w2.alloc (.cells #[.int .u64 (q.key : Int), .int .i64 (q.at_ : Int), .int .i64 (q.n : Int), .int .u32 (q.cook : Int), .bool q.dead] 83)) := ⟨rfl, by simp; omega⟩
      obtain ⟨fn, tmps, assign, body, hyy, hRd⟩ := HY.out 0 _ _ (by decide) J3 hR
      have HG := hide hrg2
      have KA := hide ka
      have HS2 := hide hs2
      have HLT := hide (And.intro hlt hrg.left_eq)
      clear hat hlk hkq hv hkey hwf ex hl J3 hR ka
      unfold plV at hen ⊢
      gi_wp2
      refine hRd.mono ?_
      rintro e W3 (⟨rfl, hJ3, hk3⟩ | ⟨rfl, hJx3⟩)
      · have J4 := hide hJ3
        have T3 := hide hk3
        clear hJ3 hk3 hyy hRd hj
        have hrg3 := ranges_turn (ranges_turn HG.out (Turn.of_below S KA.out) HB.out HZ.out) T3.out HB.out HZ.out
        have hs3 : W.heap.size < W3.heap.size := Nat.lt_of_lt_of_le (by have := KA.out.size; omega) T3.out.size
        gi_wp2
        go_roundw
        case rel => exact ⟨1, _, cnt2, hrg3, by omega, fun e => absurd e (by decide), J4, hs3⟩
        case measure => rw [hrg3.left_eq, HLT.out.2]; exact HLT.out.1
      · have JX := hide hJx3
        clear hJx3 hyy hRd
        gi_wp2
        refine bodyPost_ret (results_none rfl _ _ _) rfl ?_
        exact ⟨⟨_, rfl⟩, .inr ⟨1, Nat.le_refl _, JX.out⟩⟩
end Go.Proofs.Ytehgjkckhjggbaa
namespace Go.Proofs.Ytehgjkckhjggbaa
open Go.RowKit Go.Maps Go.WideMaps
attribute [local go_sem] Oper.semAt_some
def plC (q : Pl) : List Value := [.int .u64 (q.key : Int), .int .i64 (q.at_ : Int), .int .i64 (q.n : Int), .int .u32 (q.cook : Int), .bool q.dead]
/-- A list of at most one place, of the call's own. -/
def OwnPl (w : World) (B : Nat) (v : Value) (l : List Pl) : Prop := w.ownsRow B 83 5 v l.length (l.flatMap plC)
theorem ownPl_nil (w : World) (B : Nat) : OwnPl w B (.slice none 0 0) [] := World.ownsRow_nil _ _ _ _
theorem row_turn {S : Nat → Prop} {w w' : World} {B : Nat} {e : TypeId} {k n : Nat} {v : Value} {xs : List Value} (h : w.ownsRow B e k v n xs) (t : Turn S w w') (hn : ∀ g, B ≤ g → ¬ S g) : w'.ownsRow B e k v n xs := by
  obtain ⟨h1, h2 | ⟨g, cap, cur, rfl, h3, h4, h5⟩⟩ := h
  · exact ⟨h1, .inl h2⟩
  · exact ⟨h1, .inr ⟨g, cap, cur, rfl, h3, t.at_ h4 (hn g h3), h5⟩⟩
theorem row_more {w : World} {B B' : Nat} {e : TypeId} {k n : Nat} {v : Value} {xs : List Value} (h : w.ownsRow B e k v n xs) (hb : B' ≤ B) : w.ownsRow B' e k v n xs := by
  obtain ⟨h1, h2 | ⟨g, cap, cur, rfl, h3, h4, h5⟩⟩ := h
  · exact ⟨h1, .inl h2⟩
  · exact ⟨h1, .inr ⟨g, cap, cur, rfl, by omega, h4, h5⟩⟩
theorem Try.info_place : (Try.prog.info? 83).map (fun i => (i.zero, i.size, i.bytes)) = some (some (.agg #[.int .u64 0, .int .i64 0, .int .i64 0, .int .u32 0, .bool false]), 5, 32) := by kernel_rfl
theorem news_at (W : World) (q : Pl) (j : Nat) (u : Value) (h : (plC q)[j]? = some u) : (W.alloc (.cells #[.int .u64 (q.key : Int), .int .i64 (q.at_ : Int), .int .i64 (q.n : Int), .int .u32 (q.cook : Int), .bool q.dead] 83)).cell? ((⟨W.heap.size, 0, none⟩ : Addr).add j) = some u := by
  have b := Blk.new W (B := 0) 83 #[.int .u64 (q.key : Int), .int .i64 (q.at_ : Int), .int .i64 (q.n : Int), .int .u32 (q.cook : Int), .bool q.dead] (Nat.zero_le _)
  unfold plC at h
  have hj : j < 5 := by
    rcases Nat.lt_or_ge j 5 with h9 | h9
    · exact h9
    · rw [List.getElem?_eq_none (by simpa using h9)] at h
      cases h
  match j, hj with
  | 0, _ => exact (b.cell 0).trans h
  | 1, _ => exact (b.cell 1).trans h
  | 2, _ => exact (b.cell 2).trans h
  | 3, _ => exact (b.cell 3).trans h
  | 4, _ => exact (b.cell 4).trans h
theorem news_one (q : Pl) : ∀ u ∈ plC q, u.oneCell' = true := by
  intro u hu
  simp only [plC, List.mem_cons, List.not_mem_nil, or_false] at hu
  rcases hu with rfl | rfl | rfl | rfl | rfl <;> rfl
theorem one_form {w : World} {B : Nat} {e : TypeId} {k : Nat} {v : Value} {xs : List Value} (h : w.ownsRow B e k v 1 xs) : ∃ g cap, v = .slice (some ⟨g, 0, none⟩) 1 cap ∧ B ≤ g := by
  obtain ⟨_, h2 | ⟨g, cap, cur, rfl, h3, _⟩⟩ := h
  · cases h2.2
  · exact ⟨g, cap, rfl, h3⟩
def oneAt (i : Nat) (q : Pl) : List Pl := List.replicate i q
theorem vals_at {W : World} {S : Nat → Prop} {bm b n z : Nat} {q : Pl} (e : W.heap.size = z) (hm : W.cell? ⟨bm, 0, none⟩ = some (.map (some b))) (hown : W.ownsMap Try.prog 31 tok b n (plP [q])) (hb : ¬ S b) (hz : ¬ S z) :
    SeqC Try.prog 95 #[] #[.pointer (some ⟨bm, 0, none⟩)] (valR q z) (stepAt z) S 1 W := by
  subst e
  exact vals_seq hm hown hb hz
set_option maxRecDepth 100000 in
set_option maxHeartbeats 3200000 in
theorem appseq_one {w : World} {bm b n : Nat} {q : Pl} (hm : w.cell? ⟨bm, 0, none⟩ = some (.map (some b))) (hown : w.ownsMap Try.prog 31 tok b n (plP [q])) :
    Calls Try.prog 125 #[.slice none 0 0, .func (.func 95) #[] #[.pointer (some ⟨bm, 0, none⟩)]] w fun e w' => ∃ v, e = .returned v ∧ OwnPl w' w.heap.size v [q] ∧ Below w.heap.size w w' := by
  have HM := hide hm
  have HO := hide hown
  clear hm hown
  refine calls_marks Try.func125 rfl ?_
  simp only [Try.ntmps125, List.size_toArray, List.length_cons, List.length_nil, Nat.reduceAdd, Nat.reduceSub, Array.replicate_succ, Array.replicate_zero, List.push_toArray, List.append_toArray, List.nil_append, List.cons_append]
  go_wp2_with fail
  have b1 : Below w.heap.size w (w.alloc (.cells #[.slice none 0 0] 49)) := below_alloc _ _
  have bl : Blk (w.alloc (.cells #[.slice none 0 0] 49)) 0 49 w.heap.size [.slice none 0 0] := Blk.new w (B := 0) _ #[.slice none 0 0] (Nat.zero_le _)
  have hs6 : (w.alloc (.cells #[.slice none 0 0] 49)).heap.size = w.heap.size + 1 := by simp
  obtain ⟨W6, hW6⟩ : ∃ W6, W6 = w.alloc (.cells #[.slice none 0 0] 49) := ⟨_, rfl⟩
  rw [← hW6] at b1 bl hs6 ⊢
  obtain ⟨z, hz⟩ : ∃ z, z = w.heap.size := ⟨_, rfl⟩
  rw [← hz] at b1 bl hs6 ⊢
  have HZ := hide hz
  have K6 := hide b1
  have BL := hide bl
  have HS6 := hide hs6
  clear b1 bl hs6 hW6 hz
  have hz6 : W6.heap.size = z + 1 := HS6.out
  have hbl : b < z := by rw [HZ.out]; exact HO.out.lt
  have hml : bm < z := by rw [HZ.out]; exact cell_lt HM.out
  refine wp_range_a (gf := 95) (pb := #[]) (lb := #[.pointer (some ⟨bm, 0, none⟩)]) rfl (enters_of Try.func95 (by kernel_rfl) rfl)
    (R := valR q (z + 3)) (St := stepAt (z + 3)) (S := fun k => k = z) (N := 1) ?seq ?sd ?sl ?st ?ps
    (fun i A => Turn (fun k => k = z ∨ k = z + 3) W6 A ∧ ∃ v, Blk A 0 49 z [v] ∧ OwnPl A (z + 4) v (oneAt i q) ∧ (i = 0 → v = .slice none 0 0))
    (fun _ _ _ => False) ?i ?ix ?il ?ixl ?i0 ?round ?done ?stop
  case seq =>
    intro r
    have b61 : Below W6.heap.size W6 ((W6.alloc (.deferred (some []))).alloc (.loop r)) := (below_alloc _ _).trans ((below_alloc _ _).mono (by simp))
    have k9 : Below w.heap.size w ((W6.alloc (.deferred (some []))).alloc (.loop r)) := by
      rw [← HZ.out]
      exact K6.out.trans (b61.mono (by omega))
    refine vals_at (by simp; omega) ((k9.cell (cell_lt HM.out)).trans HM.out) (ownsMap_turn HO.out (Turn.of_below (fun _ => False) k9) id) ?_ ?_
    · rintro (e | e) <;> omega
    · rintro (e | e) <;> omega
  case sd => intro e; omega
  case sl => intro e; omega
  case st => exact fun A B k o h hk ho => h.at_ ho (by omega)
  case ps => rintro i vs A ⟨rfl, _⟩; rfl
  case i =>
    rintro i A B ⟨hT, v, hb, hh, hv⟩ h
    exact ⟨hT.trans (h.mono fun k e => .inr e), v, hb.turn h (by omega), row_turn hh h (fun g hg e => by omega), hv⟩
  case ix => exact fun _ _ _ _ h _ => h
  case il =>
    rintro i A r r' ⟨hT, v, hb, hh, hv⟩ hl
    exact ⟨hT.putL (by omega) _, v, hb.put hl _, row_turn hh (Turn.put (S := fun k => k = W6.heap.size + 1) A _ _ rfl) (fun g hg e => by omega), hv⟩
  case ixl => exact fun _ _ _ _ _ h _ => h
  case i0 =>
    intro r
    have b61 : Below W6.heap.size W6 ((W6.alloc (.deferred (some []))).alloc (.loop r)) := (below_alloc _ _).trans ((below_alloc _ _).mono (by simp))
    exact ⟨Turn.of_below _ b61, _, BL.out.keep b61, ownPl_nil _ _, fun _ => rfl⟩
  case stop => exact fun _ _ _ _ h _ => h.elim
  case done =>
    rintro W ⟨hT, v, hb, hh, hv⟩ hK
    have c5 : W.cell? ⟨z, 0, none⟩ = some v := hb.cell 0
    have HH := hide hh
    have KB : Hid (Below z w W) := hide (by
      have h9 : Below z W6 W := hT.below (by omega) (fun k e => by rcases e with e | e <;> omega)
      exact K6.out.trans h9)
    clear hT hb hh hv
    go_wp2_with fail
    refine ⟨by simp, .inl ⟨_, _, rfl, run_takeDeferred hK, ?_⟩⟩
    refine ⟨_, results_tmp rfl _ _ _, v, rfl, ?_, ?_⟩
    · exact row_more (row_turn HH.out (Turn.put (S := fun k => k = W6.heap.size) W _ _ rfl) (fun g hg e => by omega)) (by have := HZ.out; omega)
    · rw [← HZ.out]
      exact below_put KB.out (show z ≤ W6.heap.size by omega) _
  case round =>
    rintro l i vs W0 hi ⟨hT, v, hb, hh, hv⟩ ⟨rfl, hsz⟩ hlow
    obtain rfl : i = 0 := by omega
    obtain rfl := hv rfl
    clear hv hh
    unfold plV
    gi_wp2
    have ka : Below W0.heap.size W0 (W0.alloc (.cells #[.int .u64 (q.key : Int), .int .i64 (q.at_ : Int), .int .i64 (q.n : Int), .int .u32 (q.cook : Int), .bool q.dead] 83)) := below_alloc _ _
    have bq := Blk.new W0 (B := 0) 83 #[.int .u64 (q.key : Int), .int .i64 (q.at_ : Int), .int .i64 (q.n : Int), .int .u32 (q.cook : Int), .bool q.dead] (Nat.zero_le _)
    obtain ⟨g5, hg5⟩ : ∃ g, g = W0.heap.size := ⟨_, rfl⟩
    obtain ⟨W1, hW1⟩ : ∃ W1, W1 = W0.alloc (.cells #[.int .u64 (q.key : Int), .int .i64 (q.at_ : Int), .int .i64 (q.n : Int), .int .u32 (q.cook : Int), .bool q.dead] 83) := ⟨_, rfl⟩
    rw [← hW1] at ka bq ⊢
    rw [← hg5] at bq ⊢
    refine ⟨by rw [hg5]; exact ka, fun r => ?_⟩
    have hlp : W6.heap.size + 1 < W0.heap.size := hlow _ (by omega)
    have hT1 := hT.trans (Turn.of_below _ ka)
    have hb1 := hb.keep ka
    have tp : Turn (fun k => k = W6.heap.size + 1) W1 (W1.putObj (W6.heap.size + 1) (.loop r)) := Turn.put _ _ _ rfl
    have hT2 := hT1.putL (l := W6.heap.size + 1) (by omega) (.loop r)
    have hb2 := hb1.turn tp (by omega)
    have bq2 := bq.turn tp (by omega)
    obtain ⟨W, hW⟩ : ∃ W, W = W1.putObj (W6.heap.size + 1) (.loop r) := ⟨_, rfl⟩
    rw [← hW] at hT2 hb2 bq2 ⊢
    have c2 : W.cell? ⟨z, 0, none⟩ = some (.slice none 0 0) := hb2.cell 0
    have q0 : W.cell? ⟨g5, 0, none⟩ = some (.int .u64 (q.key : Int)) := bq2.cell 0
    have q1 : W.cell? ⟨g5, 1, none⟩ = some (.int .i64 (q.at_ : Int)) := bq2.cell 1
    have q2 : W.cell? ⟨g5, 2, none⟩ = some (.int .i64 (q.n : Int)) := bq2.cell 2
    have q3 : W.cell? ⟨g5, 3, none⟩ = some (.int .u32 (q.cook : Int)) := bq2.cell 3
    have q4 : W.cell? ⟨g5, 4, none⟩ = some (.bool q.dead) := bq2.cell 4
    have HT2 := hide hT2
    have HB2 := hide hb2
    have HSZ := hide (show z + 4 ≤ W.heap.size by rw [hW, World.putObj_size, hW1]; simp; omega)
    clear hT hb hT1 hb1 tp hT2 hb2 bq bq2 ka hW1 hW hg5
    have f2 := HB2.out.frozen 0
    obtain ⟨i0, hi0, hz0, hz1, hz2⟩ := info_parts Try.info_place
    gi_wp2_with (first
      | (refine wpListIn_append_own _ rfl (.tmp 8) (.tmp 10) 49 rfl (z + 4) 83 i0 _ 5 32 Try.underlying49 hi0 hz0 hz1 hz2 rfl (by decide) (.slice none 0 0) 0 [] rfl (World.ownsRow_nil _ _ _ _) ⟨W.heap.size, 0, none⟩ 1 1 (plC q) rfl rfl (news_at W q) (news_one q) (by decide) (by decide) (by simp only [World.size_alloc]; have := HSZ.out; omega) ?_; intro v8 w8 h8 k8 e8; obtain ⟨g8, cap8, rfl, hg8⟩ := one_form h8; have t8 : Turn (fun _ => False) W w8 := (Turn.of_below _ (below_alloc W (.cells #[.int .u64 (q.key : Int), .int .i64 (q.at_ : Int), .int .i64 (q.n : Int), .int .u32 (q.cook : Int), .bool q.dead] 83))).trans ((Turn.of_grown k8).mono (fun _ e => by cases e)); have b8 := HB2.out.turn t8 id; have c8 := b8.cell 0; have f8 := b8.frozen 0)
      | gi_in)
    have ts : Turn (fun k => k = z) w8 (w8.setCell ⟨z, 0, none⟩ (.slice (some ⟨g8, 0, none⟩) 1 cap8)) := (Turn.of_grown (grown_set w8 z 0 (.slice (some ⟨g8, 0, none⟩) 1 cap8))).mono (fun j e => by simpa using e)
    have tw := (t8.mono (S' := fun k => k = z) (fun _ e => e.elim)).trans ts
    exact ⟨tw, HT2.out.trans (tw.mono fun _ e => .inl e), _, b8.stored 0 _, row_turn h8 ts (fun g hg e => by omega), fun e => by cases e⟩
end Go.Proofs.Ytehgjkckhjggbaa
namespace Go.Proofs.Ytehgjkckhjggbaa
open Go.RowKit Go.Maps Go.WideMaps
set_option maxRecDepth 100000 in
set_option maxHeartbeats 1600000 in
theorem len64_one (w : World) : Calls Try.prog 147 #[.int .u64 1] w fun e w' => e = .returned (.int .i64 1) ∧ w' = w := by
  go_enter Try.func147, Try.ntmps147
  go_wp2_with fail
  go_ret
  refine ⟨?_, rfl⟩
  kernel_rfl
theorem len_one (w : World) : Calls Try.prog 124 #[.int .u64 1] w fun e w' => e = .returned (.int .i64 1) ∧ w' = w := by
  have h := len64_one w
  go_enter Try.func124, Try.ntmps124
  go_wp2_with fail
  refine h.mono ?_
  rintro e w' ⟨rfl, rfl⟩
  go_wp2_with fail
  go_ret
  exact ⟨rfl, rfl⟩
theorem insort_one (v c : Value) (w : World) : Calls Try.prog 148 #[v, .int .i64 0, .int .i64 1, c] w fun e w' => (∃ u, e = .returned u) ∧ w' = w := by
  go_enter Try.func148, Try.ntmps148
  go_wp2_with fail
  go_loopw [8] (fun i wr => i = .int .i64 1 ∧ wr = w) (fun _ _ => 0)
  case atStart => exact ⟨rfl, rfl⟩
  case round =>
    obtain ⟨rfl, rfl⟩ := hrel
    go_wp2_with fail
    go_end0
    exact ⟨⟨_, rfl⟩, rfl⟩
theorem pdq_one (v c : Value) (w : World) : Calls Try.prog 126 #[v, .int .i64 0, .int .i64 1, .int .i64 1, c] w fun e w' => (∃ u, e = .returned u) ∧ w' = w := by
  go_enter Try.func126, Try.ntmps126
  go_wp2_with fail
  go_loopw [1, 2] (fun a b wr => a = .int .i64 0 ∧ b = .int .i64 1 ∧ wr = w) (fun _ _ _ => 0)
  case atStart => exact ⟨rfl, rfl, rfl⟩
  case round =>
    obtain ⟨rfl, rfl, hrel⟩ := hrel
    have h := insort_one v c w
    go_wp2_with fail
    refine h.mono ?_
    rintro e w' ⟨⟨u, rfl⟩, rfl⟩
    go_wp2_with fail
    refine bodyPost_ret (results_none rfl _ _ _) rfl ⟨⟨_, rfl⟩, rfl⟩
theorem sortfunc_one (A : Option Addr) (cap : Nat) (c : Value) (w : World) : Calls Try.prog 94 #[.slice A 1 cap, c] w fun e w' => (∃ u, e = .returned u) ∧ w' = w := by
  have h1 := len_one w
  have h2 := pdq_one (.slice A 1 cap) c w
  go_enter Try.func94, Try.ntmps94
  go_wp2_with fail
  refine h1.mono ?_
  rintro e w' ⟨rfl, rfl⟩
  go_wp2_with fail
  refine h2.mono ?_
  rintro e w' ⟨⟨u, rfl⟩, rfl⟩
  go_wp2_with fail
  go_end0
  exact ⟨⟨_, rfl⟩, rfl⟩
theorem values_any (b : Nat) (w : World) : Calls Try.prog 57 #[.map (some b)] w fun e w' => e = .returned (.func (.func 95) #[] #[.pointer (some ⟨w.heap.size, 0, none⟩)]) ∧ w'.cell? ⟨w.heap.size, 0, none⟩ = some (.map (some b)) ∧ Below w.heap.size w w' := by
  go_enter Try.func57, Try.ntmps57
  go_wp2_with fail
  go_ret
  refine ⟨rfl, ?_, below_alloc _ _⟩
  exact (Blk.new w (B := 0) 85 #[.map (some b)] (Nat.zero_le _)).cell 0
theorem collect_one {w : World} {bm b n : Nat} {q : Pl} (hm : w.cell? ⟨bm, 0, none⟩ = some (.map (some b))) (hown : w.ownsMap Try.prog 31 tok b n (plP [q])) :
    Calls Try.prog 93 #[.func (.func 95) #[] #[.pointer (some ⟨bm, 0, none⟩)]] w fun e w' => ∃ v, e = .returned v ∧ OwnPl w' w.heap.size v [q] ∧ Below w.heap.size w w' := by
  have h := appseq_one hm hown
  clear hm hown
  go_enter Try.func93, Try.ntmps93
  go_wp2_with fail
  refine h.mono ?_
  rintro e w' ⟨v, rfl, o, k⟩
  go_wp2_with fail
  go_ret
  exact ⟨v, rfl, o, k⟩
theorem sortedfunc_one {w : World} {bm b n : Nat} {q : Pl} (c : Value) (hm : w.cell? ⟨bm, 0, none⟩ = some (.map (some b))) (hown : w.ownsMap Try.prog 31 tok b n (plP [q])) :
    Calls Try.prog 56 #[.func (.func 95) #[] #[.pointer (some ⟨bm, 0, none⟩)], c] w fun e w' => ∃ v, e = .returned v ∧ OwnPl w' w.heap.size v [q] ∧ Below w.heap.size w w' := by
  have h := collect_one hm hown
  clear hm hown
  go_enter Try.func56, Try.ntmps56
  go_wp2_with fail
  refine h.mono ?_
  rintro e w' ⟨v, rfl, o, k⟩
  obtain ⟨g, cap, rfl, hg⟩ := one_form o
  have h2 := sortfunc_one (some ⟨g, 0, none⟩) cap c w'
  have O := hide o
  have K := hide k
  clear h o k
  go_wp2_with fail
  refine h2.mono ?_
  rintro e w' ⟨⟨u, rfl⟩, rfl⟩
  go_wp2_with fail
  go_ret
  exact ⟨_, rfl, O.out, K.out⟩
end Go.Proofs.Ytehgjkckhjggbaa
