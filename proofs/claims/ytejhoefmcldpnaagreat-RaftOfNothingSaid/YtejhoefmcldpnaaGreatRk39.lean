/- The contract of a node's Take: the entries behind those that were taken, up to those agreed upon. Condition: at most 100 of them, each as a log holds it. The walk of the law's own known(): one that is alone leads. No condition. -/
import Derived.Test.YtejhoefmcldpnaaGreatRk36
import Derived.Test.YtejhoefmcldpnaaGreatRk7
import Derived.Test.YtejhoefmcldpnaaGreatRk38
namespace Go.Proofs.YtejhoefmcldpnaaGreat
open Go.RowKit Go.Maps
theorem turn_of_below {B : Nat} {w w' : World} (h : Below B w w') : Turn (fun k => B ≤ k) w w' := ⟨h.os, h.tape, h.output, h.size, fun k _ hk => h.block k (by omega)⟩
theorem NdS.turn {T S : Nat → Prop} {w w' : World} {r d l room : Nat} {N : Nd} {M : LogL} {L : DiskL} (h : NdS w S r d l room N M L) (t : Turn T w w') (hT : ∀ k, S k → ¬ T k) : NdS w' S r d l room N M L := by
  obtain ⟨F, G, h, hs⟩ := h
  exact ⟨F, G, ⟨h.blk.turn t (hT r ((hs r).2 (.inr rfl))), h.pro.turn t (fun k hk => hT k ((hs k).2 (.inl (.inl hk)))) (fun k hk => hT k ((hs k).2 (.inl (.inr hk)))), h.nf, h.ng, h.fit⟩, hs⟩
theorem Next.wide {S : Nat → Prop} {w w1 w2 : World} (h : Next S w S w1) (k : Below w.heap.size w1 w2) : Next S w S w2 := ⟨h.turn.then (turn_of_below k) (fun _ e => .inr e), fun _ => .inl⟩
theorem take_meas (t0 j m : Nat) (h : j < m) : m - (t0 + j + 1 - t0) < m - (t0 + j - t0) := by omega
def entC : List (Nat × Value) → List Value
  | [] => []
  | x :: r => .int .i64 (x.1 : Int) :: x.2 :: entC r
theorem entC_length : ∀ X : List (Nat × Value), (entC X).length = X.length * 2
  | [] => rfl
  | q :: r => by simp only [entC, List.length_cons, entC_length r]; omega
theorem entC_append : ∀ X Y : List (Nat × Value), entC (X ++ Y) = entC X ++ entC Y
  | [], _ => rfl
  | q :: r, Y => by simp [entC, entC_append r Y]
theorem entC_at : ∀ (X : List (Nat × Value)) (i : Nat) (h : i < X.length), (entC X)[i * 2]? = some (.int .i64 (X[i].1 : Int)) ∧ (entC X)[i * 2 + 1]? = some X[i].2
  | q :: r, 0, _ => by simp [entC]
  | q :: r, i + 1, h => by
    have h' : i < r.length := by simpa using h
    obtain ⟨h0, h1⟩ := entC_at r i h'
    have e : (i + 1) * 2 + 1 = i * 2 + 1 + 1 + 1 := by omega
    have e0 : (i + 1) * 2 = i * 2 + 1 + 1 := by omega
    rw [e, e0]
    simp only [entC, List.getElem?_cons_succ, List.getElem_cons_succ]
    exact ⟨h0, h1⟩
/-- One entry in a row: its term, its bytes in a block of bytes from B on. -/
structure EntI (w : World) (B : Nat) (x : Nat × Value) (e : Nat × List Nat) : Prop where
  term : x.1 = e.1
  data : ∃ A n c, x.2 = .slice A n c ∧ IsB w (.slice A n c) e.2 ∧ e.2.length = n ∧ U8At w A ∧ ∀ b, A = some b → B ≤ b.block
theorem EntI.off {S : Nat → Prop} {w w' : World} {B : Nat} {x : Nat × Value} {e : Nat × List Nat} (h : EntI w B x e) (t : Turn S w w') (hS : ∀ k cur fr, w.heap[k]? = some (.cells cur 5 fr) → B ≤ k → ¬ S k) : EntI w' B x e := by
  obtain ⟨h1, A, n, c, e1, e2, e3, e4, e5⟩ := h
  have ho : ∀ b, A = some b → ¬ S b.block := fun b hb => by
    obtain ⟨cur, fr, hh⟩ := e4 b hb
    exact hS _ _ _ hh (e5 b hb)
  refine ⟨h1, A, n, c, e1, e2.turn t (fun g hg => ?_), e3, e4.off t ho, e5⟩
  rcases A with _ | b
  · cases hg
  · have e9 : b.block = g := by simpa [Value.ownBlock] using hg
    rw [← e9]
    exact ho b rfl
/-- Entries in a row of the call's own. -/
structure EntR (w : World) (B : Nat) (v : Value) (es : List (Nat × List Nat)) : Prop where
  out : ∃ X : List (Nat × Value), w.ownsRow B 50 2 v X.length (entC X) ∧ X.length = es.length ∧ ∀ i (h : i < X.length) (h2 : i < es.length), EntI w B X[i] es[i]
theorem EntR.nil (w : World) (B : Nat) : EntR w B (.slice none 0 0) [] := ⟨[], World.ownsRow_nil _ _ _ _, rfl, fun i h => by simp at h⟩
theorem EntR.turn {S : Nat → Prop} {w w' : World} {B : Nat} {v : Value} {es : List (Nat × List Nat)} (h : EntR w B v es) (t : Turn S w w') (hS : ∀ k, S k → k < B) : EntR w' B v es := by
  obtain ⟨X, h1, h2, h3⟩ := h
  refine ⟨X, ownsRow_turn h1 t (fun g hg hs => ?_), h2, fun i hi hi2 => (h3 i hi hi2).off t (fun k _ _ _ hB hs => ?_)⟩
  · have := (World.ownsRow.lt h1 g hg).1
    have := hS g hs
    omega
  · have := hS k hs
    omega
theorem EntR.keep {w w' : World} {B : Nat} {v : Value} {es : List (Nat × List Nat)} (h : EntR w B v es) (k : Below w.heap.size w w') : EntR w' B v es := h.turn (S := fun _ => False) (Turn.of_below _ k) (fun _ e => e.elim)
theorem EntR.form {w : World} {B : Nat} {v : Value} {es : List (Nat × List Nat)} (h : EntR w B v es) : (es = [] ∧ ∃ A c, v = .slice A 0 c) ∨ ∃ g c, v = .slice (some ⟨g, 0, none⟩) es.length c ∧ B ≤ g ∧ g < w.heap.size ∧ ∀ i (hi : i < es.length), ∃ A n cc, w.cell? ⟨g, i * 2, none⟩ = some (.int .i64 ((es[i]).1 : Int)) ∧ w.cell? ⟨g, i * 2 + 1, none⟩ = some (.slice A n cc) ∧ IsB w (.slice A n cc) (es[i]).2 ∧ (es[i]).2.length = n := by
  obtain ⟨X, hr, hl, he⟩ := h
  rcases hr.2 with ⟨rfl, hn⟩ | ⟨g, cap, cur, rfl, hb, hg, h1, h2, _⟩
  · exact .inl ⟨List.eq_nil_of_length_eq_zero (by omega), none, 0, rfl⟩
  · refine .inr ⟨g, cap, by rw [hl], hb, heap_lt hg, fun i hi => ?_⟩
    obtain ⟨q0, q1⟩ := entC_at X i (by omega)
    obtain ⟨e1, A, n, c, e2, e3, e4, _, _⟩ := he i (by omega) hi
    have hL := entC_length X
    refine ⟨A, n, c, ?_, ?_, e3, e4⟩
    · rw [World.ownsRow.cellAt hr _ (by omega), q0, e1]
    · rw [World.ownsRow.cellAt hr _ (by omega), q1, e2]
theorem Tryz.info_entE : (Tryz.prog.info? 50).map (fun i => (i.zero, i.size, i.bytes)) = some (some (.agg #[.int .i64 0, .slice none 0 0]), 2, 32) := by kernel_rfl
set_option maxRecDepth 100000 in
theorem wpList_append_ent {w : World} {ops : Array Oper} {rest : List Oper} {o : Oper} {a : Act} {Q : Exit → Act → World → Prop} (hgd : o.guard = none) (s x : Operand)
    (ho : o.op = .call { callee := .builtin .append, args := #[s, x], argTypes := #[45, 45] })
    (B : Nat) (v : Value) (es : List (Nat × List Nat)) (hs : a.eval s = v) (hown : EntR w B v es)
    (b t n c : Nat) (A : Option Addr) (dat : List Nat) (hx : a.eval x = .slice (some ⟨b, 0, none⟩) 1 1) (c0 : w.cell? ⟨b, 0, none⟩ = some (.int .i64 (t : Int))) (c1 : w.cell? ⟨b, 1, none⟩ = some (.slice A n c))
    (hI : EntI w B (t, .slice A n c) (t, dat)) (hlen : es.length ≤ 1000000) (hbase : B ≤ w.heap.size)
    (h : ∀ v' w', EntR w' B v' (es ++ [(t, dat)]) → Below B w w' → wpList Tryz.prog ops Q rest (a.put o.dst v') w') : wpList Tryz.prog ops Q (o :: rest) a w := by
  obtain ⟨i0, hi, hz0, hz1, hz2⟩ := info_parts Tryz.info_entE
  obtain ⟨X, hr, hl, he⟩ := hown
  refine wpList_append_own w hgd s x _ ho B 50 i0 (.agg #[.int .i64 0, .slice none 0 0]) 2 32 Tryz.underlying45 hi hz0 hz1 hz2 rfl (by decide) v _ _ hs hr ⟨b, 0, none⟩ 1 1 [.int .i64 (t : Int), .slice A n c] hx rfl ?_ ?_ (by unfold maxLen; omega) (by omega) hbase ?_
  · intro j u hu
    rw [add_off]
    rcases j with _ | _ | j
    · simp at hu; subst hu; exact c0
    · simp at hu; subst hu; exact c1
    · simp at hu
  · intro u hu
    simp at hu
    rcases hu with rfl | rfl
    · rfl
    · rfl
  · intro v' w' hr' hg _
    have hb : Below B w w' := (Below.refl _ _).grown hg hbase fun k hk => (World.ownsRow.lt hr k hk).1
    have tg : Turn (fun k => some k = v.ownBlock) w w' := Turn.of_grown hg
    have hoff : ∀ k cur fr, w.heap[k]? = some (.cells cur 5 fr) → B ≤ k → ¬ some k = v.ownBlock := by
      intro k cur fr hh _ e
      rcases hr.2 with ⟨e2, _⟩ | ⟨g, cap, cur2, e2, _, hh2, _⟩
      · rw [e2] at e; cases e
      · rw [e2] at e
        have e3 : k = g := by simpa [Value.ownBlock] using e
        rw [e3, hh2] at hh
        simp only [Option.some.injEq, Obj.cells.injEq] at hh
        exact absurd hh.2.1 (by decide)
    refine h v' w' ⟨X ++ [(t, .slice A n c)], ?_, by simp [hl], fun i hi2 hi3 => ?_⟩ hb
    · rw [entC_append, List.length_append]
      exact hr'
    · by_cases hlt : i < X.length
      · rw [List.getElem_append_left hlt, List.getElem_append_left (by omega)]
        exact (he i hlt (by omega)).off tg hoff
      · have hi4 : i = X.length := by simp at hi2; omega
        subst hi4
        rw [List.getElem_append_right (Nat.le_refl _), List.getElem_append_right (by omega)]
        simp only [Nat.sub_self, List.getElem_cons_zero, hl]
        exact hI.off tg hoff
set_option maxRecDepth 100000 in
set_option maxHeartbeats 3200000 in
theorem rtake_any {w : World} {S : Nat → Prop} {r d l room : Nat} {N : Nd} {M : LogL} {L : DiskL} (h : NdS w S r d l room N M L) (es : List (Nat × List Nat)) (m t0 : Nat) (hm : es.length = m) (ht0 : N.taken = t0) (hc : N.comm = t0 + m) (h9 : t0 + m ≤ 1099511627776) (hm9 : m ≤ 1000) (hes : ∀ i (hi : i < es.length), HasE M ((t0 + 1 + i : Nat) : Int) (es[i]).1 (es[i]).2) :
    Calls Tryz.prog 17 #[.pointer (some ⟨r, 0, none⟩)] w fun e w' => ∃ v, e = .returned v ∧ EntR w' w.heap.size v es ∧ NdS w' S r d l room { N with taken := t0 + m } M L ∧ Next S w S w' := by
  have HS := hide (stopped_no h)
  have H := hide h
  have HM := hide hm
  have HC := hide hc
  have HE := hide hes
  have HT0 := hide ht0
  have hrl := h.self
  have HLO := hide (h.low r h.self)
  have HLW := hide h.low
  clear h hm hc hes ht0 hrl
  go_enter Tryz.func17, Tryz.ntmps17
  go_wp2_with fail
  refine HS.out.mono ?_
  rintro e w1 ⟨rfl, rfl⟩
  go_wp2_with fail
  go_loopw [3] (fun v wr => ∃ j : Nat, j ≤ m ∧ Hid (EntR wr w.heap.size v (es.take j)) ∧ Hid (NdS wr S r d l room { N with taken := t0 + j } M L) ∧ Hid (Next S w S wr)) (fun _ wr => m - ((match wr.cell? ⟨r, 9, none⟩ with | some (.int _ z) => z.toNat | _ => 0) - t0))
  case atStart => exact ⟨0, Nat.zero_le _, EntR.nil _ _, hide (by have := H.out; rw [← HT0.out]; exact this), hide (Next.refl _ _)⟩
  case round =>
    obtain ⟨j, hj, HR, HN, HX⟩ := hrel
    have q9 : wr.cell? ⟨r, 9, none⟩ = some (.int .i64 ((t0 + j : Nat) : Int)) := nds_cell HN.out 9
    have q8 : wr.cell? ⟨r, 8, none⟩ = some (.int .i64 ((N.comm : Nat) : Int)) := nds_cell HN.out 8
    rw [HC.out] at q8
    have f9 := HN.out.blk.frozen 9
    obtain ⟨a, ha⟩ : ∃ a, a = t0 + j := ⟨_, rfl⟩
    obtain ⟨b, hb⟩ : ∃ b, b = t0 + m := ⟨_, rfl⟩
    rw [← ha] at q9
    rw [← hb] at q8
    have hab9 : a ≤ 1099511627776 := by omega
    have hbb9 : b ≤ 1099511627776 := by omega
    by_cases hlt : j < m
    · have hab : (a : Int) < (b : Int) := by omega
      obtain ⟨a1, ha1⟩ : ∃ k, k = a + 1 := ⟨_, rfl⟩
      have hav : (a : Int) + 1 = (a1 : Int) := by omega
      have HAB := hide (And.intro ha (And.intro hb ha1))
      have hjx : j < es.length := by rw [HM.out]; exact hlt
      obtain ⟨⟨t, dat⟩, hx⟩ : ∃ x, x = es[j] := ⟨_, rfl⟩
      have hE := HE.out j hjx
      rw [← hx] at hE
      dsimp only at hE
      have HE1 : Hid (HasE M (a1 : Int) t dat) := hide (by rw [show a1 = t0 + 1 + j by omega]; exact hE)
      have HTK : Hid (es.take (j + 1) = es.take j ++ [(t, dat)]) := hide (by rw [hx, List.take_append_getElem hjx])
      have HTL : Hid ((es.take j).length ≤ 1000000) := hide (by rw [List.length_take]; omega)
      have S5 := (HN.out.set (N' := { N with taken := a1 }) 9 (.int .i64 (a1 : Int)) rfl HN.out.fit).below (below_drew _)
      have n5 := (set_next (w := wr) (u := .int .i64 (a1 : Int)) (i := 9) HN.out.self).trans (Next.of_below S (below_drew _))
      have R5 := (HR.out.turn (box_turn0 wr r 9 (.int .i64 (a1 : Int))) (fun k e => by rw [e]; exact HLO.out)).keep (below_drew _)
      have EN := hide (entry_in S5 (a1 : Int) t dat HE1.out)
      unfold entV at EN
      have S5 := hide S5
      have N5 := hide (HX.out.trans n5)
      have R5 := hide R5
      clear ha hb ha1 hE hx hjx n5
      go_wp2_with fail
      go_region
      go_wp2_with fail
      clear q9 q8 f9
      refine EN.out.mono ?_
      rintro e w6 ⟨A2, n2, c2, rfl, hA2, u6, l6, k6⟩
      have S6 := hide (S5.out.below k6)
      have N6 := hide (N5.out.trans (Next.of_below S k6))
      have R6 := hide (R5.out.keep k6)
      have hbs := N5.out.turn.size
      have I6 : Hid (EntI w6 w.heap.size (t, .slice A2 n2 c2) (t, dat)) := hide ⟨rfl, A2, n2, c2, rfl, l6.isB, l6.len, u6, fun b e => Nat.le_trans hbs (hA2 b e)⟩
      clear hA2 u6 l6 k6 hbs EN S5 N5 R5
      go_wp2_with (at_builtin; refine halt ?_)
      refine ⟨?_⟩
      have kb := below_alloc w6 (.cells #[.int .i64 (t : Int), .slice A2 n2 c2] 50)
      have bg := Blk.new w6 (B := 0) 50 #[.int .i64 (t : Int), .slice A2 n2 c2] (Nat.zero_le _)
      refine wpList_append_ent rfl (.tmp 22) (.tmp 29) rfl w.heap.size _ _ rfl (R6.out.keep kb) w6.heap.size t n2 c2 A2 dat rfl (bg.cell 0) (bg.cell 1) (I6.out.off (Turn.of_below (fun _ => False) kb) (fun _ _ _ _ _ e => e)) HTL.out (Nat.le_trans N6.out.turn.size kb.size) ?_
      intro v7 w7 r7 k7
      rw [← HTK.out] at r7
      have S7 := (S6.out.below kb).turn (turn_of_below k7) (fun k hk e => by have := HLW.out k hk; omega)
      have N7 := hide ((N6.out.trans (Next.of_below S kb)).wide k7)
      have q9 : w7.cell? ⟨r, 9, none⟩ = some (.int .i64 ((a1 : Nat) : Int)) := nds_cell S7 9
      have q9r : wr.cell? ⟨r, 9, none⟩ = some (.int .i64 ((t0 + j : Nat) : Int)) := nds_cell HN.out 9
      have R7 := hide r7
      have S7 := hide S7
      clear kb bg r7 k7 R6 I6
      go_wp2_with fail
      go_roundw
      case rel => exact ⟨j + 1, by omega, R7, hide (by have h8 := S7.out; rw [show a1 = t0 + (j + 1) by have := HAB.out; omega] at h8; exact h8), N7⟩
      case measure =>
        obtain ⟨g1, g2, g3⟩ := HAB.out
        simp only [q9, q9r, Int.toNat_natCast]
        have hlt2 : j < m := hlt
        rw [g3, g1]
        exact take_meas t0 j m hlt2
    · have hjm : j = m := by omega
      have hab : ¬ (a : Int) < (b : Int) := by omega
      subst hjm
      rw [List.take_of_length_le (by rw [HM.out]; exact Nat.le_refl _)] at HR
      clear ha hb
      go_wp2_with fail
      go_region
      go_wp2_with fail
      go_ret
      exact ⟨_, rfl, HR.out.keep (below_drew _), HN.out.below (below_drew _), HX.out.trans (Next.of_below S (below_drew _))⟩
end Go.Proofs.YtejhoefmcldpnaaGreat
namespace Go.Proofs.YtejhoefmcldpnaaGreat
open Go.RowKit Go.Maps
/-- The node behind j ticks of its first wait. -/
def kN (j : Nat) : Nd := { ndNew 0 1 0 0 0 with wait := ((10 - j : Nat) : Int) }
/-- .. and behind the tenth one. -/
def kN9 (vt : Nat) : Nd := ⟨0, 1, 1, 0, 2, 0, 1, 0, 3, vt, pairsL 1 5⟩
theorem kN_zero : ndNew 0 1 0 0 0 = kN 0 := rfl
theorem k_ents : ∀ i (hi : i < ([(1, [])] : List (Nat × List Nat)).length), HasE (addE 10000 1 kM0 kL1).1 ((0 + 1 + i : Nat) : Int) (([(1, [])] : List (Nat × List Nat))[i]).1 (([(1, [])] : List (Nat × List Nat))[i]).2 := by
  intro i hi
  have hi0 : i = 0 := by simpa using hi
  subst hi0
  exact k_has
theorem ktick_wait {w : World} {j : Nat} {S : Nat → Prop} {r d l : Nat} (h : NdS w S r d l 10000 (kN j) kM0 []) (hj : j < 9) :
    Calls Tryz.prog 16 #[.pointer (some ⟨r, 0, none⟩), .int .i64 0] w fun e w' => (∃ A n c, e = .returned (.slice A n c)) ∧ NdS w' S r d l 10000 (kN (j + 1)) kM0 [] ∧ Next S w S w' := by
  refine (tick_wait h 0 (10 - j) rfl (by omega) (by omega)).mono ?_
  rintro e w' ⟨rfl, h2, n2⟩
  refine ⟨⟨_, _, _, rfl⟩, ?_, n2⟩
  have e9 : (10 - j - 1 : Nat) = 10 - (j + 1) := by omega
  rw [e9] at h2
  exact h2
theorem ktick_last {w : World} {S : Nat → Prop} {r d l : Nat} (h : NdS w S r d l 10000 (kN 9) kM0 []) :
    Calls Tryz.prog 16 #[.pointer (some ⟨r, 0, none⟩), .int .i64 0] w fun e w' => (∃ A n c, e = .returned (.slice A n c)) ∧ ∃ S' vt, NdS w' S' r d l 10000 (kN9 vt) (addE 10000 1 kM0 kL1).1 (addE 10000 1 kM0 kL1).2 ∧ Next S w S' w' := by
  refine tick_stand h 0 rfl (.inl rfl) (fun w1 h1 n1 => ?_)
  have hL : termP (numsL [1, 1]) [] = kL1 := by rw [k_nums]; rfl
  have h9 := stand_one h1 0 rfl rfl rfl rfl rfl (by decide) (by show (draftL 10000 termK (numsL [1, 1]) []).2 = 0; rw [k_nums]; exact k_draft)
    (by show (addL 10000 logK (uvl 1) kM0 (termP (numsL [1, 1]) [])).2.2 = 0; rw [hL, k_uvl]; exact k_add.1)
    (by show (addE 10000 1 kM0 (termP (numsL [1, 1]) [])).1.next = 2; rw [hL]; unfold addE; rw [k_uvl]; exact k_add.2.1)
    (by show TermE (addE 10000 1 kM0 (termP (numsL [1, 1]) [])).1 1 1; rw [hL]; exact .inl ⟨[], k_has⟩)
  refine h9.mono ?_
  rintro e w2 ⟨rfl, S2, vt, h2, n2⟩
  refine ⟨_, _, _, rfl, ⟨_, _, _, rfl⟩, S2, vt, ?_, n1.trans n2⟩
  have h3 : NdS w2 S2 r d l 10000 (kN9 vt) (addE 10000 1 kM0 (termP (numsL [1, 1]) [])).1 (addE 10000 1 kM0 (termP (numsL [1, 1]) [])).2 := h2
  rw [hL] at h3
  exact h3
set_option maxRecDepth 100000 in
set_option maxHeartbeats 3200000 in
theorem known_any (w : World) : Calls Tryz.prog 8 #[] w fun e w' => e = .returned (.bool true) ∧ Below w.heap.size w w' := by
  go_enter Tryz.func8, Tryz.ntmps8
  go_wp2_with fail
  refine (new_any 10000 w (by decide)).mono ?_
  rintro e w1 ⟨d, F1, rfl, d1, l1, k1⟩
  have D1 := hide d1
  have K1 := hide k1
  have L1 := hide l1
  clear d1 l1 k1
  go_wp2_with fail
  have hop := ropen_any F1 d 10000 [] 0 1 0 0 0 w1 D1.out (.inl rfl) (by decide) k_term (by decide) (by decide) rfl (by rw [k_open.1]; exact k_all)
  rw [k_open.1, k_open.2] at hop
  refine Calls.mono (show Calls Tryz.prog 10 #[.int .i64 0, .int .i64 1, .pointer (some ⟨d, 0, none⟩), .int .i64 0] w1 _ from hop) ?_
  rintro e w2 ⟨r, l, rfl, S2, h2, n2⟩
  have H2 := hide (show NdS w2 S2 r d l 10000 (kN 0) kM0 [] from h2)
  have K2 := hide (K1.out.trans (n2.below K1.out.size L1.out))
  have HS2 := hide (n2.up K1.out.size L1.out)
  clear h2 n2 hop
  go_wp2_with fail
  go_loopw [5] (fun i wr => ∃ (j : Nat) (S : Nat → Prop), j ≤ 10 ∧ i = .int .i64 (j : Int) ∧ Hid (∀ k, S k → w.heap.size ≤ k) ∧ Hid (Below w.heap.size w wr) ∧ (j < 10 → Hid (NdS wr S r d l 10000 (kN j) kM0 [])) ∧ (j = 10 → Hid (∃ vt, NdS wr S r d l 10000 (kN9 vt) (addE 10000 1 kM0 kL1).1 (addE 10000 1 kM0 kL1).2))) (fun i _ => 10 - (intOf i).toNat)
  case atStart => exact ⟨0, S2, by omega, rfl, HS2, K2, fun _ => H2, fun h => by omega⟩
  case round =>
    obtain ⟨j, S, hj, rfl, HS, HK, HA, HB⟩ := hrel
    by_cases hlt : j < 10
    · have hjz : (j : Int) < 10 := by omega
      by_cases h9 : j < 9
      · have TW := hide (ktick_wait (HA hlt).out h9)
        clear HA HB
        go_wp2_with fail
        refine TW.out.mono ?_
        rintro e w3 ⟨⟨A, n, c, rfl⟩, h3, n3⟩
        have H3 := hide h3
        have N3 := hide n3
        clear h3 n3 TW
        go_wp2_with fail
        go_roundw
        case rel => exact ⟨j + 1, S, by omega, by go_num, HS, hide (HK.out.trans (N3.out.below HK.out.size HS.out)), fun _ => H3, fun h => by omega⟩
        case measure => simp [intOf]; omega
      · obtain rfl : j = 9 := by omega
        have TW := hide (ktick_last (HA hlt).out)
        clear HA HB
        go_wp2_with fail
        refine TW.out.mono ?_
        rintro e w3 ⟨⟨A, n, c, rfl⟩, S3, vt, h3, n3⟩
        have H3 : Hid (∃ vt, NdS w3 S3 r d l 10000 (kN9 vt) (addE 10000 1 kM0 kL1).1 (addE 10000 1 kM0 kL1).2) := hide ⟨vt, h3⟩
        have N3 := hide n3
        clear h3 n3 TW
        go_wp2_with fail
        go_roundw
        case rel => exact ⟨10, S3, by omega, by go_num, hide (N3.out.up HK.out.size HS.out), hide (HK.out.trans (N3.out.below HK.out.size HS.out)), fun h => by omega, fun _ => H3⟩
        case measure => simp [intOf]
    · obtain rfl : j = 10 := by omega
      obtain ⟨vt, h9⟩ := (HB rfl).out
      have H9 := hide h9
      clear h9 HA HB
      go_wp2_with fail
      refine (state_any H9.out).mono ?_
      rintro e w3 ⟨rfl, k3⟩
      have H3 := hide (H9.out.below k3)
      have K3 := hide (HK.out.trans (k3.mono HK.out.size))
      clear k3
      go_wp2_with fail
      refine (rtake_any H3.out [(1, [])] 1 0 rfl rfl rfl (by decide) (by decide) k_ents).mono ?_
      rintro e w4 ⟨v, rfl, r4, _, n4⟩
      have K4 := hide (K3.out.trans (n4.below K3.out.size HS.out))
      clear n4
      rcases r4.form with ⟨h0, _⟩ | ⟨g, c, rfl, _, _, hf⟩
      · cases h0
      obtain ⟨A, n, cc, _, c1, _, hn⟩ := hf 0 (by decide)
      have hn0 : n = 0 := hn.symm
      subst hn0
      have c1 : w4.cell? ⟨g, 1, none⟩ = some (.slice A 0 cc) := c1
      clear hf hn r4
      go_wp2_with fail
      go_ret
      exact ⟨rfl, K4.out⟩
end Go.Proofs.YtejhoefmcldpnaaGreat
