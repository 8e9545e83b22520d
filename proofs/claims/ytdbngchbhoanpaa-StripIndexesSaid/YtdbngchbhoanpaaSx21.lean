/- The contract of the reader's places: place after place, as many as the first number tells, or as there are bytes for. Condition: at most 1000000000 bytes. The contract of the law's places: two lists of the same places are the same. Condition: fewer than 2 to the 40 places. Reading an index back, by lists. It names nothing of the program but its places' row. The contract of strip.ReadIndex: the places whose index the bytes are, or an error. Condition: at most 1000000000 bytes. -/
import Derived.Test.YtdbngchbhoanpaaSx19
import Derived.Deep.AppendLies
import Derived.Test.YtdbngchbhoanpaaSx12
import Derived.Test.YtdbngchbhoanpaaSx11
namespace Go.Proofs.Ytdbngchbhoanpaa
open Go.RowKit Go.Maps
attribute [local go_sem] Oper.semAt_some
/-- As many places as there are, at most so many; the fuel is a bound of rounds. -/
def plsR : Nat → Nat → List Nat → List Plc
  | 0, _, _ => []
  | f + 1, n, r => if n = 0 ∨ r = [] then [] else (plcR r).1 :: plsR f (n - 1) (plcR r).2
theorem rvl_grow : ∀ (xs : List Nat) (k v : Nat), (rvl k v xs).2.2 = 0 → k < (rvl k v xs).2.1
  | [], k, v, h => by rw [rvl_nil] at h; cases h
  | c :: cs, k, v, h => by
    rw [rvl] at h ⊢
    split at h
    · cases h
    · next h1 =>
      rw [if_neg h1]
      split at h
      · next h2 =>
        rw [if_pos h2]
        have := rvl_grow cs _ _ h
        omega
      · next h2 =>
        rw [if_neg h2]
        split at h
        · cases h
        · next h3 =>
          rw [if_neg h3]
          exact Nat.lt_succ_self k
theorem plcR_shorter (r : List Nat) (h : r ≠ []) : (plcR r).2.length < r.length := by
  have h1 : 0 < numR r := by
    unfold numR
    split
    · next he =>
      rcases Nat.eq_zero_or_pos (rvl 0 0 r).2.1 with h0 | h0
      · have := rvl_grow r 0 0 he
        omega
      · exact h0
    · exact List.length_pos_iff.2 h
  have h2 : 0 < r.length := List.length_pos_iff.2 h
  unfold plcR
  simp only [List.length_drop]
  omega
theorem plsR_fuel : ∀ (f g n : Nat) (r : List Nat), r.length < f → r.length < g → plsR f n r = plsR g n r
  | 0, _, _, _, h, _ => by omega
  | _ + 1, 0, _, _, _, h => by omega
  | f + 1, g + 1, n, r, h1, h2 => by
    unfold plsR
    by_cases h : n = 0 ∨ r = []
    · rw [if_pos h, if_pos h]
    · rw [if_neg h, if_neg h]
      have h3 : r ≠ [] := fun e => h (.inr e)
      have h4 := plcR_shorter r h3
      rw [plsR_fuel f g (n - 1) (plcR r).2 (by omega) (by omega)]
/-- All of them. -/
def plsA (n : Nat) (r : List Nat) : List Plc := plsR (r.length + 1) n r
theorem plsA_stop {n : Nat} {r : List Nat} (h : n = 0 ∨ r = []) : plsA n r = [] := by
  unfold plsA plsR
  rw [if_pos h]
theorem plsA_step {n : Nat} {r : List Nat} (h1 : 0 < n) (h2 : r ≠ []) : plsA n r = (plcR r).1 :: plsA (n - 1) (plcR r).2 := by
  have h4 := plcR_shorter r h2
  have e : plsA n r = (plcR r).1 :: plsR r.length (n - 1) (plcR r).2 := by
    unfold plsA
    rw [plsR, if_neg (by
      intro h
      rcases h with h | h
      · omega
      · exact h2 h)]
  rw [e]
  unfold plsA
  rw [plsR_fuel r.length ((plcR r).2.length + 1) _ _ h4 (by omega)]
theorem plsA_len : ∀ (k n : Nat) (r : List Nat), r.length ≤ k → (plsA n r).length ≤ k
  | 0, n, r, h => by
    rw [plsA_stop (.inr (List.length_eq_zero_iff.1 (by omega)))]
    exact Nat.zero_le _
  | k + 1, n, r, h => by
    by_cases h1 : n = 0 ∨ r = []
    · rw [plsA_stop h1]
      exact Nat.zero_le _
    · have h2 : r ≠ [] := fun e => h1 (.inr e)
      rw [plsA_step (by omega) h2, List.length_cons]
      have h4 := plcR_shorter r h2
      have := plsA_len k (n - 1) (plcR r).2 (by omega)
      omega
/-- The cells of a place. -/
def plC (p : Plc) : List Value := [.int .u64 (p.key : Int), .int .i64 p.at_, .int .i64 p.n, .int .u32 (p.cook : Int), .bool p.dead]
/-- A row of places of the call's own. -/
def OwnPs (w : World) (B : Nat) (v : Value) (l : List Plc) : Prop := w.ownsRow B 36 5 v l.length (l.flatMap plC)
theorem ownPs_nil (w : World) (B : Nat) : OwnPs w B (.slice none 0 0) [] := World.ownsRow_nil _ _ _ _
theorem Try.info_plc : (Try.prog.info? 36).map (fun i => (i.zero, i.size, i.bytes)) = some (some (.agg #[.int .u64 0, .int .i64 0, .int .i64 0, .int .u32 0, .bool false]), 5, 32) := by kernel_rfl
theorem plC_new (W : World) (z : Nat) (hz : z = W.heap.size) (p : Plc) (j : Nat) (u : Value) (h : (plC p)[j]? = some u) : (W.alloc (.cells #[.int .u64 (p.key : Int), .int .i64 p.at_, .int .i64 p.n, .int .u32 (p.cook : Int), .bool p.dead] 36)).cell? ((⟨z, 0, none⟩ : Addr).add j) = some u := by
  subst hz
  have b := Blk.new W (B := 0) 36 #[.int .u64 (p.key : Int), .int .i64 p.at_, .int .i64 p.n, .int .u32 (p.cook : Int), .bool p.dead] (Nat.zero_le _)
  unfold plC at h
  have hj : j < 5 := by
    rcases Nat.lt_or_ge j 5 with h9 | h9
    · exact h9
    · rw [List.getElem?_eq_none (by simpa using h9)] at h
      cases h
  match j, hj with
  | 0, _ => exact (b.cell 0).trans h
  | 1, _ => exact (b.cell 1).trans h
  | 2, _ => exact (b.cell 2).trans h
  | 3, _ => exact (b.cell 3).trans h
  | 4, _ => exact (b.cell 4).trans h
theorem plC_one (p : Plc) : ∀ u ∈ plC p, u.oneCell' = true := by
  intro u hu
  simp only [plC, List.mem_cons, List.not_mem_nil, or_false] at hu
  rcases hu with rfl | rfl | rfl | rfl | rfl <;> rfl
theorem flat_len : ∀ l : List Plc, (l.flatMap plC).length = l.length * 5
  | [] => rfl
  | p :: l => by
    rw [List.flatMap_cons, List.length_append, flat_len l, List.length_cons]
    have : (plC p).length = 5 := rfl
    omega
theorem flat_at : ∀ (l : List Plc) (i j : Nat) (_ : i < l.length) (_ : j < 5), (l.flatMap plC)[i * 5 + j]? = (plC (l.getD i noPlc))[j]?
  | [], _, _, h, _ => by simp at h
  | p :: l, 0, j, _, hj => by
    rw [List.flatMap_cons, Nat.zero_mul, Nat.zero_add, List.getElem?_append_left (by exact hj)]
    rfl
  | p :: l, i + 1, j, h, hj => by
    have h5 : (plC p).length = 5 := rfl
    rw [List.flatMap_cons, List.getElem?_append_right (by omega), h5]
    have : (i + 1) * 5 + j - 5 = i * 5 + j := by omega
    rw [this, flat_at l i j (by simpa using h) hj]
    rfl
/-- It reads as them. -/
theorem OwnPs.isP {w : World} {B : Nat} {l : List Plc} {A : Option Addr} {c : Nat} (h : OwnPs w B (.slice A l.length c) l) : IsP w A l := by
  intro i hi
  have h0 := h
  obtain ⟨h1, h2 | ⟨g, cap, cur, e, h3, h4, h5⟩⟩ := h
  · have := h2.2
    omega
  · cases e
    refine ⟨g, 0, rfl, ?_⟩
    have hc : ∀ j, j < 5 → w.cell? ⟨g, 0 + i * 5 + j, none⟩ = (plC (l.getD i noPlc))[j]? := by
      intro j hj
      have hx : (l.flatMap plC)[i * 5 + j]? = (plC (l.getD i noPlc))[j]? := flat_at l i j hi hj
      have hlt : i * 5 + j < (l.flatMap plC).length := by rw [flat_len]; omega
      have hu := World.ownsRow.cells (g := g) h0 rfl (i * 5 + j) _ (List.getElem?_eq_getElem hlt)
      rw [add_off, Nat.zero_add] at hu
      rw [Nat.zero_add, ← hx, List.getElem?_eq_getElem hlt]
      exact hu
    exact ⟨hc 0 (by omega), hc 1 (by omega), hc 2 (by omega), hc 3 (by omega), hc 4 (by omega)⟩
theorem ownPs_turn {S : Nat → Prop} {w w' : World} {B : Nat} {v : Value} {l : List Plc} (h : OwnPs w B v l) (t : Turn S w w') (hn : ∀ g, B ≤ g → ¬ S g) : OwnPs w' B v l := by
  obtain ⟨h1, h2 | ⟨g, cap, cur, rfl, h3, h4, h5⟩⟩ := h
  · exact ⟨h1, .inl h2⟩
  · exact ⟨h1, .inr ⟨g, cap, cur, rfl, h3, t.at_ h4 (hn g h3), h5⟩⟩
theorem ownPs_form {w : World} {B : Nat} {v : Value} {l : List Plc} (h : OwnPs w B v l) : ∃ A c, v = .slice A l.length c ∧ (∀ b, v.ownBlock = some b → B ≤ b) := by
  obtain ⟨_, h2 | ⟨g, cap, cur, rfl, h3, _⟩⟩ := h
  · obtain ⟨e, e2⟩ := h2
    rw [e]
    exact ⟨none, 0, by rw [e2], fun b hb => by cases hb⟩
  · exact ⟨_, _, rfl, fun b hb => by cases hb; exact h3⟩
/-- What lies below stands, whatever is turned above. -/
theorem RdAt.far {S : Nat → Prop} {w w' : World} {B g : Nat} {rest : List Nat} (h : RdAt w B g rest) (t : Turn S w w') (hg : g < B) (hS : ∀ j, j < B → ¬ S j) : RdAt w' B g rest := by
  obtain ⟨A, n, c, h1, h2, h3, h4⟩ := h.out
  refine ⟨⟨A, n, c, h1.turn t (hS g hg), ?_, h3, h4⟩⟩
  obtain ⟨A', c', q, rd, z⟩ := h2
  refine ⟨A', c', q, fun hne => ?_, z⟩
  obtain ⟨b, off, e1, hc⟩ := rd hne
  refine ⟨b, off, e1, fun j hj => t.cell (hc j hj) (hS _ ?_)⟩
  cases q
  rcases h4 with h4 | ⟨b2, o2, e2, hb⟩
  · rw [h4] at e1; cases e1
  · rw [e2] at e1; cases e1; exact hb
def lenOf : Value → Nat
  | .slice _ n _ => n
  | _ => 0
theorem RdAt.left {w : World} {B g : Nat} {rest : List Nat} (h : RdAt w B g rest) : ∃ A c, w.cell? ⟨g, 0, none⟩ = some (.slice A rest.length c) ∧ rest.length ≤ 9223372036854775807 := by
  obtain ⟨A, n, c, h1, h2, h3, _⟩ := h.out
  have hl := isB_len h2
  subst h3
  exact ⟨A, c, h1.cell 0, by omega⟩
set_option maxRecDepth 100000 in
set_option maxHeartbeats 6400000 in
theorem places_anyR (B g : Nat) (rest : List Nat) (w : World) (h : RdAt w B g rest) (hg : g < B) (hB : B ≤ w.heap.size) (hb : ∀ x ∈ rest, x < 256) (h9 : rest.length ≤ 1000000000) :
    Calls Try.prog 23 #[.pointer (some ⟨g, 0, none⟩)] w fun e w' => ∃ v, e = .returned v ∧ OwnPs w' w.heap.size v (plsA (rvl 0 0 rest).1 (rest.drop (numR rest))) ∧ Turn (fun j => j = g) w w' := by
  have NA := hide (number_anyR B g rest w h hb h9 (by have := (rvl_le rest 0 0 (by omega) (by decide)).2.1; omega))
  obtain ⟨r1, e1⟩ : ∃ r, r = rest.drop (numR rest) := ⟨_, rfl⟩
  have hb1 : ∀ x ∈ r1, x < 256 := by rw [e1]; exact fun x hx => hb x (List.mem_of_mem_drop hx)
  have l1 : r1.length ≤ 1000000000 := by rw [e1, List.length_drop]; omega
  have hn64 : (rvl 0 0 rest).1 < 18446744073709551616 := (rvl_le rest 0 0 (by omega) (by decide)).1
  obtain ⟨n, e2⟩ : ∃ n, n = (rvl 0 0 rest).1 := ⟨_, rfl⟩
  rw [← e1, ← e2] at NA ⊢
  rw [← e2] at hn64
  have HB := hide hb1
  have HL := hide l1
  clear e1 e2 h hb h9 hb1 l1
  go_enter Try.func23, Try.ntmps23
  go_wp2_with fail
  refine NA.out.mono ?_
  rintro e w1 ⟨rfl, h1, t1⟩
  have H1 := hide h1
  have T1 := hide t1
  clear h1 t1 NA
  dsimp only
  go_wp2_with fail
  go_loopw [3] (fun l wr => ∃ (ps : List Plc) (r : List Nat) (A : Option Addr) (c N : Nat), l = .slice A N c ∧ N = ps.length ∧ Hid (OwnPs wr w.heap.size (.slice A N c) ps) ∧ Hid (RdAt wr B g r) ∧ Hid (ps ++ plsA (n - N) r = plsA n r1) ∧ Hid (∀ x ∈ r, x < 256) ∧ N + r.length ≤ 1000000000 ∧ Hid (Turn (fun j => j = g) w wr)) (fun l _ => 2000000000 - lenOf l)
  case atStart => exact ⟨[], r1, none, 0, 0, rfl, rfl, ownPs_nil _ _, H1.out, by simp [Hid], HB.out, by have := HL.out; omega, T1.out⟩
  case round =>
    obtain ⟨ps, r, A, c, N, rfl, hN, hO, hR, hP, hb, hlen, hT⟩ := hrel
    obtain ⟨A2, c2, q0, hl2⟩ := hR.out.left
    have hNw : IntKind.u64.wrap (N : Int) = (N : Int) := by rw [IntKind.wrap_u64]; omega
    obtain ⟨m, hm⟩ : ∃ m, m = r.length := ⟨_, rfl⟩
    rw [← hm] at q0
    by_cases hgo : N < n ∧ r ≠ []
    · obtain ⟨hgo1, hgo2⟩ := hgo
      have hi1 : (N : Int) < (n : Int) := by omega
      have hm0 : 0 < m := by rw [hm]; exact List.length_pos_iff.2 hgo2
      have hm1 : (0 : Int) < (m : Int) := by omega
      have HM := hide hm
      have PC := hide (place_anyR B g r wr hR.out hb.out (by omega))
      have PS := hide (plsA_step (n := n - N) (r := r) (by omega) hgo2)
      have SH := hide (plcR_shorter r hgo2)
      have HB2 : Hid (∀ x ∈ (plcR r).2, x < 256) := hide (fun x hx => hb.out x (by
        unfold plcR at hx
        exact List.mem_of_mem_drop (List.mem_of_mem_drop (List.mem_of_mem_drop (List.mem_of_mem_drop (List.mem_of_mem_drop hx))))))
      obtain ⟨p, hp⟩ : ∃ p, p = (plcR r).1 := ⟨_, rfl⟩
      obtain ⟨r', hr'⟩ : ∃ r', r' = (plcR r).2 := ⟨_, rfl⟩
      rw [← hp, ← hr'] at PC PS
      rw [← hr'] at SH HB2
      unfold plcV at PC
      have HLN := hide hlen
      have HN := hide hN
      have HNN := hide hgo1
      clear hp hr' hgo1 hgo2 hm hlen hN
      go_wp2_with fail
      refine PC.out.mono ?_
      rintro e w2 ⟨rfl, h2, t2⟩
      have O2 := hide (ownPs_turn hO.out t2 (fun j hj e => by subst e; omega))
      have H2 := hide h2
      have T2 := hide (hT.out.trans t2)
      have SZ2 := hide (Nat.le_trans hT.out.size t2.size)
      clear h2 t2 PC
      dsimp only
      obtain ⟨x, hx⟩ : ∃ x, x = w2.heap.size := ⟨_, rfl⟩
      have k3 := below_alloc w2 (.cells #[.int .u64 (p.key : Int), .int .i64 p.at_, .int .i64 p.n, .int .u32 (p.cook : Int), .bool p.dead] 36)
      have O3 := hide (ownPs_turn O2.out (Turn.of_below (fun _ => False) k3) (fun _ _ e => e))
      have H3 := hide (H2.out.keep k3)
      have T3 := hide (T2.out.trans (Turn.of_below _ k3))
      have NW := hide (plC_new w2 x hx p)
      have SZ3 := hide (Nat.le_trans SZ2.out k3.size)
      clear O2 H2 T2 k3
      go_wp2_with (at_builtin; refine halt ?_)
      refine ⟨?_⟩
      rw [← hx]
      generalize w2.alloc (.cells #[.int .u64 (p.key : Int), .int .i64 p.at_, .int .i64 p.n, .int .u32 (p.cook : Int), .bool p.dead] 36) = W3 at *
      obtain ⟨i0, hi0⟩ : ∃ i, Try.prog.info? 36 = some i := by
        have := Try.info_plc
        cases h : Try.prog.info? 36 with
        | none => rw [h] at this; cases this
        | some i => exact ⟨i, rfl⟩
      have hinfo := Try.info_plc
      rw [hi0] at hinfo
      simp only [Option.map_some, Option.some.injEq, Prod.mk.injEq] at hinfo
      obtain ⟨hz0, hz1, hz2⟩ := hinfo
      refine wpList_append_lies _ rfl (.tmp 20) (.tmp 23) 22 rfl w.heap.size 36 i0 _ 5 32 Try.underlying22 hi0 hz0 hz1 hz2 rfl (by decide) (.slice A N c) N (ps.flatMap plC) rfl (by have := O3.out; unfold OwnPs at this; rw [← HN.out] at this; exact this) ⟨x, 0, none⟩ 1 1 (plC p) rfl rfl NW.out (plC_one p) (by decide) (by have := HLN.out; unfold maxLen; omega) (by have := HLN.out; omega) SZ3.out _ rfl ?_
      intro g' cap w' hown hgrow hor hlt
      have hform := (ownPs_form O3.out)
      have hob : ∀ b, (Value.slice A N c).ownBlock = some b → w.heap.size ≤ b := by
        obtain ⟨A', c', e, hb⟩ := hform
        exact hb
      have tg : Turn (fun k => (Value.slice A N c).ownBlock = some k) W3 w' := (Turn.of_grown hgrow).mono (fun k e => e.symm)
      have H4 := hide (H3.out.far tg hg (fun j hj e => by have := hob j e; omega))
      have T4 := hide (T3.out.then tg (fun j e => .inr (hob j e)))
      have O4 : Hid (OwnPs w' w.heap.size (.slice (some ⟨g', 0, none⟩) (N + 1) cap) (ps ++ [p])) := by
        unfold Hid OwnPs
        rw [List.length_append, List.length_singleton, ← HN.out, List.flatMap_append]
        simpa using hown
      have P4 : Hid ((ps ++ [p]) ++ plsA (n - (N + 1)) r' = plsA n r1) := by
        unfold Hid
        rw [← hP.out, PS.out, List.append_assoc]
        rfl
      have L4 : Hid (N + 1 + r'.length ≤ 1000000000) := by
        unfold Hid
        have := SH.out
        have := HLN.out
        omega
      clear hown hgrow hor hlt tg hob hform
      go_wp2_with fail
      go_roundw
      case rel =>
        exact ⟨ps ++ [p], r', _, _, N + 1, rfl, by rw [List.length_append, List.length_singleton, ← HN.out], O4, H4, P4, HB2, L4.out, T4⟩
      case measure =>
        have := L4.out
        simp [lenOf]
        omega
    · have HNO : Hid (plsA (n - N) r = []) := hide (plsA_stop (by
        by_cases h1 : N < n
        · refine .inr (Classical.byContradiction fun h2 => hgo ⟨h1, h2⟩)
        · exact .inl (by omega)))
      have hend : (¬ N < n) ∨ (N < n ∧ m = 0) := by
        by_cases h1 : N < n
        · refine .inr ⟨h1, ?_⟩
          rw [hm]
          exact List.length_eq_zero_iff.2 (Classical.byContradiction fun h2 => hgo ⟨h1, h2⟩)
        · exact .inl h1
      have HN := hide hN
      clear hgo hm hN
      rcases hend with h1 | ⟨h1, h2⟩
      · have hi1 : ¬ (N : Int) < (n : Int) := by omega
        clear h1
        go_wp2_with fail
        go_ret
        have hpp := hP.out
        rw [HNO.out, List.append_nil] at hpp
        rw [← hpp]
        exact ⟨.slice A N c, rfl, hO.out, hT.out⟩
      · have hi1 : (N : Int) < (n : Int) := by omega
        subst h2
        clear h1
        go_wp2_with fail
        go_ret
        have hpp := hP.out
        rw [HNO.out, List.append_nil] at hpp
        rw [← hpp]
        exact ⟨.slice A N c, rfl, hO.out, hT.out⟩
end Go.Proofs.Ytdbngchbhoanpaa
namespace Go.Proofs.Ytdbngchbhoanpaa
open Go.RowKit Go.Maps
attribute [local go_sem] Oper.semAt_some
set_option maxRecDepth 100000 in
set_option maxHeartbeats 3200000 in
theorem places_same (A B : Option Addr) (n ca cb : Nat) (ps : List Plc) (w : World) (hA : IsP w A ps) (hB : IsP w B ps) (hn : ps.length = n) (hm : n ≤ 1000000000000) :
    Calls Try.prog 12 #[.slice A n ca, .slice B n cb] w fun e w' => e = .returned (.bool true) ∧ Below w.heap.size w w' := by
  have HA := hide hA
  have HB := hide hB
  have HN := hide hn
  clear hA hB hn
  go_enter Try.func12, Try.ntmps12
  go_wp2_with fail
  go_loopw [5] (fun i wr => ∃ j : Nat, j ≤ n ∧ i = .int .i64 (j : Int) ∧ Hid (Below w.heap.size w wr)) (fun i _ => n - (intOf i).toNat)
  case atStart => exact ⟨0, Nat.zero_le _, rfl, Below.refl _ _⟩
  case round =>
    obtain ⟨j, hj, rfl, hK⟩ := hrel
    by_cases hlt : j < n
    · have hji : (j : Int) < (n : Int) := by omega
      obtain ⟨b, o, rfl, f0, f1, f2, f3, f4⟩ := (HA.out.keep hK.out) j (by rw [HN.out]; exact hlt)
      obtain ⟨b2, o2, rfl, g0, g1, g2, g3, g4⟩ := (HB.out.keep hK.out) j (by rw [HN.out]; exact hlt)
      obtain ⟨P, hPP⟩ : ∃ P, ps.getD j noPlc = P := ⟨_, rfl⟩
      rw [hPP] at f0 f1 f2 f3 f4 g0 g1 g2 g3 g4
      clear hPP
      go_wp2_with fail
      go_region
      go_wp2_with fail
      go_roundw
      case rel => exact ⟨j + 1, by omega, by go_num, hide (below_drewN hK.out 1)⟩
      case measure => simp [intOf]; omega
    · obtain rfl : j = n := by omega
      go_wp2_with fail
      go_ret
      exact ⟨rfl, hK.out⟩
end Go.Proofs.Ytdbngchbhoanpaa
namespace Go.Proofs.Ytdbngchbhoanpaa
open Go.RowKit
theorem bodyL_flat (ps : List Plc) : ∀ i, i ≤ ps.length → bodyL ps i = uvl ps.length ++ (ps.take i).flatMap plcL
  | 0, _ => by simp [bodyL]
  | i + 1, h => by
    rw [bodyL, bodyL_flat ps i (by omega), List.take_succ_eq_append_getElem (by omega), List.flatMap_append, List.append_assoc]
    congr 2
    rw [List.getD_eq_getElem?_getD, List.getElem?_eq_getElem (by omega)]
    simp
theorem bodyL_all (ps : List Plc) : bodyL ps ps.length = uvl ps.length ++ ps.flatMap plcL := by
  rw [bodyL_flat ps _ (Nat.le_refl _), List.take_length]
theorem rvl_at (v : Nat) (more : List Nat) (h : v < 18446744073709551616) : rvl 0 0 (uvl v ++ more) = (v, (uvl v).length, 0) := by
  have := rvl_uvl more v 0 0 (by omega) (by simpa using h) (.inl rfl)
  simpa using this
theorem numR_at (v : Nat) (more : List Nat) (h : v < 18446744073709551616) : numR (uvl v ++ more) = (uvl v).length ∧ (uvl v ++ more).drop (numR (uvl v ++ more)) = more := by
  have e : numR (uvl v ++ more) = (uvl v).length := by
    unfold numR
    rw [rvl_at v more h]
    rfl
  exact ⟨e, by rw [e]; exact List.drop_left⟩
theorem bnd_nat {z : Int} (h : bndB z = true) : 0 ≤ z ∧ z ≤ 4194304 := by
  unfold bndB at h
  simp only [Bool.and_eq_true, decide_eq_true_eq] at h
  exact h
theorem plcR_back (p : Plc) (more : List Nat) (h : p.Fit) (h1 : bndB p.at_ = true) (h2 : bndB p.n = true) : plcR (plcL p ++ more) = (p, more) := by
  obtain ⟨a1, a2⟩ := bnd_nat h1
  obtain ⟨b1, b2⟩ := bnd_nat h2
  obtain ⟨key, at_, n, cook, dead⟩ := p
  simp only at a1 a2 b1 b2
  have hk : key < 18446744073709551616 := h.key
  have hc : cook < 4294967296 := h.cook
  have e : plcL ⟨key, at_, n, cook, dead⟩ ++ more = uvl key ++ (uvl at_.toNat ++ (uvl n.toNat ++ (be32 cook ++ ((if dead then 1 else 0) :: more)))) := by
    unfold plcL
    simp only [List.append_assoc]
    rfl
  have e1 := numR_at key (uvl at_.toNat ++ (uvl n.toNat ++ (be32 cook ++ ((if dead then 1 else 0) :: more)))) hk
  have e2 := numR_at at_.toNat (uvl n.toNat ++ (be32 cook ++ ((if dead then 1 else 0) :: more))) (by omega)
  have e3 := numR_at n.toNat (be32 cook ++ ((if dead then 1 else 0) :: more)) (by omega)
  unfold plcR
  rw [e]
  simp only [e1.2, e2.2, e3.2, rvl_at _ _ hk, rvl_at at_.toNat _ (show at_.toNat < 18446744073709551616 by omega), rvl_at n.toNat _ (show n.toNat < 18446744073709551616 by omega)]
  have t4 : (be32 cook ++ ((if dead then 1 else 0) :: more)).take 4 = be32 cook := List.take_left (l₁ := be32 cook)
  have d4 : (be32 cook ++ ((if dead then 1 else 0) :: more)).drop 4 = (if dead then 1 else 0) :: more := List.drop_left (l₁ := be32 cook)
  rw [t4, d4]
  have l4 : 4 ≤ (be32 cook).length := by rw [be32_len]; omega
  rw [if_pos l4]
  have hv := val32_be cook hc []
  rw [List.append_nil] at hv
  rw [hv]
  have w1 : IntKind.i64.wrap ((at_.toNat : Nat) : Int) = at_ := by rw [IntKind.wrap_i64]; omega
  have w2 : IntKind.i64.wrap ((n.toNat : Nat) : Int) = n := by rw [IntKind.wrap_i64]; omega
  rw [w1, w2]
  cases dead <;> rfl
/-- An index's bytes. -/
structure IxOf (b : List Nat) (ps : List Plc) : Prop where
  fit : ∀ p ∈ ps, p.Fit
  ix : IsIx ps
  len : ps.length ≤ 65536
  short : (bodyL ps ps.length).length ≤ 1048576
  bytes : frameL (bodyL ps ps.length) = b
theorem IxOf.bnd {b : List Nat} {ps : List Plc} (h : IxOf b ps) : ∀ p ∈ ps, bndB p.at_ = true ∧ bndB p.n = true := by
  intro p hp
  obtain ⟨i, hi, rfl⟩ := List.mem_iff_getElem.1 hp
  have := h.ix i hi
  unfold okAt at this
  obtain ⟨_, h2, h3⟩ := this
  rw [List.getD_eq_getElem?_getD, List.getElem?_eq_getElem hi] at h2 h3
  exact ⟨h2, h3⟩
theorem plsA_back : ∀ (ps : List Plc) (more : List Nat) (_ : ∀ p ∈ ps, p.Fit) (_ : ∀ p ∈ ps, bndB p.at_ = true ∧ bndB p.n = true), plsA ps.length (ps.flatMap plcL ++ more) = ps
  | [], more, _, _ => plsA_stop (.inl rfl)
  | p :: ps, more, h1, h2 => by
    have hb := h2 p List.mem_cons_self
    have e : (p :: ps).flatMap plcL ++ more = plcL p ++ (ps.flatMap plcL ++ more) := by
      rw [List.flatMap_cons, List.append_assoc]
    have hne : plcL p ++ (ps.flatMap plcL ++ more) ≠ [] := by
      unfold plcL
      simp
    rw [e, plsA_step (by simp) hne, plcR_back p _ (h1 p List.mem_cons_self) hb.1 hb.2]
    simp only [List.length_cons, Nat.add_sub_cancel]
    rw [plsA_back ps more (fun q hq => h1 q (List.mem_cons_of_mem _ hq)) (fun q hq => h2 q (List.mem_cons_of_mem _ hq))]
/-- What the lenient reader reads of a payload. -/
def lenL (p : List Nat) : List Plc := plsA (rvl 0 0 p).1 (p.drop (numR p))
theorem lenL_back {b : List Nat} {ps : List Plc} (h : IxOf b ps) : lenL (bodyL ps ps.length) = ps := by
  unfold lenL
  rw [bodyL_all]
  have hl := h.len
  rw [rvl_at ps.length _ (by omega), (numR_at ps.length _ (by omega)).2]
  have := plsA_back ps [] h.fit h.bnd
  rw [List.append_nil] at this
  exact this
theorem dec_ix {b : List Nat} {ps : List Plc} (h : IxOf b ps) : decL b = (bodyL ps ps.length, b.length, 0) := by
  have := dec_back (bodyL ps ps.length) [] h.short
  rw [List.append_nil, h.bytes] at this
  rw [this, ← h.bytes, frame_len]
theorem ixOf_once {b : List Nat} {ps qs : List Plc} (h : IxOf b ps) (k : IxOf b qs) : ps = qs := by
  have e := dec_ix h
  rw [dec_ix k] at e
  have e2 : bodyL qs qs.length = bodyL ps ps.length := congrArg Prod.fst e
  rw [← lenL_back h, ← lenL_back k, e2]
theorem plcR_fit {r : List Nat} (hb : ∀ x ∈ r, x < 256) : (plcR r).1.Fit := by
  unfold plcR
  refine ⟨(rvl_le r 0 0 (by omega) (by decide)).1, ?_, ?_, ?_⟩
  · simp only
    rw [IntKind.wrap_i64]
    omega
  · simp only
    rw [IntKind.wrap_i64]
    omega
  · simp only
    split
    · exact val32_lt (fun x hx => hb x (List.mem_of_mem_drop (List.mem_of_mem_drop (List.mem_of_mem_drop (List.mem_of_mem_take hx)))))
    · omega
theorem plsR_fit : ∀ (f n : Nat) (r : List Nat) (_ : ∀ x ∈ r, x < 256), ∀ p ∈ plsR f n r, p.Fit
  | 0, _, _, _ => by simp [plsR]
  | f + 1, n, r, hb => by
    unfold plsR
    split
    · simp
    · intro p hp
      rcases List.mem_cons.1 hp with rfl | hp
      · exact plcR_fit hb
      · refine plsR_fit f (n - 1) _ (fun x hx => hb x ?_) p hp
        unfold plcR at hx
        exact List.mem_of_mem_drop (List.mem_of_mem_drop (List.mem_of_mem_drop (List.mem_of_mem_drop (List.mem_of_mem_drop hx))))
theorem lenL_fit {p : List Nat} (hb : ∀ x ∈ p, x < 256) : ∀ q ∈ lenL p, q.Fit := plsR_fit _ _ _ (fun x hx => hb x (List.mem_of_mem_drop hx))
/-- What ReadIndex answers. -/
def RdIx (b : List Nat) (ps : List Plc) (E : Nat) : Prop :=
  (E = (decL b).2.2 ∧ E ≠ 0 ∧ ps = []) ∨ ((decL b).2.2 = 0 ∧ IxOf b ps ∧ E = 0) ∨ ((decL b).2.2 = 0 ∧ (∀ qs, ¬ IxOf b qs) ∧ ps = [] ∧ E = 3)
theorem rdIx_once {b : List Nat} {ps qs : List Plc} {E F : Nat} (h : RdIx b ps E) (k : RdIx b qs F) : ps = qs ∧ E = F := by
  rcases h with ⟨h1, h2, h3⟩ | ⟨h1, h2, h3⟩ | ⟨h1, h2, h3, h4⟩ <;> rcases k with ⟨k1, k2, k3⟩ | ⟨k1, k2, k3⟩ | ⟨k1, k2, k3, k4⟩
  · exact ⟨by rw [h3, k3], by rw [h1, k1]⟩
  · rw [k1] at h1; exact absurd h1 h2
  · rw [k1] at h1; exact absurd h1 h2
  · rw [h1] at k1; exact absurd k1 k2
  · exact ⟨ixOf_once h2 k2, by rw [h3, k3]⟩
  · exact absurd h2 (k2 ps)
  · rw [h1] at k1; exact absurd k1 k2
  · exact absurd k2 (h2 qs)
  · exact ⟨by rw [h3, k3], by rw [h4, k4]⟩
theorem ixOf_of {b : List Nat} {ps : List Plc} (hf : ∀ p ∈ ps, p.Fit) (h1 : ixE ps = 0) (h2 : ixL ps = b) : IxOf b ps := by
  have hI : IsIx ps := by
    apply Classical.byContradiction
    intro h
    rw [(ixE_bad h).1] at h1
    cases h1
  have hl : ¬ (65536 < ps.length ∨ 1048576 < (bodyL ps ps.length).length) := by
    intro h
    rw [(ixE_long hI h).1] at h1
    cases h1
  rw [(ixE_ok hI hl).2] at h2
  exact ⟨hf, hI, by omega, by omega, h2⟩
theorem ixOf_ix {b : List Nat} {ps : List Plc} (h : IxOf b ps) : ixE ps = 0 ∧ ixL ps = b := by
  have hl : ¬ (65536 < ps.length ∨ 1048576 < (bodyL ps ps.length).length) := by
    have := h.len
    have := h.short
    omega
  exact ⟨(ixE_ok h.ix hl).1, by rw [(ixE_ok h.ix hl).2, h.bytes]⟩
theorem ix_none {b : List Nat} (h : ¬ (ixE (lenL (decL b).1) = 0 ∧ ixL (lenL (decL b).1) = b)) : ∀ qs, ¬ IxOf b qs := by
  intro qs hq
  have e := dec_ix hq
  have e2 : (decL b).1 = bodyL qs qs.length := by rw [e]
  rw [e2, lenL_back hq] at h
  exact h (ixOf_ix hq)
end Go.Proofs.Ytdbngchbhoanpaa
namespace Go.Proofs.Ytdbngchbhoanpaa
open Go.RowKit Go.Maps
attribute [local go_sem] Oper.semAt_some
theorem own_rd {w : World} {B B0 : Nat} {s : Value} {xs : List Nat} (h : Own w B0 s xs) (hB : w.heap.size ≤ B) (g : Nat) (w' : World) (hg : g = w.heap.size) (hw : w' = w.alloc (.cells #[s] 56)) : RdAt w' B g xs := by
  subst hg
  subst hw
  have k := below_alloc w (.cells #[s] 56)
  obtain ⟨A, c, rfl, _⟩ := h.form
  have hi := (h.keep k).isB
  refine ⟨⟨A, xs.length, c, Blk.new w (B := 0) 56 #[.slice A xs.length c] (Nat.zero_le _), hi, rfl, ?_⟩⟩
  obtain ⟨_, h2 | ⟨g, cap, cur, e, h3, h4, h5⟩⟩ := h
  · have h9 := h2.1
    simp only [Value.slice.injEq] at h9
    exact .inl h9.1
  · cases e
    exact .inr ⟨g, 0, rfl, Nat.lt_of_lt_of_le (Array.getElem?_eq_some_iff.1 h4).1 hB⟩
theorem row_moreP {w : World} {B B' : Nat} {v : Value} {l : List Plc} (h : OwnPs w B v l) (hb : B' ≤ B) : OwnPs w B' v l := by
  obtain ⟨h1, h2 | ⟨g, cap, cur, rfl, h3, h4, h5⟩⟩ := h
  · exact ⟨h1, .inl h2⟩
  · exact ⟨h1, .inr ⟨g, cap, cur, rfl, by omega, h4, h5⟩⟩
set_option maxRecDepth 100000 in
set_option maxHeartbeats 6400000 in
theorem rdix_any (A : Option Addr) (n c : Nat) (b : List Nat) (w : World) (hA : IsB w (.slice A n c) b) (hn : b.length = n) (hb : ∀ x ∈ b, x < 256) (h9 : n ≤ 1000000000) :
    Calls Try.prog 9 #[.slice A n c] w fun e w' => ∃ v ps E, e = .returned (.tuple #[v, .int .i64 (E : Nat)]) ∧ OwnPs w' w.heap.size v ps ∧ RdIx b ps E ∧ Below w.heap.size w w' := by
  have hcap := hA.caps
  have DC := hide (decode_any A n c b w hA hn hb (by omega) hcap.1 hcap.2)
  obtain ⟨p, m, x, hd⟩ : ∃ p m x, decL b = (p, m, x) := ⟨_, _, _, rfl⟩
  rw [hd] at DC
  have hpb : (decL b).1.length ≤ b.length := decL_len b
  rw [hd] at hpb
  have hpl : p.length ≤ 1000000000 := by have : p.length ≤ b.length := hpb; omega
  have HD := hide hd
  have HA := hide hA
  have HN := hide hn
  have HB := hide hb
  have HPL := hide hpl
  clear hcap hd hpb hA hn hb hpl
  by_cases hx : x = 0
  · subst hx
    have hpby : ∀ y ∈ p, y < 256 := (dec_inv HB.out HD.out).2.2.2.2
    have HPB := hide hpby
    clear hpby
    go_enter Try.func9, Try.ntmps9
    go_wp2_with fail
    refine DC.out.mono ?_
    rintro e w1 ⟨s, rfl, o1, k1⟩
    obtain ⟨As, cs, rfl, _⟩ := o1.form
    have O1 := hide o1
    have K1 := hide k1
    clear o1 k1 DC
    obtain ⟨ls, hls⟩ : ∃ ls, ls = p.length := ⟨_, rfl⟩
    rw [← hls] at O1 ⊢
    clear hls
    dsimp only
    go_wp2_with fail
    obtain ⟨g, hg⟩ : ∃ g, g = w1.heap.size := ⟨_, rfl⟩
    have k2 := below_alloc w1 (.cells #[.slice As ls cs] 56)
    have K2 := hide (below_step K1.out k2)
    have SZ := hide (show (w1.alloc (.cells #[.slice As ls cs] 56)).heap.size = g + 1 by rw [hg]; simp)
    have R2 := hide (own_rd O1.out (B := g + 1) (by omega) g _ hg rfl)
    have HG := hide (show w.heap.size ≤ g by rw [hg]; exact K1.out.size)
    rw [← hg]
    clear k2 O1 K1 hg
    generalize w1.alloc (.cells #[.slice As ls cs] 56) = W2 at *
    refine (places_anyR (g + 1) g p W2 R2.out (by omega) (by have := SZ.out; omega) HPB.out HPL.out).mono ?_
    rintro e w3 ⟨v, rfl, o3, t3⟩
    have hps : plsA (rvl 0 0 p).1 (p.drop (numR p)) = lenL p := rfl
    rw [hps] at o3
    obtain ⟨ps, hpq⟩ : ∃ ps, ps = lenL p := ⟨_, rfl⟩
    rw [← hpq] at o3
    have HPS := hide hpq
    have HF := hide (show ∀ q ∈ ps, q.Fit by rw [hpq]; exact lenL_fit HPB.out)
    have HPN := hide (show ps.length ≤ 1000000000 by rw [hpq]; exact Nat.le_trans (plsA_len _ _ _ (Nat.le_refl _)) (by rw [List.length_drop]; have := HPL.out; omega))
    have K3 : Hid (Below w.heap.size w w3) := hide (K2.out.trans (by
      exact t3.below (by have := SZ.out; have := HG.out; omega) (fun k e => by subst e; exact HG.out)))
    obtain ⟨A3, c3, rfl, _⟩ := ownPs_form o3
    have O3 := hide o3
    have IP := hide o3.isP
    clear hps hpq o3 t3 R2 K2
    obtain ⟨N, hN⟩ : ∃ N, N = ps.length := ⟨_, rfl⟩
    rw [← hN] at O3
    rw [← hN]
    have HNN := hide hN
    clear hN
    dsimp only
    go_wp2_with fail
    refine (index_any A3 N c3 ps w3 IP.out HNN.out.symm HF.out (by rw [HNN.out]; have := HPN.out; omega)).mono ?_
    rintro e w4 ⟨s2, rfl, o4, k4⟩
    have O4 := hide o4
    have K4 := hide (below_step K3.out k4)
    have O5 := hide (ownPs_turn O3.out (Turn.of_below (fun _ => False) k4) (fun _ _ e => e))
    have B4 := hide ((HA.out.keep K3.out).keep k4)
    clear o4 k4 O3 K3
    dsimp only
    have hixl : ∀ y ∈ ixL ps, y < 256 := by
      intro y hy
      unfold ixL at hy
      split at hy
      · exact frameL_byte (bodyL_byte ps _) y hy
      · cases hy
    have HIX := hide hixl
    clear hixl
    have hbase : W2.heap.size = g + 1 := SZ.out
    have O6 : Hid (OwnPs w4 w.heap.size (.slice A3 N c3) ps) := hide (row_moreP O5.out (by have := HG.out; omega))
    clear O5 hbase
    by_cases hE : ixE ps = 0
    · have hEz : (((ixE ps : Nat) : Int) != 0) = false := by rw [hE]; rfl
      obtain ⟨A4, c4, rfl, _⟩ := O4.out.form
      obtain ⟨q, hq⟩ : ∃ q, q = (ixL ps).length := ⟨_, rfl⟩
      have hI4 := O4.out.isB
      rw [← hq] at hI4 ⊢
      have HI4 := hide hI4
      have HE := hide hE
      clear hI4 hq hE
      obtain ⟨E, hEe⟩ : ∃ E, E = ixE ps := ⟨_, rfl⟩
      rw [← hEe] at hEz ⊢
      clear hEe
      go_wp2_with fail
      refine (bytesEqual_any A4 A q n c4 c (ixL ps) b w4 HI4.out B4.out HIX.out HB.out).mono ?_
      rintro e w5 ⟨rfl, rfl⟩
      by_cases hL : ixL ps = b
      · have hdl : decide (ixL ps = b) = true := by simp [hL]
        have HLL := hide hL
        clear hL
        rw [hdl]
        clear hdl
        dsimp only
        go_wp2_with fail
        go_ret2
        exact ⟨.slice A3 N c3, ps, 0, rfl, O6.out, .inr (.inl ⟨by rw [HD.out], ixOf_of HF.out HE.out HLL.out, rfl⟩), K4.out⟩
      · have hdl : decide (ixL ps = b) = false := by simp [hL]
        have HLL := hide hL
        clear hL
        rw [hdl]
        clear hdl
        dsimp only
        go_wp2_with fail
        go_ret2
        exact ⟨.slice none 0 0, [], 3, rfl, ownPs_nil _ _, .inr (.inr ⟨by rw [HD.out], ix_none (by rw [HD.out]; intro h; rw [← HPS.out] at h; exact HLL.out h.2), rfl, rfl⟩), K4.out⟩
    · have hEz : (((ixE ps : Nat) : Int) != 0) = true := by simp; omega
      have HE := hide hE
      clear hE
      obtain ⟨E, hEe⟩ : ∃ E, E = ixE ps := ⟨_, rfl⟩
      rw [← hEe] at hEz ⊢
      clear hEe
      go_wp2_with fail
      go_ret2
      exact ⟨.slice none 0 0, [], 3, rfl, ownPs_nil _ _, .inr (.inr ⟨by rw [HD.out], ix_none (by rw [HD.out]; intro h; rw [← HPS.out] at h; exact HE.out h.1), rfl, rfl⟩), K4.out⟩
  · have hxz : ((x : Int) != 0) = true := by simp; omega
    have HX := hide hx
    clear hx
    go_enter Try.func9, Try.ntmps9
    go_wp2_with fail
    refine DC.out.mono ?_
    rintro e w1 ⟨s, rfl, o1, k1⟩
    dsimp only
    go_wp2_with fail
    go_ret2
    exact ⟨.slice none 0 0, [], x, rfl, ownPs_nil _ _, .inl ⟨by rw [HD.out], HX.out, rfl⟩, k1⟩
end Go.Proofs.Ytdbngchbhoanpaa
