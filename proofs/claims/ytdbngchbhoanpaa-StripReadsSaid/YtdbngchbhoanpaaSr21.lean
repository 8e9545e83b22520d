/- The contract of the reader's places: place after place, as many as the first number tells, or as there are bytes for. Condition: at most 1000000000 bytes. The contract of the law's places: two lists of the same places are the same. Condition: fewer than 2 to the 40 places. Reading an index back, by lists. It names nothing of the program but its places' row. The contracts of strip.Find and of the document's own: the place of a key, among places whose keys rise. Condition: fewer than 2 to the 40 places. -/
import Derived.Test.YtdbngchbhoanpaaSr19
import Derived.Deep.AppendLies
import Derived.Test.YtdbngchbhoanpaaSr13
namespace Go.Proofs.Ytdbngchbhoanpaa
open Go.RowKit Go.Maps
attribute [local go_sem] Oper.semAt_some
/-- As many places as there are, at most so many; the fuel is a bound of rounds. -/
def plsR : Nat → Nat → List Nat → List Plc
  | 0, _, _ => []
  | f + 1, n, r => if n = 0 ∨ r = [] then [] else (plcR r).1 :: plsR f (n - 1) (plcR r).2
theorem rvl_grow : ∀ (xs : List Nat) (k v : Nat), (rvl k v xs).2.2 = 0 → k < (rvl k v xs).2.1
  | [], k, v, h => by rw [rvl_nil] at h; cases h
  | c :: cs, k, v, h => by
    rw [rvl] at h ⊢
    split at h
    · cases h
    · next h1 =>
      rw [if_neg h1]
      split at h
      · next h2 =>
        rw [if_pos h2]
        have := rvl_grow cs _ _ h
        omega
      · next h2 =>
        rw [if_neg h2]
        split at h
        · cases h
        · next h3 =>
          rw [if_neg h3]
          exact Nat.lt_succ_self k
theorem plcR_shorter (r : List Nat) (h : r ≠ []) : (plcR r).2.length < r.length := by
  have h1 : 0 < numR r := by
    unfold numR
    split
    · next he =>
      rcases Nat.eq_zero_or_pos (rvl 0 0 r).2.1 with h0 | h0
      · have := rvl_grow r 0 0 he
        omega
      · exact h0
    · exact List.length_pos_iff.2 h
  have h2 : 0 < r.length := List.length_pos_iff.2 h
  unfold plcR
  simp only [List.length_drop]
  omega
theorem plsR_fuel : ∀ (f g n : Nat) (r : List Nat), r.length < f → r.length < g → plsR f n r = plsR g n r
  | 0, _, _, _, h, _ => by omega
  | _ + 1, 0, _, _, _, h => by omega
  | f + 1, g + 1, n, r, h1, h2 => by
    unfold plsR
    by_cases h : n = 0 ∨ r = []
    · rw [if_pos h, if_pos h]
    · rw [if_neg h, if_neg h]
      have h3 : r ≠ [] := fun e => h (.inr e)
      have h4 := plcR_shorter r h3
      rw [plsR_fuel f g (n - 1) (plcR r).2 (by omega) (by omega)]
/-- All of them. -/
def plsA (n : Nat) (r : List Nat) : List Plc := plsR (r.length + 1) n r
theorem plsA_stop {n : Nat} {r : List Nat} (h : n = 0 ∨ r = []) : plsA n r = [] := by
  unfold plsA plsR
  rw [if_pos h]
theorem plsA_step {n : Nat} {r : List Nat} (h1 : 0 < n) (h2 : r ≠ []) : plsA n r = (plcR r).1 :: plsA (n - 1) (plcR r).2 := by
  have h4 := plcR_shorter r h2
  have e : plsA n r = (plcR r).1 :: plsR r.length (n - 1) (plcR r).2 := by
    unfold plsA
    rw [plsR, if_neg (by
      intro h
      rcases h with h | h
      · omega
      · exact h2 h)]
  rw [e]
  unfold plsA
  rw [plsR_fuel r.length ((plcR r).2.length + 1) _ _ h4 (by omega)]
theorem plsA_len : ∀ (k n : Nat) (r : List Nat), r.length ≤ k → (plsA n r).length ≤ k
  | 0, n, r, h => by
    rw [plsA_stop (.inr (List.length_eq_zero_iff.1 (by omega)))]
    exact Nat.zero_le _
  | k + 1, n, r, h => by
    by_cases h1 : n = 0 ∨ r = []
    · rw [plsA_stop h1]
      exact Nat.zero_le _
    · have h2 : r ≠ [] := fun e => h1 (.inr e)
      rw [plsA_step (by omega) h2, List.length_cons]
      have h4 := plcR_shorter r h2
      have := plsA_len k (n - 1) (plcR r).2 (by omega)
      omega
/-- The cells of a place. -/
def plC (p : Plc) : List Value := [.int .u64 (p.key : Int), .int .i64 p.at_, .int .i64 p.n, .int .u32 (p.cook : Int), .bool p.dead]
/-- A row of places of the call's own. -/
def OwnPs (w : World) (B : Nat) (v : Value) (l : List Plc) : Prop := w.ownsRow B 36 5 v l.length (l.flatMap plC)
theorem ownPs_nil (w : World) (B : Nat) : OwnPs w B (.slice none 0 0) [] := World.ownsRow_nil _ _ _ _
theorem Try.info_plc : (Try.prog.info? 36).map (fun i => (i.zero, i.size, i.bytes)) = some (some (.agg #[.int .u64 0, .int .i64 0, .int .i64 0, .int .u32 0, .bool false]), 5, 32) := by kernel_rfl
theorem plC_new (W : World) (z : Nat) (hz : z = W.heap.size) (p : Plc) (j : Nat) (u : Value) (h : (plC p)[j]? = some u) : (W.alloc (.cells #[.int .u64 (p.key : Int), .int .i64 p.at_, .int .i64 p.n, .int .u32 (p.cook : Int), .bool p.dead] 36)).cell? ((⟨z, 0, none⟩ : Addr).add j) = some u := by
  subst hz
  have b := Blk.new W (B := 0) 36 #[.int .u64 (p.key : Int), .int .i64 p.at_, .int .i64 p.n, .int .u32 (p.cook : Int), .bool p.dead] (Nat.zero_le _)
  unfold plC at h
  have hj : j < 5 := by
    rcases Nat.lt_or_ge j 5 with h9 | h9
    · exact h9
    · rw [List.getElem?_eq_none (by simpa using h9)] at h
      cases h
  match j, hj with
  | 0, _ => exact (b.cell 0).trans h
  | 1, _ => exact (b.cell 1).trans h
  | 2, _ => exact (b.cell 2).trans h
  | 3, _ => exact (b.cell 3).trans h
  | 4, _ => exact (b.cell 4).trans h
theorem plC_one (p : Plc) : ∀ u ∈ plC p, u.oneCell' = true := by
  intro u hu
  simp only [plC, List.mem_cons, List.not_mem_nil, or_false] at hu
  rcases hu with rfl | rfl | rfl | rfl | rfl <;> rfl
theorem flat_len : ∀ l : List Plc, (l.flatMap plC).length = l.length * 5
  | [] => rfl
  | p :: l => by
    rw [List.flatMap_cons, List.length_append, flat_len l, List.length_cons]
    have : (plC p).length = 5 := rfl
    omega
theorem flat_at : ∀ (l : List Plc) (i j : Nat) (_ : i < l.length) (_ : j < 5), (l.flatMap plC)[i * 5 + j]? = (plC (l.getD i noPlc))[j]?
  | [], _, _, h, _ => by simp at h
  | p :: l, 0, j, _, hj => by
    rw [List.flatMap_cons, Nat.zero_mul, Nat.zero_add, List.getElem?_append_left (by exact hj)]
    rfl
  | p :: l, i + 1, j, h, hj => by
    have h5 : (plC p).length = 5 := rfl
    rw [List.flatMap_cons, List.getElem?_append_right (by omega), h5]
    have : (i + 1) * 5 + j - 5 = i * 5 + j := by omega
    rw [this, flat_at l i j (by simpa using h) hj]
    rfl
/-- It reads as them. -/
theorem OwnPs.isP {w : World} {B : Nat} {l : List Plc} {A : Option Addr} {c : Nat} (h : OwnPs w B (.slice A l.length c) l) : IsP w A l := by
  intro i hi
  have h0 := h
  obtain ⟨h1, h2 | ⟨g, cap, cur, e, h3, h4, h5⟩⟩ := h
  · have := h2.2
    omega
  · cases e
    refine ⟨g, 0, rfl, ?_⟩
    have hc : ∀ j, j < 5 → w.cell? ⟨g, 0 + i * 5 + j, none⟩ = (plC (l.getD i noPlc))[j]? := by
      intro j hj
      have hx : (l.flatMap plC)[i * 5 + j]? = (plC (l.getD i noPlc))[j]? := flat_at l i j hi hj
      have hlt : i * 5 + j < (l.flatMap plC).length := by rw [flat_len]; omega
      have hu := World.ownsRow.cells (g := g) h0 rfl (i * 5 + j) _ (List.getElem?_eq_getElem hlt)
      rw [add_off, Nat.zero_add] at hu
      rw [Nat.zero_add, ← hx, List.getElem?_eq_getElem hlt]
      exact hu
    exact ⟨hc 0 (by omega), hc 1 (by omega), hc 2 (by omega), hc 3 (by omega), hc 4 (by omega)⟩
theorem ownPs_turn {S : Nat → Prop} {w w' : World} {B : Nat} {v : Value} {l : List Plc} (h : OwnPs w B v l) (t : Turn S w w') (hn : ∀ g, B ≤ g → ¬ S g) : OwnPs w' B v l := by
  obtain ⟨h1, h2 | ⟨g, cap, cur, rfl, h3, h4, h5⟩⟩ := h
  · exact ⟨h1, .inl h2⟩
  · exact ⟨h1, .inr ⟨g, cap, cur, rfl, h3, t.at_ h4 (hn g h3), h5⟩⟩
theorem ownPs_form {w : World} {B : Nat} {v : Value} {l : List Plc} (h : OwnPs w B v l) : ∃ A c, v = .slice A l.length c ∧ (∀ b, v.ownBlock = some b → B ≤ b) := by
  obtain ⟨_, h2 | ⟨g, cap, cur, rfl, h3, _⟩⟩ := h
  · obtain ⟨e, e2⟩ := h2
    rw [e]
    exact ⟨none, 0, by rw [e2], fun b hb => by cases hb⟩
  · exact ⟨_, _, rfl, fun b hb => by cases hb; exact h3⟩
/-- What lies below stands, whatever is turned above. -/
theorem RdAt.far {S : Nat → Prop} {w w' : World} {B g : Nat} {rest : List Nat} (h : RdAt w B g rest) (t : Turn S w w') (hg : g < B) (hS : ∀ j, j < B → ¬ S j) : RdAt w' B g rest := by
  obtain ⟨A, n, c, h1, h2, h3, h4⟩ := h.out
  refine ⟨⟨A, n, c, h1.turn t (hS g hg), ?_, h3, h4⟩⟩
  obtain ⟨A', c', q, rd, z⟩ := h2
  refine ⟨A', c', q, fun hne => ?_, z⟩
  obtain ⟨b, off, e1, hc⟩ := rd hne
  refine ⟨b, off, e1, fun j hj => t.cell (hc j hj) (hS _ ?_)⟩
  cases q
  rcases h4 with h4 | ⟨b2, o2, e2, hb⟩
  · rw [h4] at e1; cases e1
  · rw [e2] at e1; cases e1; exact hb
def lenOf : Value → Nat
  | .slice _ n _ => n
  | _ => 0
theorem RdAt.left {w : World} {B g : Nat} {rest : List Nat} (h : RdAt w B g rest) : ∃ A c, w.cell? ⟨g, 0, none⟩ = some (.slice A rest.length c) ∧ rest.length ≤ 9223372036854775807 := by
  obtain ⟨A, n, c, h1, h2, h3, _⟩ := h.out
  have hl := isB_len h2
  subst h3
  exact ⟨A, c, h1.cell 0, by omega⟩
set_option maxRecDepth 100000 in
set_option maxHeartbeats 6400000 in
theorem places_anyR (B g : Nat) (rest : List Nat) (w : World) (h : RdAt w B g rest) (hg : g < B) (hB : B ≤ w.heap.size) (hb : ∀ x ∈ rest, x < 256) (h9 : rest.length ≤ 1000000000) :
    Calls Try.prog 23 #[.pointer (some ⟨g, 0, none⟩)] w fun e w' => ∃ v, e = .returned v ∧ OwnPs w' w.heap.size v (plsA (rvl 0 0 rest).1 (rest.drop (numR rest))) ∧ Turn (fun j => j = g) w w' := by
  have NA := hide (number_anyR B g rest w h hb h9 (by have := (rvl_le rest 0 0 (by omega) (by decide)).2.1; omega))
  obtain ⟨r1, e1⟩ : ∃ r, r = rest.drop (numR rest) := ⟨_, rfl⟩
  have hb1 : ∀ x ∈ r1, x < 256 := by rw [e1]; exact fun x hx => hb x (List.mem_of_mem_drop hx)
  have l1 : r1.length ≤ 1000000000 := by rw [e1, List.length_drop]; omega
  have hn64 : (rvl 0 0 rest).1 < 18446744073709551616 := (rvl_le rest 0 0 (by omega) (by decide)).1
  obtain ⟨n, e2⟩ : ∃ n, n = (rvl 0 0 rest).1 := ⟨_, rfl⟩
  rw [← e1, ← e2] at NA ⊢
  rw [← e2] at hn64
  have HB := hide hb1
  have HL := hide l1
  clear e1 e2 h hb h9 hb1 l1
  go_enter Try.func23, Try.ntmps23
  go_wp2_with fail
  refine NA.out.mono ?_
  rintro e w1 ⟨rfl, h1, t1⟩
  have H1 := hide h1
  have T1 := hide t1
  clear h1 t1 NA
  dsimp only
  go_wp2_with fail
  go_loopw [3] (fun l wr => ∃ (ps : List Plc) (r : List Nat) (A : Option Addr) (c N : Nat), l = .slice A N c ∧ N = ps.length ∧ Hid (OwnPs wr w.heap.size (.slice A N c) ps) ∧ Hid (RdAt wr B g r) ∧ Hid (ps ++ plsA (n - N) r = plsA n r1) ∧ Hid (∀ x ∈ r, x < 256) ∧ N + r.length ≤ 1000000000 ∧ Hid (Turn (fun j => j = g) w wr)) (fun l _ => 2000000000 - lenOf l)
  case atStart => exact ⟨[], r1, none, 0, 0, rfl, rfl, ownPs_nil _ _, H1.out, by simp [Hid], HB.out, by have := HL.out; omega, T1.out⟩
  case round =>
    obtain ⟨ps, r, A, c, N, rfl, hN, hO, hR, hP, hb, hlen, hT⟩ := hrel
    obtain ⟨A2, c2, q0, hl2⟩ := hR.out.left
    have hNw : IntKind.u64.wrap (N : Int) = (N : Int) := by rw [IntKind.wrap_u64]; omega
    obtain ⟨m, hm⟩ : ∃ m, m = r.length := ⟨_, rfl⟩
    rw [← hm] at q0
    by_cases hgo : N < n ∧ r ≠ []
    · obtain ⟨hgo1, hgo2⟩ := hgo
      have hi1 : (N : Int) < (n : Int) := by omega
      have hm0 : 0 < m := by rw [hm]; exact List.length_pos_iff.2 hgo2
      have hm1 : (0 : Int) < (m : Int) := by omega
      have HM := hide hm
      have PC := hide (place_anyR B g r wr hR.out hb.out (by omega))
      have PS := hide (plsA_step (n := n - N) (r := r) (by omega) hgo2)
      have SH := hide (plcR_shorter r hgo2)
      have HB2 : Hid (∀ x ∈ (plcR r).2, x < 256) := hide (fun x hx => hb.out x (by
        unfold plcR at hx
        exact List.mem_of_mem_drop (List.mem_of_mem_drop (List.mem_of_mem_drop (List.mem_of_mem_drop (List.mem_of_mem_drop hx))))))
      obtain ⟨p, hp⟩ : ∃ p, p = (plcR r).1 := ⟨_, rfl⟩
      obtain ⟨r', hr'⟩ : ∃ r', r' = (plcR r).2 := ⟨_, rfl⟩
      rw [← hp, ← hr'] at PC PS
      rw [← hr'] at SH HB2
      unfold plcV at PC
      have HLN := hide hlen
      have HN := hide hN
      have HNN := hide hgo1
      clear hp hr' hgo1 hgo2 hm hlen hN
      go_wp2_with fail
      refine PC.out.mono ?_
      rintro e w2 ⟨rfl, h2, t2⟩
      have O2 := hide (ownPs_turn hO.out t2 (fun j hj e => by subst e; omega))
      have H2 := hide h2
      have T2 := hide (hT.out.trans t2)
      have SZ2 := hide (Nat.le_trans hT.out.size t2.size)
      clear h2 t2 PC
      dsimp only
      obtain ⟨x, hx⟩ : ∃ x, x = w2.heap.size := ⟨_, rfl⟩
      have k3 := below_alloc w2 (.cells #[.int .u64 (p.key : Int), .int .i64 p.at_, .int .i64 p.n, .int .u32 (p.cook : Int), .bool p.dead] 36)
      have O3 := hide (ownPs_turn O2.out (Turn.of_below (fun _ => False) k3) (fun _ _ e => e))
      have H3 := hide (H2.out.keep k3)
      have T3 := hide (T2.out.trans (Turn.of_below _ k3))
      have NW := hide (plC_new w2 x hx p)
      have SZ3 := hide (Nat.le_trans SZ2.out k3.size)
      clear O2 H2 T2 k3
      go_wp2_with (at_builtin; refine halt ?_)
      refine ⟨?_⟩
      rw [← hx]
      generalize w2.alloc (.cells #[.int .u64 (p.key : Int), .int .i64 p.at_, .int .i64 p.n, .int .u32 (p.cook : Int), .bool p.dead] 36) = W3 at *
      obtain ⟨i0, hi0⟩ : ∃ i, Try.prog.info? 36 = some i := by
        have := Try.info_plc
        cases h : Try.prog.info? 36 with
        | none => rw [h] at this; cases this
        | some i => exact ⟨i, rfl⟩
      have hinfo := Try.info_plc
      rw [hi0] at hinfo
      simp only [Option.map_some, Option.some.injEq, Prod.mk.injEq] at hinfo
      obtain ⟨hz0, hz1, hz2⟩ := hinfo
      refine wpList_append_lies _ rfl (.tmp 20) (.tmp 23) 22 rfl w.heap.size 36 i0 _ 5 32 Try.underlying22 hi0 hz0 hz1 hz2 rfl (by decide) (.slice A N c) N (ps.flatMap plC) rfl (by have := O3.out; unfold OwnPs at this; rw [← HN.out] at this; exact this) ⟨x, 0, none⟩ 1 1 (plC p) rfl rfl NW.out (plC_one p) (by decide) (by have := HLN.out; unfold maxLen; omega) (by have := HLN.out; omega) SZ3.out _ rfl ?_
      intro g' cap w' hown hgrow hor hlt
      have hform := (ownPs_form O3.out)
      have hob : ∀ b, (Value.slice A N c).ownBlock = some b → w.heap.size ≤ b := by
        obtain ⟨A', c', e, hb⟩ := hform
        exact hb
      have tg : Turn (fun k => (Value.slice A N c).ownBlock = some k) W3 w' := (Turn.of_grown hgrow).mono (fun k e => e.symm)
      have H4 := hide (H3.out.far tg hg (fun j hj e => by have := hob j e; omega))
      have T4 := hide (T3.out.then tg (fun j e => .inr (hob j e)))
      have O4 : Hid (OwnPs w' w.heap.size (.slice (some ⟨g', 0, none⟩) (N + 1) cap) (ps ++ [p])) := by
        unfold Hid OwnPs
        rw [List.length_append, List.length_singleton, ← HN.out, List.flatMap_append]
        simpa using hown
      have P4 : Hid ((ps ++ [p]) ++ plsA (n - (N + 1)) r' = plsA n r1) := by
        unfold Hid
        rw [← hP.out, PS.out, List.append_assoc]
        rfl
      have L4 : Hid (N + 1 + r'.length ≤ 1000000000) := by
        unfold Hid
        have := SH.out
        have := HLN.out
        omega
      clear hown hgrow hor hlt tg hob hform
      go_wp2_with fail
      go_roundw
      case rel =>
        exact ⟨ps ++ [p], r', _, _, N + 1, rfl, by rw [List.length_append, List.length_singleton, ← HN.out], O4, H4, P4, HB2, L4.out, T4⟩
      case measure =>
        have := L4.out
        simp [lenOf]
        omega
    · have HNO : Hid (plsA (n - N) r = []) := hide (plsA_stop (by
        by_cases h1 : N < n
        · refine .inr (Classical.byContradiction fun h2 => hgo ⟨h1, h2⟩)
        · exact .inl (by omega)))
      have hend : (¬ N < n) ∨ (N < n ∧ m = 0) := by
        by_cases h1 : N < n
        · refine .inr ⟨h1, ?_⟩
          rw [hm]
          exact List.length_eq_zero_iff.2 (Classical.byContradiction fun h2 => hgo ⟨h1, h2⟩)
        · exact .inl h1
      have HN := hide hN
      clear hgo hm hN
      rcases hend with h1 | ⟨h1, h2⟩
      · have hi1 : ¬ (N : Int) < (n : Int) := by omega
        clear h1
        go_wp2_with fail
        go_ret
        have hpp := hP.out
        rw [HNO.out, List.append_nil] at hpp
        rw [← hpp]
        exact ⟨.slice A N c, rfl, hO.out, hT.out⟩
      · have hi1 : (N : Int) < (n : Int) := by omega
        subst h2
        clear h1
        go_wp2_with fail
        go_ret
        have hpp := hP.out
        rw [HNO.out, List.append_nil] at hpp
        rw [← hpp]
        exact ⟨.slice A N c, rfl, hO.out, hT.out⟩
end Go.Proofs.Ytdbngchbhoanpaa
namespace Go.Proofs.Ytdbngchbhoanpaa
open Go.RowKit Go.Maps
attribute [local go_sem] Oper.semAt_some
set_option maxRecDepth 100000 in
set_option maxHeartbeats 3200000 in
theorem places_same (A B : Option Addr) (n ca cb : Nat) (ps : List Plc) (w : World) (hA : IsP w A ps) (hB : IsP w B ps) (hn : ps.length = n) (hm : n ≤ 1000000000000) :
    Calls Try.prog 12 #[.slice A n ca, .slice B n cb] w fun e w' => e = .returned (.bool true) ∧ Below w.heap.size w w' := by
  have HA := hide hA
  have HB := hide hB
  have HN := hide hn
  clear hA hB hn
  go_enter Try.func12, Try.ntmps12
  go_wp2_with fail
  go_loopw [5] (fun i wr => ∃ j : Nat, j ≤ n ∧ i = .int .i64 (j : Int) ∧ Hid (Below w.heap.size w wr)) (fun i _ => n - (intOf i).toNat)
  case atStart => exact ⟨0, Nat.zero_le _, rfl, Below.refl _ _⟩
  case round =>
    obtain ⟨j, hj, rfl, hK⟩ := hrel
    by_cases hlt : j < n
    · have hji : (j : Int) < (n : Int) := by omega
      obtain ⟨b, o, rfl, f0, f1, f2, f3, f4⟩ := (HA.out.keep hK.out) j (by rw [HN.out]; exact hlt)
      obtain ⟨b2, o2, rfl, g0, g1, g2, g3, g4⟩ := (HB.out.keep hK.out) j (by rw [HN.out]; exact hlt)
      obtain ⟨P, hPP⟩ : ∃ P, ps.getD j noPlc = P := ⟨_, rfl⟩
      rw [hPP] at f0 f1 f2 f3 f4 g0 g1 g2 g3 g4
      clear hPP
      go_wp2_with fail
      go_region
      go_wp2_with fail
      go_roundw
      case rel => exact ⟨j + 1, by omega, by go_num, hide (below_drewN hK.out 1)⟩
      case measure => simp [intOf]; omega
    · obtain rfl : j = n := by omega
      go_wp2_with fail
      go_ret
      exact ⟨rfl, hK.out⟩
end Go.Proofs.Ytdbngchbhoanpaa
namespace Go.Proofs.Ytdbngchbhoanpaa
open Go.RowKit
theorem bodyL_flat (ps : List Plc) : ∀ i, i ≤ ps.length → bodyL ps i = uvl ps.length ++ (ps.take i).flatMap plcL
  | 0, _ => by simp [bodyL]
  | i + 1, h => by
    rw [bodyL, bodyL_flat ps i (by omega), List.take_succ_eq_append_getElem (by omega), List.flatMap_append, List.append_assoc]
    congr 2
    rw [List.getD_eq_getElem?_getD, List.getElem?_eq_getElem (by omega)]
    simp
theorem bodyL_all (ps : List Plc) : bodyL ps ps.length = uvl ps.length ++ ps.flatMap plcL := by
  rw [bodyL_flat ps _ (Nat.le_refl _), List.take_length]
theorem rvl_at (v : Nat) (more : List Nat) (h : v < 18446744073709551616) : rvl 0 0 (uvl v ++ more) = (v, (uvl v).length, 0) := by
  have := rvl_uvl more v 0 0 (by omega) (by simpa using h) (.inl rfl)
  simpa using this
theorem numR_at (v : Nat) (more : List Nat) (h : v < 18446744073709551616) : numR (uvl v ++ more) = (uvl v).length ∧ (uvl v ++ more).drop (numR (uvl v ++ more)) = more := by
  have e : numR (uvl v ++ more) = (uvl v).length := by
    unfold numR
    rw [rvl_at v more h]
    rfl
  exact ⟨e, by rw [e]; exact List.drop_left⟩
theorem bnd_nat {z : Int} (h : bndB z = true) : 0 ≤ z ∧ z ≤ 4194304 := by
  unfold bndB at h
  simp only [Bool.and_eq_true, decide_eq_true_eq] at h
  exact h
theorem plcR_back (p : Plc) (more : List Nat) (h : p.Fit) (h1 : bndB p.at_ = true) (h2 : bndB p.n = true) : plcR (plcL p ++ more) = (p, more) := by
  obtain ⟨a1, a2⟩ := bnd_nat h1
  obtain ⟨b1, b2⟩ := bnd_nat h2
  obtain ⟨key, at_, n, cook, dead⟩ := p
  simp only at a1 a2 b1 b2
  have hk : key < 18446744073709551616 := h.key
  have hc : cook < 4294967296 := h.cook
  have e : plcL ⟨key, at_, n, cook, dead⟩ ++ more = uvl key ++ (uvl at_.toNat ++ (uvl n.toNat ++ (be32 cook ++ ((if dead then 1 else 0) :: more)))) := by
    unfold plcL
    simp only [List.append_assoc]
    rfl
  have e1 := numR_at key (uvl at_.toNat ++ (uvl n.toNat ++ (be32 cook ++ ((if dead then 1 else 0) :: more)))) hk
  have e2 := numR_at at_.toNat (uvl n.toNat ++ (be32 cook ++ ((if dead then 1 else 0) :: more))) (by omega)
  have e3 := numR_at n.toNat (be32 cook ++ ((if dead then 1 else 0) :: more)) (by omega)
  unfold plcR
  rw [e]
  simp only [e1.2, e2.2, e3.2, rvl_at _ _ hk, rvl_at at_.toNat _ (show at_.toNat < 18446744073709551616 by omega), rvl_at n.toNat _ (show n.toNat < 18446744073709551616 by omega)]
  have t4 : (be32 cook ++ ((if dead then 1 else 0) :: more)).take 4 = be32 cook := List.take_left (l₁ := be32 cook)
  have d4 : (be32 cook ++ ((if dead then 1 else 0) :: more)).drop 4 = (if dead then 1 else 0) :: more := List.drop_left (l₁ := be32 cook)
  rw [t4, d4]
  have l4 : 4 ≤ (be32 cook).length := by rw [be32_len]; omega
  rw [if_pos l4]
  have hv := val32_be cook hc []
  rw [List.append_nil] at hv
  rw [hv]
  have w1 : IntKind.i64.wrap ((at_.toNat : Nat) : Int) = at_ := by rw [IntKind.wrap_i64]; omega
  have w2 : IntKind.i64.wrap ((n.toNat : Nat) : Int) = n := by rw [IntKind.wrap_i64]; omega
  rw [w1, w2]
  cases dead <;> rfl
/-- An index's bytes. -/
structure IxOf (b : List Nat) (ps : List Plc) : Prop where
  fit : ∀ p ∈ ps, p.Fit
  ix : IsIx ps
  len : ps.length ≤ 65536
  short : (bodyL ps ps.length).length ≤ 1048576
  bytes : frameL (bodyL ps ps.length) = b
theorem IxOf.bnd {b : List Nat} {ps : List Plc} (h : IxOf b ps) : ∀ p ∈ ps, bndB p.at_ = true ∧ bndB p.n = true := by
  intro p hp
  obtain ⟨i, hi, rfl⟩ := List.mem_iff_getElem.1 hp
  have := h.ix i hi
  unfold okAt at this
  obtain ⟨_, h2, h3⟩ := this
  rw [List.getD_eq_getElem?_getD, List.getElem?_eq_getElem hi] at h2 h3
  exact ⟨h2, h3⟩
theorem plsA_back : ∀ (ps : List Plc) (more : List Nat) (_ : ∀ p ∈ ps, p.Fit) (_ : ∀ p ∈ ps, bndB p.at_ = true ∧ bndB p.n = true), plsA ps.length (ps.flatMap plcL ++ more) = ps
  | [], more, _, _ => plsA_stop (.inl rfl)
  | p :: ps, more, h1, h2 => by
    have hb := h2 p List.mem_cons_self
    have e : (p :: ps).flatMap plcL ++ more = plcL p ++ (ps.flatMap plcL ++ more) := by
      rw [List.flatMap_cons, List.append_assoc]
    have hne : plcL p ++ (ps.flatMap plcL ++ more) ≠ [] := by
      unfold plcL
      simp
    rw [e, plsA_step (by simp) hne, plcR_back p _ (h1 p List.mem_cons_self) hb.1 hb.2]
    simp only [List.length_cons, Nat.add_sub_cancel]
    rw [plsA_back ps more (fun q hq => h1 q (List.mem_cons_of_mem _ hq)) (fun q hq => h2 q (List.mem_cons_of_mem _ hq))]
/-- What the lenient reader reads of a payload. -/
def lenL (p : List Nat) : List Plc := plsA (rvl 0 0 p).1 (p.drop (numR p))
theorem lenL_back {b : List Nat} {ps : List Plc} (h : IxOf b ps) : lenL (bodyL ps ps.length) = ps := by
  unfold lenL
  rw [bodyL_all]
  have hl := h.len
  rw [rvl_at ps.length _ (by omega), (numR_at ps.length _ (by omega)).2]
  have := plsA_back ps [] h.fit h.bnd
  rw [List.append_nil] at this
  exact this
theorem dec_ix {b : List Nat} {ps : List Plc} (h : IxOf b ps) : decL b = (bodyL ps ps.length, b.length, 0) := by
  have := dec_back (bodyL ps ps.length) [] h.short
  rw [List.append_nil, h.bytes] at this
  rw [this, ← h.bytes, frame_len]
theorem ixOf_once {b : List Nat} {ps qs : List Plc} (h : IxOf b ps) (k : IxOf b qs) : ps = qs := by
  have e := dec_ix h
  rw [dec_ix k] at e
  have e2 : bodyL qs qs.length = bodyL ps ps.length := congrArg Prod.fst e
  rw [← lenL_back h, ← lenL_back k, e2]
theorem plcR_fit {r : List Nat} (hb : ∀ x ∈ r, x < 256) : (plcR r).1.Fit := by
  unfold plcR
  refine ⟨(rvl_le r 0 0 (by omega) (by decide)).1, ?_, ?_, ?_⟩
  · simp only
    rw [IntKind.wrap_i64]
    omega
  · simp only
    rw [IntKind.wrap_i64]
    omega
  · simp only
    split
    · exact val32_lt (fun x hx => hb x (List.mem_of_mem_drop (List.mem_of_mem_drop (List.mem_of_mem_drop (List.mem_of_mem_take hx)))))
    · omega
theorem plsR_fit : ∀ (f n : Nat) (r : List Nat) (_ : ∀ x ∈ r, x < 256), ∀ p ∈ plsR f n r, p.Fit
  | 0, _, _, _ => by simp [plsR]
  | f + 1, n, r, hb => by
    unfold plsR
    split
    · simp
    · intro p hp
      rcases List.mem_cons.1 hp with rfl | hp
      · exact plcR_fit hb
      · refine plsR_fit f (n - 1) _ (fun x hx => hb x ?_) p hp
        unfold plcR at hx
        exact List.mem_of_mem_drop (List.mem_of_mem_drop (List.mem_of_mem_drop (List.mem_of_mem_drop (List.mem_of_mem_drop hx))))
theorem lenL_fit {p : List Nat} (hb : ∀ x ∈ p, x < 256) : ∀ q ∈ lenL p, q.Fit := plsR_fit _ _ _ (fun x hx => hb x (List.mem_of_mem_drop hx))
/-- What ReadIndex answers. -/
def RdIx (b : List Nat) (ps : List Plc) (E : Nat) : Prop :=
  (E = (decL b).2.2 ∧ E ≠ 0 ∧ ps = []) ∨ ((decL b).2.2 = 0 ∧ IxOf b ps ∧ E = 0) ∨ ((decL b).2.2 = 0 ∧ (∀ qs, ¬ IxOf b qs) ∧ ps = [] ∧ E = 3)
theorem rdIx_once {b : List Nat} {ps qs : List Plc} {E F : Nat} (h : RdIx b ps E) (k : RdIx b qs F) : ps = qs ∧ E = F := by
  rcases h with ⟨h1, h2, h3⟩ | ⟨h1, h2, h3⟩ | ⟨h1, h2, h3, h4⟩ <;> rcases k with ⟨k1, k2, k3⟩ | ⟨k1, k2, k3⟩ | ⟨k1, k2, k3, k4⟩
  · exact ⟨by rw [h3, k3], by rw [h1, k1]⟩
  · rw [k1] at h1; exact absurd h1 h2
  · rw [k1] at h1; exact absurd h1 h2
  · rw [h1] at k1; exact absurd k1 k2
  · exact ⟨ixOf_once h2 k2, by rw [h3, k3]⟩
  · exact absurd h2 (k2 ps)
  · rw [h1] at k1; exact absurd k1 k2
  · exact absurd k2 (h2 qs)
  · exact ⟨by rw [h3, k3], by rw [h4, k4]⟩
theorem ixOf_of {b : List Nat} {ps : List Plc} (hf : ∀ p ∈ ps, p.Fit) (h1 : ixE ps = 0) (h2 : ixL ps = b) : IxOf b ps := by
  have hI : IsIx ps := by
    apply Classical.byContradiction
    intro h
    rw [(ixE_bad h).1] at h1
    cases h1
  have hl : ¬ (65536 < ps.length ∨ 1048576 < (bodyL ps ps.length).length) := by
    intro h
    rw [(ixE_long hI h).1] at h1
    cases h1
  rw [(ixE_ok hI hl).2] at h2
  exact ⟨hf, hI, by omega, by omega, h2⟩
theorem ixOf_ix {b : List Nat} {ps : List Plc} (h : IxOf b ps) : ixE ps = 0 ∧ ixL ps = b := by
  have hl : ¬ (65536 < ps.length ∨ 1048576 < (bodyL ps ps.length).length) := by
    have := h.len
    have := h.short
    omega
  exact ⟨(ixE_ok h.ix hl).1, by rw [(ixE_ok h.ix hl).2, h.bytes]⟩
theorem ix_none {b : List Nat} (h : ¬ (ixE (lenL (decL b).1) = 0 ∧ ixL (lenL (decL b).1) = b)) : ∀ qs, ¬ IxOf b qs := by
  intro qs hq
  have e := dec_ix hq
  have e2 : (decL b).1 = bodyL qs qs.length := by rw [e]
  rw [e2, lenL_back hq] at h
  exact h (ixOf_ix hq)
end Go.Proofs.Ytdbngchbhoanpaa
namespace Go.Proofs.Ytdbngchbhoanpaa
open Go.RowKit Go.Maps
attribute [local go_sem] Oper.semAt_some
/-- Keys rise. -/
def RiseK (ps : List Plc) : Prop := ∀ i j, i < j → j < ps.length → (ps.getD i noPlc).key < (ps.getD j noPlc).key
theorem rise_ix {ps : List Plc} (h : IsIx ps) : RiseK ps := by
  intro i j hij hj
  induction j with
  | zero => omega
  | succ j ih =>
    have h1 := (h (j + 1) hj).1 (by omega)
    rw [Nat.add_sub_cancel] at h1
    rcases Nat.lt_or_ge i j with h2 | h2
    · exact Nat.lt_trans (ih h2 (by omega)) h1
    · obtain rfl : i = j := by omega
      exact h1
/-- What Find answers. -/
def FdA (ps : List Plc) (key : Nat) (v : Value) (b : Bool) : Prop := (∃ i, i < ps.length ∧ (ps.getD i noPlc).key = key ∧ v = plcV (ps.getD i noPlc) ∧ b = true) ∨ ((∀ i, i < ps.length → (ps.getD i noPlc).key ≠ key) ∧ v = plcV noPlc ∧ b = false)
/-- The same, of an ending. -/
def FdE (ps : List Plc) (key : Nat) (e : Ending) : Prop := ∃ v b, e = .returned (.tuple #[v, .bool b]) ∧ FdA ps key v b
theorem fdA_once {ps : List Plc} {key : Nat} {u v : Value} {b c : Bool} (hr : RiseK ps) (h : FdA ps key u b) (k : FdA ps key v c) : u = v ∧ b = c := by
  rcases h with ⟨i, h1, h2, rfl, rfl⟩ | ⟨h1, rfl, rfl⟩ <;> rcases k with ⟨j, k1, k2, rfl, rfl⟩ | ⟨k1, rfl, rfl⟩
  · have : i = j := by
      rcases Nat.lt_trichotomy i j with h | h | h
      · have := hr i j h k1; omega
      · exact h
      · have := hr j i h h1; omega
    rw [this]
    exact ⟨rfl, rfl⟩
  · exact absurd h2 (k1 i h1)
  · exact absurd k2 (h1 j k1)
  · exact ⟨rfl, rfl⟩
theorem five_set {w : World} {B z : Nat} {a b c d e : Value} (h : Blk w B 36 z [a, b, c, d, e]) (p : Plc) : Blk (((((w.setCell ⟨z, 0, none⟩ (.int .u64 (p.key : Int))).setCell ⟨z, 1, none⟩ (.int .i64 p.at_)).setCell ⟨z, 2, none⟩ (.int .i64 p.n)).setCell ⟨z, 3, none⟩ (.int .u32 (p.cook : Int))).setCell ⟨z, 4, none⟩ (.bool p.dead)) B 36 z [.int .u64 (p.key : Int), .int .i64 p.at_, .int .i64 p.n, .int .u32 (p.cook : Int), .bool p.dead] :=
  ((((h.stored 0 _).stored 1 _).stored 2 _).stored 3 _).stored 4 _
theorem five_below {w w' : World} {B z : Nat} (h : Below B w w') (hz : B ≤ z) (p : Plc) : Below B w (((((w'.setCell ⟨z, 0, none⟩ (.int .u64 (p.key : Int))).setCell ⟨z, 1, none⟩ (.int .i64 p.at_)).setCell ⟨z, 2, none⟩ (.int .i64 p.n)).setCell ⟨z, 3, none⟩ (.int .u32 (p.cook : Int))).setCell ⟨z, 4, none⟩ (.bool p.dead)) :=
  ((((h.setCell (p := ⟨z, 0, none⟩) hz _).setCell (p := ⟨z, 1, none⟩) hz _).setCell (p := ⟨z, 2, none⟩) hz _).setCell (p := ⟨z, 3, none⟩) hz _).setCell (p := ⟨z, 4, none⟩) hz _
set_option maxRecDepth 100000 in
set_option maxHeartbeats 3200000 in
theorem rfind_any (A : Option Addr) (n c key : Nat) (ps : List Plc) (w : World) (hA : IsP w A ps) (hn : ps.length = n) (hm : n ≤ 1000000000000) :
    Calls Try.prog 11 #[.slice A n c, .int .u64 (key : Int)] w fun e w' => FdE ps key e ∧ Below w.heap.size w w' := by
  have k0 := below_alloc w (.cells #[.int .u64 0, .int .i64 0, .int .i64 0, .int .u32 0, .bool false] 36)
  have b0 : Blk (w.alloc (.cells #[.int .u64 0, .int .i64 0, .int .i64 0, .int .u32 0, .bool false] 36)) 0 36 w.heap.size [.int .u64 0, .int .i64 0, .int .i64 0, .int .u32 0, .bool false] := Blk.new w (B := 0) 36 #[.int .u64 0, .int .i64 0, .int .i64 0, .int .u32 0, .bool false] (Nat.zero_le _)
  have HA := hide (hA.keep k0)
  have HN := hide hn
  have K0 := hide k0
  have B0 := hide b0
  clear hA hn k0 b0
  go_enter Try.func11, Try.ntmps11
  go_wp2_with fail
  obtain ⟨z, hz⟩ : ∃ z, z = w.heap.size := ⟨_, rfl⟩
  rw [← hz] at B0 ⊢
  generalize w.alloc (.cells #[.int .u64 0, .int .i64 0, .int .i64 0, .int .u32 0, .bool false] 36) = W at *
  have HZ := hide hz
  clear hz
  go_loop [6] (fun i => ∃ j : Nat, j ≤ n ∧ i = .int .i64 (j : Int) ∧ Hid (∀ k, k < j → (ps.getD k noPlc).key ≠ key)) (fun i => n - (intOf i).toNat)
  case atStart => exact ⟨0, Nat.zero_le _, rfl, by simp [Hid]⟩
  case round =>
    obtain ⟨j, hj, rfl, hP⟩ := hrel
    have a0 := B0.out.cell 0
    have a1 := B0.out.cell 1
    have a2 := B0.out.cell 2
    have a3 := B0.out.cell 3
    have a4 := B0.out.cell 4
    have g0 := B0.out.frozen 0
    have g1 := B0.out.frozen 1
    have g2 := B0.out.frozen 2
    have g3 := B0.out.frozen 3
    have g4 := B0.out.frozen 4
    dsimp only [List.getElem?_cons_zero, List.getElem?_cons_succ] at a0 a1 a2 a3 a4
    by_cases hlt : j < n
    · have hjn : (j : Int) < (n : Int) := by omega
      obtain ⟨b, o, rfl, f0, f1, f2, f3, f4⟩ := HA.out j (by rw [HN.out]; exact hlt)
      obtain ⟨P, hPP⟩ : ∃ P, ps.getD j noPlc = P := ⟨_, rfl⟩
      rw [hPP] at f0 f1 f2 f3 f4
      have HPP := hide hPP
      clear hPP
      by_cases hk : P.key = key
      · have hkz : ((P.key : Int) == (key : Int)) = true := by rw [hk]; simp
        have HK := hide hk
        clear hk
        go_wp2_with fail
        have q := five_set B0.out P
        have kq := five_below K0.out (Nat.le_of_eq HZ.out.symm) P
        generalize ((((W.setCell ⟨z, 0, none⟩ (.int .u64 (P.key : Int))).setCell ⟨z, 1, none⟩ (.int .i64 P.at_)).setCell ⟨z, 2, none⟩ (.int .i64 P.n)).setCell ⟨z, 3, none⟩ (.int .u32 (P.cook : Int))).setCell ⟨z, 4, none⟩ (.bool P.dead) = X at q kq ⊢
        have q0 := q.cell 0
        have q1 := q.cell 1
        have q2 := q.cell 2
        have q3 := q.cell 3
        have q4 := q.cell 4
        dsimp only [List.getElem?_cons_zero, List.getElem?_cons_succ] at q0 q1 q2 q3 q4
        refine bodyPost_ret (v := .tuple #[plcV P, .bool true]) (by simp [results, Try.results11, go_sem, q0, q1, q2, q3, q4, plcV]) rfl ⟨⟨_, _, rfl, .inl ⟨j, by rw [HN.out]; exact hlt, by rw [HPP.out]; exact HK.out, by rw [HPP.out], rfl⟩⟩, kq⟩
      · have hkz : ((P.key : Int) == (key : Int)) = false := by rw [beq_eq_false_iff_ne]; omega
        have HK : Hid (∀ k, k < j + 1 → (ps.getD k noPlc).key ≠ key) := by
          intro k hkj
          by_cases e : k = j
          · rw [e, HPP.out]; exact hk
          · exact hP.out k (by omega)
        clear hk
        go_wp2_with fail
        go_round
        case rel => exact ⟨j + 1, by omega, by go_num, HK⟩
        case measure => simp [intOf]; omega
    · obtain rfl : j = n := by omega
      go_wp2_with fail
      have q := five_set B0.out noPlc
      have kq := five_below K0.out (Nat.le_of_eq HZ.out.symm) noPlc
      unfold noPlc at q kq
      dsimp only at q kq
      generalize ((((W.setCell ⟨z, 0, none⟩ (.int .u64 0)).setCell ⟨z, 1, none⟩ (.int .i64 0)).setCell ⟨z, 2, none⟩ (.int .i64 0)).setCell ⟨z, 3, none⟩ (.int .u32 0)).setCell ⟨z, 4, none⟩ (.bool false) = X at q kq ⊢
      have q0 := q.cell 0
      have q1 := q.cell 1
      have q2 := q.cell 2
      have q3 := q.cell 3
      have q4 := q.cell 4
      dsimp only [List.getElem?_cons_zero, List.getElem?_cons_succ] at q0 q1 q2 q3 q4
      refine bodyPost_ret (v := .tuple #[plcV noPlc, .bool false]) (by simp [results, Try.results11, go_sem, q0, q1, q2, q3, q4, plcV, noPlc]) rfl ⟨⟨_, _, rfl, .inr ⟨fun i hi => hP.out i (by rw [← HN.out]; exact hi), rfl, rfl⟩⟩, kq⟩
set_option maxRecDepth 100000 in
set_option maxHeartbeats 3200000 in
theorem find_any (A : Option Addr) (n c key : Nat) (ps : List Plc) (w : World) (hA : IsP w A ps) (hn : ps.length = n) (hm : n ≤ 1000000000000) (hr : RiseK ps) :
    Calls Try.prog 10 #[.slice A n c, .int .u64 (key : Int)] w fun e w' => FdE ps key e ∧ Below w.heap.size w w' := by
  have k0 := below_alloc w (.cells #[.int .u64 0, .int .i64 0, .int .i64 0, .int .u32 0, .bool false] 36)
  have b0 : Blk (w.alloc (.cells #[.int .u64 0, .int .i64 0, .int .i64 0, .int .u32 0, .bool false] 36)) 0 36 w.heap.size [.int .u64 0, .int .i64 0, .int .i64 0, .int .u32 0, .bool false] := Blk.new w (B := 0) 36 #[.int .u64 0, .int .i64 0, .int .i64 0, .int .u32 0, .bool false] (Nat.zero_le _)
  have HA := hide (hA.keep k0)
  have HN := hide hn
  have HRI := hide hr
  have K0 := hide k0
  have B0 := hide b0
  clear hA hn k0 b0 hr
  go_enter Try.func10, Try.ntmps10
  go_wp2_with fail
  obtain ⟨z, hz⟩ : ∃ z, z = w.heap.size := ⟨_, rfl⟩
  rw [← hz] at B0 ⊢
  generalize w.alloc (.cells #[.int .u64 0, .int .i64 0, .int .i64 0, .int .u32 0, .bool false] 36) = W at *
  have HZ := hide hz
  clear hz
  go_loop [6, 7] (fun lo hi => ∃ a b : Nat, a ≤ b ∧ b ≤ n ∧ lo = .int .i64 (a : Int) ∧ hi = .int .i64 (b : Int) ∧ Hid (∀ k, k < a → (ps.getD k noPlc).key < key) ∧ Hid (∀ k, b ≤ k → k < n → key ≤ (ps.getD k noPlc).key)) (fun lo hi => (intOf hi).toNat - (intOf lo).toNat)
  case atStart => exact ⟨0, n, Nat.zero_le _, Nat.le_refl _, rfl, rfl, by simp [Hid], fun k h1 h2 => by omega⟩
  case round =>
    obtain ⟨a, b, hab, hbn, rfl, rfl, hL, hU⟩ := hrel
    by_cases hlt : a < b
    · obtain ⟨d, hd⟩ : ∃ d, d = b - a := ⟨_, rfl⟩
      obtain ⟨h, hh⟩ : ∃ h, h = d / 2 := ⟨_, rfl⟩
      obtain ⟨m, hm9⟩ : ∃ m, m = a + h := ⟨_, rfl⟩
      have e1 : (b : Int) - (a : Int) = (d : Int) := by omega
      have e2 : (d : Int) / 2 = (h : Int) := by omega
      have e3 : (a : Int) + (h : Int) = (m : Int) := by omega
      have hmn : m < n := by omega
      have hmni : (m : Int) < (n : Int) := by omega
      have HMB := hide (show a ≤ m ∧ m < b by omega)
      obtain ⟨bb, o, rfl, f0, f1, f2, f3, f4⟩ := HA.out m (by rw [HN.out]; exact hmn)
      obtain ⟨P, hPP⟩ : ∃ P, (ps.getD m noPlc).key = P := ⟨_, rfl⟩
      rw [hPP] at f0
      have HPP := hide hPP
      clear hPP f1 f2 f3 f4 hd hh hm9
      by_cases hk : P < key
      · have hki : (P : Int) < (key : Int) := by omega
        have HK : Hid (∀ k, k < m + 1 → (ps.getD k noPlc).key < key) := by
          intro k hk2
          rcases Nat.lt_or_ge k m with h9 | h9
          · have := HRI.out k m h9 (by rw [HN.out]; exact hmn)
            rw [HPP.out] at this
            omega
          · obtain rfl : k = m := by omega
            rw [HPP.out]; exact hk
        clear hk
        go_wp2_with fail
        go_round
        case rel => exact ⟨m + 1, b, by have := HMB.out; omega, hbn, by go_num, rfl, HK, hU⟩
        case measure => have := HMB.out; simp [intOf]; omega
      · have hki : ¬ (P : Int) < (key : Int) := by omega
        have HK : Hid (∀ k, m ≤ k → k < n → key ≤ (ps.getD k noPlc).key) := by
          intro k hk2 hk3
          rcases Nat.lt_or_ge m k with h9 | h9
          · have := HRI.out m k h9 (by rw [HN.out]; exact hk3)
            rw [HPP.out] at this
            omega
          · obtain rfl : k = m := by omega
            rw [HPP.out]; omega
        clear hk
        go_wp2_with fail
        go_round
        case rel => exact ⟨a, m, by have := HMB.out; omega, by omega, rfl, rfl, hL, HK⟩
        case measure => have := HMB.out; simp [intOf]; omega
    · obtain rfl : a = b := by omega
      have a0 := B0.out.cell 0
      have a1 := B0.out.cell 1
      have a2 := B0.out.cell 2
      have a3 := B0.out.cell 3
      have a4 := B0.out.cell 4
      have g0 := B0.out.frozen 0
      have g1 := B0.out.frozen 1
      have g2 := B0.out.frozen 2
      have g3 := B0.out.frozen 3
      have g4 := B0.out.frozen 4
      dsimp only [List.getElem?_cons_zero, List.getElem?_cons_succ] at a0 a1 a2 a3 a4
      by_cases han : a = n
      · subst han
        go_wp2_with fail
        have q := five_set B0.out noPlc
        have kq := five_below K0.out (Nat.le_of_eq HZ.out.symm) noPlc
        unfold noPlc at q kq
        dsimp only at q kq
        generalize ((((W.setCell ⟨z, 0, none⟩ (.int .u64 0)).setCell ⟨z, 1, none⟩ (.int .i64 0)).setCell ⟨z, 2, none⟩ (.int .i64 0)).setCell ⟨z, 3, none⟩ (.int .u32 0)).setCell ⟨z, 4, none⟩ (.bool false) = X at q kq ⊢
        have q0 := q.cell 0
        have q1 := q.cell 1
        have q2 := q.cell 2
        have q3 := q.cell 3
        have q4 := q.cell 4
        dsimp only [List.getElem?_cons_zero, List.getElem?_cons_succ] at q0 q1 q2 q3 q4
        refine bodyPost_ret (v := .tuple #[plcV noPlc, .bool false]) (by simp [results, Try.results10, go_sem, q0, q1, q2, q3, q4, plcV, noPlc]) rfl ⟨⟨_, _, rfl, .inr ⟨fun i hi => by have := hL.out i (by rw [← HN.out]; exact hi); omega, rfl, rfl⟩⟩, kq⟩
      · have hani : ((a : Int) == (n : Int)) = false := by rw [beq_eq_false_iff_ne]; omega
        have hlt2 : a < n := by omega
        have hlti : (a : Int) < (n : Int) := by omega
        obtain ⟨bb, o, rfl, f0, f1, f2, f3, f4⟩ := HA.out a (by rw [HN.out]; exact hlt2)
        obtain ⟨P, hPP⟩ : ∃ P, ps.getD a noPlc = P := ⟨_, rfl⟩
        rw [hPP] at f0 f1 f2 f3 f4
        have HPP := hide hPP
        clear hPP
        by_cases hk : P.key = key
        · have hkz : ((P.key : Int) != (key : Int)) = false := by rw [hk]; simp
          have HK := hide hk
          clear hk
          go_wp2_with fail
          have q := five_set B0.out P
          have kq := five_below K0.out (Nat.le_of_eq HZ.out.symm) P
          generalize ((((W.setCell ⟨z, 0, none⟩ (.int .u64 (P.key : Int))).setCell ⟨z, 1, none⟩ (.int .i64 P.at_)).setCell ⟨z, 2, none⟩ (.int .i64 P.n)).setCell ⟨z, 3, none⟩ (.int .u32 (P.cook : Int))).setCell ⟨z, 4, none⟩ (.bool P.dead) = X at q kq ⊢
          have q0 := q.cell 0
          have q1 := q.cell 1
          have q2 := q.cell 2
          have q3 := q.cell 3
          have q4 := q.cell 4
          dsimp only [List.getElem?_cons_zero, List.getElem?_cons_succ] at q0 q1 q2 q3 q4
          refine bodyPost_ret (v := .tuple #[plcV P, .bool true]) (by simp [results, Try.results10, go_sem, q0, q1, q2, q3, q4, plcV]) rfl ⟨⟨_, _, rfl, .inl ⟨a, by rw [HN.out]; exact hlt2, by rw [HPP.out]; exact HK.out, by rw [HPP.out], rfl⟩⟩, kq⟩
        · have hkz : ((P.key : Int) != (key : Int)) = true := by rw [bne_iff_ne]; omega
          have HK := hide hk
          clear hk
          go_wp2_with fail
          have q := five_set B0.out noPlc
          have kq := five_below K0.out (Nat.le_of_eq HZ.out.symm) noPlc
          unfold noPlc at q kq
          dsimp only at q kq
          generalize ((((W.setCell ⟨z, 0, none⟩ (.int .u64 0)).setCell ⟨z, 1, none⟩ (.int .i64 0)).setCell ⟨z, 2, none⟩ (.int .i64 0)).setCell ⟨z, 3, none⟩ (.int .u32 0)).setCell ⟨z, 4, none⟩ (.bool false) = X at q kq ⊢
          have q0 := q.cell 0
          have q1 := q.cell 1
          have q2 := q.cell 2
          have q3 := q.cell 3
          have q4 := q.cell 4
          dsimp only [List.getElem?_cons_zero, List.getElem?_cons_succ] at q0 q1 q2 q3 q4
          refine bodyPost_ret (v := .tuple #[plcV noPlc, .bool false]) (by simp [results, Try.results10, go_sem, q0, q1, q2, q3, q4, plcV, noPlc]) rfl ⟨⟨_, _, rfl, .inr ⟨fun i hi => by
            rcases Nat.lt_trichotomy i a with h | h | h
            · have := hL.out i h; omega
            · rw [h, HPP.out]; exact HK.out
            · have := HRI.out a i h hi
              have h3 := hU.out a (Nat.le_refl _) hlt2
              omega, rfl, rfl⟩⟩, kq⟩
end Go.Proofs.Ytdbngchbhoanpaa
