/- What the document's own disk is in memory: a block of two cells, and a row of files. No condition but the widths; The contracts of the document's own New, IsName and spot. Condition: names no longer than the model's strings; Rows of files: what an append lays, what a store turns. No condition but the widths; What is laid, taken away, turned in a rising list, by its place; and the document's row turned in its cells. No condition but the widths. -/
import Derived.Test.YtmledochidefeaaK16
import Derived.Sort.Walk0
import Derived.Maps.AppendAt
namespace Go.Proofs.Ytmledochidefeaa
open Go.RowKit Go.Maps
/-- The cells of files in a row. -/
def cellsF : List (Str × Fil) → List Value
  | [] => []
  | p :: r => encStr p.1 :: p.2.1 :: .int .i64 (p.2.2.2 : Int) :: cellsF r
theorem cellsF_length : ∀ X : List (Str × Fil), (cellsF X).length = X.length * 3
  | [] => rfl
  | p :: r => by simp only [cellsF, List.length_cons, cellsF_length r]; omega
theorem cellsF_append : ∀ X Y : List (Str × Fil), cellsF (X ++ Y) = cellsF X ++ cellsF Y
  | [], _ => rfl
  | p :: r, Y => by simp [cellsF, cellsF_append r Y]
theorem cellsF_at : ∀ (X : List (Str × Fil)) (i : Nat) (h : i < X.length), (cellsF X)[i * 3]? = some (encStr X[i].1) ∧ (cellsF X)[i * 3 + 1]? = some X[i].2.1 ∧ (cellsF X)[i * 3 + 2]? = some (.int .i64 (X[i].2.2.2 : Int))
  | p :: r, 0, _ => by simp [cellsF]
  | p :: r, i + 1, h => by
    have h' : i < r.length := by simpa using h
    obtain ⟨h1, h2, h3⟩ := cellsF_at r i h'
    have e1 : (i + 1) * 3 = i * 3 + 3 := by omega
    have e2 : (i + 1) * 3 + 1 = i * 3 + 1 + 3 := by omega
    have e3 : (i + 1) * 3 + 2 = i * 3 + 2 + 3 := by omega
    rw [e1]
    refine ⟨?_, ?_, ?_⟩
    · simpa [cellsF] using h1
    · show (cellsF (p :: r))[i * 3 + 1 + 3]? = _
      simpa [cellsF] using h2
    · show (cellsF (p :: r))[i * 3 + 2 + 3]? = _
      simpa [cellsF] using h3
theorem cellsF_set1 : ∀ (X : List (Str × Fil)) (i : Nat) (h : i < X.length) (v : Value) (xs : List Nat), (cellsF X).set (i * 3 + 1) v = cellsF (X.set i (X[i].1, (v, xs, X[i].2.2.2)))
  | p :: r, 0, _, v, xs => by simp [cellsF]
  | p :: r, i + 1, h, v, xs => by
    have h' : i < r.length := by simpa using h
    have ih := cellsF_set1 r i h' v xs
    have e2 : (i + 1) * 3 + 1 = i * 3 + 1 + 3 := by omega
    rw [e2]
    simp only [cellsF, List.set_cons_succ, ih, List.getElem_cons_succ]
theorem cellsF_set2 : ∀ (X : List (Str × Fil)) (i : Nat) (h : i < X.length) (l : Nat), (cellsF X).set (i * 3 + 2) (.int .i64 (l : Int)) = cellsF (X.set i (X[i].1, (X[i].2.1, X[i].2.2.1, l)))
  | p :: r, 0, _, l => by simp [cellsF]
  | p :: r, i + 1, h, l => by
    have h' : i < r.length := by simpa using h
    have ih := cellsF_set2 r i h' l
    have e2 : (i + 1) * 3 + 2 = i * 3 + 2 + 3 := by omega
    rw [e2]
    simp only [cellsF, List.set_cons_succ, ih, List.getElem_cons_succ]
/-- The slice of files. -/
def OwnF (w : World) (B : Nat) (v : Value) (X : List (Str × Fil)) : Prop := w.ownsRow B 70 3 v X.length (cellsF X)
/-- The document's disk in block p. -/
structure RShell (w : World) (G : Nat → Prop) (p room : Nat) (v : Value) (X : List (Str × Fil)) : Prop where
  cells : Blk w 0 57 p [.int .i64 (room : Int), v]
  row : OwnF w 0 v X
  mine : ∀ g, v.ownBlock = some g → G g
  own : G p
  low : ∀ k, G k → k < w.heap.size
  each : ∀ q ∈ X, Own w 0 q.2.1 q.2.2.1 ∧ (∀ g, q.2.1.ownBlock = some g → G g) ∧ ∀ x ∈ q.2.2.1, x < 256
def RAt (w : World) (G : Nat → Prop) (p room : Nat) (L : DiskL) : Prop := ∃ v X, L = absX X ∧ RShell w G p room v X
theorem rise_abs {X : List (Str × Fil)} (h : Rise (absX X)) : Rise X := by
  unfold Rise absX mapK at h
  rw [List.pairwise_map] at h
  exact h
theorem OwnF.turn {S : Nat → Prop} {w w' : World} {B : Nat} {v : Value} {X : List (Str × Fil)} (h : OwnF w B v X) (t : Turn S w w') (ho : Off S v) : OwnF w' B v X := by
  unfold OwnF at h ⊢
  refine ⟨h.1, ?_⟩
  rcases h.2 with hn | ⟨g, cap, cur, hv, h1, h2, r⟩
  · exact .inl hn
  · refine .inr ⟨g, cap, cur, hv, h1, ?_, r⟩
    rw [t.block g (heap_lt h2) (ho g (by rw [hv]; rfl))]
    exact h2
theorem RShell.turn {S : Nat → Prop} {w w' : World} {G : Nat → Prop} {p room : Nat} {v : Value} {X : List (Str × Fil)} (h : RShell w G p room v X) (t : Turn S w w') (hS : ∀ g, G g → ¬ S g) : RShell w' G p room v X :=
  ⟨h.cells.turn t (hS p h.own), h.row.turn t (fun g hg => hS g (h.mine g hg)), h.mine, h.own, fun k hk => Nat.lt_of_lt_of_le (h.low k hk) t.size,
    fun q hq => ⟨(h.each q hq).1.turn t (fun g hg => hS g ((h.each q hq).2.1 g hg)), (h.each q hq).2⟩⟩
theorem RShell.below {w w' : World} {G : Nat → Prop} {p room : Nat} {v : Value} {X : List (Str × Fil)} (h : RShell w G p room v X) (k : Below w.heap.size w w') : RShell w' G p room v X := h.turn (S := fun _ => False) (Turn.of_below _ k) (fun _ _ => id)
theorem RAt.turn {S : Nat → Prop} {w w' : World} {G : Nat → Prop} {p room : Nat} {L : DiskL} (h : RAt w G p room L) (t : Turn S w w') (hS : ∀ g, G g → ¬ S g) : RAt w' G p room L := by
  obtain ⟨v, X, e, h⟩ := h
  exact ⟨v, X, e, h.turn t hS⟩
theorem RAt.below {w w' : World} {G : Nat → Prop} {p room : Nat} {L : DiskL} (h : RAt w G p room L) (k : Below w.heap.size w w') : RAt w' G p room L := h.turn (S := fun _ => False) (Turn.of_below _ k) (fun _ _ => id)
theorem RAt.low {w : World} {G : Nat → Prop} {p room : Nat} {L : DiskL} (h : RAt w G p room L) : ∀ k, G k → k < w.heap.size := by
  obtain ⟨v, X, e, h⟩ := h
  exact h.low
/-- The form of the row, and each of its cells. -/
theorem RShell.form {w : World} {G : Nat → Prop} {p room : Nat} {v : Value} {X : List (Str × Fil)} (h : RShell w G p room v X) : ∃ A c, v = .slice A X.length c ∧ X.length ≤ c ∧ c ≤ 9223372036854775807 ∧ (A = none → c = 0) ∧
    ∀ i (hi : i < X.length), ∃ g, A = some ⟨g, 0, none⟩ ∧ G g ∧ g < w.heap.size ∧ w.cell? ⟨g, i * 3, none⟩ = some (encStr X[i].1) ∧ w.cell? ⟨g, i * 3 + 1, none⟩ = some X[i].2.1 ∧ w.cell? ⟨g, i * 3 + 2, none⟩ = some (.int .i64 (X[i].2.2.2 : Int)) ∧ ∀ j, w.frozen? ⟨g, j, none⟩ = false := by
  have hr := h.row
  unfold OwnF at hr
  rcases hr.2 with ⟨rfl, hn⟩ | ⟨g, cap, cur, rfl, hb, hg, h1, h2, _⟩
  · exact ⟨none, 0, by rw [hn], by omega, by decide, fun _ => rfl, fun i hi => by omega⟩
  · refine ⟨_, cap, rfl, h1, by unfold maxLen at h2; omega, (fun e => by cases e), fun i hi => ?_⟩
    have hl := cellsF_length X
    obtain ⟨q0, q1, q2⟩ := cellsF_at X i hi
    exact ⟨g, rfl, h.mine g rfl, heap_lt hg, by rw [World.ownsRow.cellAt hr _ (by omega)]; exact q0, by rw [World.ownsRow.cellAt hr _ (by omega)]; exact q1, by rw [World.ownsRow.cellAt hr _ (by omega)]; exact q2, fun j => World.ownsRow.frozenAt hr j⟩
/-- How many names stand ahead of a name. -/
def posK {α : Type} (k : Str) (l : List (Str × α)) : Nat := (l.takeWhile fun p => bytesBefore p.1 k).length
theorem pos_unique {α : Type} {k : Str} : ∀ {l : List (Str × α)} {j : Nat}, j ≤ l.length → (∀ i (h : i < l.length), i < j → bytesBefore l[i].1 k = true) → (∀ h : j < l.length, bytesBefore l[j].1 k = false) → j = posK k l
  | [], j, h, _, _ => by simp at h; simp [h, posK]
  | y :: r, 0, _, _, h2 => by
    have := h2 (by simp)
    simp only [List.getElem_cons_zero] at this
    simp [posK, this]
  | y :: r, j + 1, h, h1, h2 => by
    have h0 := h1 0 (by simp) (by omega)
    simp only [List.getElem_cons_zero] at h0
    have ih := pos_unique (k := k) (l := r) (j := j) (by simpa using h) (fun i hi hij => by
      have := h1 (i + 1) (by simpa using hi) (by omega)
      simpa using this) (fun hj => by
      have := h2 (by simpa using hj)
      simpa using this)
    unfold posK at ih ⊢
    rw [List.takeWhile_cons, h0]
    simp only [if_true, List.length_cons]
    omega
theorem less_is (k : Str) (s : ByteArray) : Op.bytesLess k s.toList = bytesBefore k s.data.toList := by
  rw [Lib.toList_data]
  generalize s.data.toList = y
  induction k generalizing y with
  | nil => cases y <;> rfl
  | cons u x ih =>
    cases y with
    | nil => rfl
    | cons v y =>
      simp only [Op.bytesLess, bytesBefore, ih]
theorem same_is (k : List UInt8) (s : ByteArray) : (k == s.toList) = decide (k = s.data.toList) := by
  rw [Lib.toList_data]
  by_cases h : k = s.data.toList
  · rw [decide_eq_true h, beq_iff_eq]
    exact h
  · rw [decide_eq_false h, beq_eq_false_iff_ne]
    exact h
theorem pos_some {α : Type} {X : List (Str × α)} (hr : Rise X) {k : Str} {j : Nat} (hj : j < X.length) (hb : ∀ i (h : i < X.length), i < j → bytesBefore X[i].1 k = true) (hn : bytesBefore X[j].1 k = false) : (getK k X).isSome = decide (X[j].1 = k) := by
  by_cases e : X[j].1 = k
  · rw [decide_eq_true e, ← e, getK_at hr j hj]
    rfl
  · rw [decide_eq_false e]
    rcases hg : getK k X with _ | a
    · rfl
    · obtain ⟨m, hm, he⟩ := List.mem_iff_getElem.1 (getK_mem hg)
      have hk : X[m].1 = k := by rw [he]
      exfalso
      rcases Nat.lt_trichotomy m j with h | h | h
      · have := hb m hm h
        rw [hk, WideAt.bytes_irrefl] at this
        cases this
      · subst h
        exact e hk
      · have := List.pairwise_iff_getElem.1 hr j m hj hm h
        rw [hk, hn] at this
        cases this
theorem pos_none {α : Type} {X : List (Str × α)} {k : Str} (hb : ∀ i (h : i < X.length), bytesBefore X[i].1 k = true) : getK k X = none := by
  rcases hg : getK k X with _ | a
  · rfl
  · obtain ⟨m, hm, he⟩ := List.mem_iff_getElem.1 (getK_mem hg)
    have hk : X[m].1 = k := by rw [he]
    have := hb m hm
    rw [hk, WideAt.bytes_irrefl] at this
    cases this
end Go.Proofs.Ytmledochidefeaa
namespace Go.Proofs.Ytmledochidefeaa
open Go.RowKit Go.Maps Go.Sort
theorem rnew_any (room : Nat) (w : World) (_h : room ≤ 1073741824) :
    Calls Try.prog 10 #[.int .i64 (room : Int)] w fun e w' => ∃ p G, e = .returned (.tuple #[.pointer (some ⟨p, 0, none⟩), .int .i64 0]) ∧ RAt w' G p room [] ∧ (∀ k, G k → w.heap.size ≤ k) ∧ Below w.heap.size w w' := by
  go_enter Try.func10, Try.ntmps10
  go_wp2_with fail
  go_ret2
  refine ⟨w.heap.size, fun k => k = w.heap.size, rfl, ⟨.slice none 0 0, [], rfl, ⟨Blk.new (B := 0) w _ _ (Nat.zero_le _), World.ownsRow_nil _ _ _ _, (fun g hg => by simp [Value.ownBlock] at hg), rfl, ?_, (fun q hq => by cases hq)⟩⟩, fun k hk => by omega, below_alloc _ _⟩
  rintro k rfl
  simp
theorem rnew_bad (z : Int) (w : World) (h : z < 0 ∨ 1073741824 < z) :
    Calls Try.prog 10 #[.int .i64 z] w fun e w' => e = .returned (.tuple #[.pointer none, .int .i64 1]) ∧ w = w' := by
  rcases h with h | h
  · go_enter Try.func10, Try.ntmps10
    go_wp2_with fail
    go_ret2
    exact ⟨rfl, rfl⟩
  · have h0 : ¬ z < 0 := by omega
    go_enter Try.func10, Try.ntmps10
    go_wp2_with fail
    go_ret2
    exact ⟨rfl, rfl⟩
theorem rIsName_any (s : ByteArray) (w : World) (_hs : s.size ≤ 9223372036854775807) :
    Calls Try.prog 51 #[.string s] w fun e w' => e = .returned (.bool (decide (1 ≤ s.size ∧ s.size ≤ 64))) ∧ w = w' := by
  by_cases h1 : 1 ≤ s.size
  · have e : decide (1 ≤ s.size ∧ s.size ≤ 64) = decide ((s.size : Int) ≤ 64) := by
      rw [decide_eq_decide]
      omega
    rw [e]
    clear e
    go_enter Try.func51, Try.ntmps51
    go_wp2
    go_ret
    exact ⟨rfl, rfl⟩
  · have e : decide (1 ≤ s.size ∧ s.size ≤ 64) = false := decide_eq_false (fun h => h1 h.1)
    rw [e]
    clear e
    go_enter Try.func51, Try.ntmps51
    go_wp2
    go_ret
    exact ⟨rfl, rfl⟩
theorem pos_le {α : Type} (k : Str) (l : List (Str × α)) : posK k l ≤ l.length := by
  unfold posK
  exact List.Sublist.length_le (List.takeWhile_sublist _)
set_option maxRecDepth 100000 in
set_option maxHeartbeats 1600000 in
theorem spot_any (G : Nat → Prop) (p room : Nat) (v : Value) (X : List (Str × Fil)) (s : ByteArray) (w : World) (h : RShell w G p room v X) (hrise : Rise X) :
    Calls Try.prog 49 #[.pointer (some ⟨p, 0, none⟩), .string s] w fun e w' => e = .returned (.tuple #[.int .i64 ((posK s.data.toList X : Nat) : Int), .bool (getK s.data.toList X).isSome]) ∧ ∃ d, w' = w.drewN d := by
  obtain ⟨A, c, rfl, hlc, hc63, _, hcell⟩ := h.form
  have c1 : w.cell? ⟨p, 1, none⟩ = some (.slice A X.length c) := h.cells.cell 1
  have HX := hide h
  have HRI := hide hrise
  obtain ⟨N, hN⟩ : ∃ N, N = X.length := ⟨_, rfl⟩
  rw [← hN] at c1 hlc
  have HN := hide hN
  have HC := hide hcell
  clear h hcell hN hrise
  go_enter Try.func49, Try.ntmps49
  go_wp2_with fail
  go_loopw [6] (fun i wr => ∃ j : Nat, j ≤ N ∧ i = .int .i64 (j : Int) ∧ Hid (∀ i (h : i < X.length), i < j → bytesBefore X[i].1 s.data.toList = true) ∧ wr = w) (fun i _ => N - (intOf i).toNat)
  case atStart => exact ⟨0, Nat.zero_le _, rfl, (fun i h h0 => by omega), rfl⟩
  case round =>
    obtain ⟨j, hj, rfl, hb, rfl⟩ := hrel
    by_cases hlt : j < N
    · have hjX : j < X.length := by rw [← HN.out]; exact hlt
      obtain ⟨g, rfl, _, hgl, q0, q1, q2, _⟩ := HC.out j hjX
      obtain ⟨k, hk⟩ : ∃ k, k = X[j].1 := ⟨_, rfl⟩
      rw [← hk] at q0
      have hless := less_is k s
      have hsame := same_is k s
      have hpos := pos_some HRI.out hjX hb.out
      have huni := pos_unique (k := s.data.toList) (by omega : j ≤ X.length) hb.out
      rw [← hk] at hpos
      have hkn := hk
      clear hk q1 q2
      rcases hbb : bytesBefore k s.data.toList with _ | _
      · have hl : Op.bytesLess k s.toList = false := hless.trans hbb
        have HI : Hid ((getK s.data.toList X).isSome = decide (k = s.data.toList)) := hpos hbb
        have HJ : Hid (j = posK s.data.toList X) := huni (fun _ => by rw [← hkn]; exact hbb)
        have hq : (k == s.toList) = true ∧ k = s.data.toList ∨ (k == s.toList) = false ∧ ¬ k = s.data.toList := by
          by_cases e : k = s.data.toList
          · exact .inl ⟨by rw [hsame]; exact decide_eq_true e, e⟩
          · exact .inr ⟨by rw [hsame]; exact decide_eq_false e, e⟩
        clear hless hsame hpos huni hkn hbb
        rcases hq with ⟨hq, hke⟩ | ⟨hq, hke⟩
        all_goals
          have HKE := hide hke
          clear hke
          go_wp2_with fail
          go_region
          go_wp2_with fail
          go_ret2
          refine ⟨?_, 1, rfl⟩
          rw [HI.out, ← HJ.out]
          first
            | (rw [decide_eq_true HKE.out]; rfl)
            | (rw [decide_eq_false HKE.out]; rfl)
      · have hl : Op.bytesLess k s.toList = true := hless.trans hbb
        have HB : Hid (∀ i (h : i < X.length), i < j + 1 → bytesBefore X[i].1 s.data.toList = true) := fun i h hij => by
          by_cases e : i = j
          · subst e
            rw [← hkn]
            exact hbb
          · exact hb.out i h (by omega)
        clear hless hsame hpos huni hkn hbb
        go_wp2_with fail
        go_roundw
        case rel => exact ⟨j + 1, by omega, by go_num, HB, trivial⟩
        case measure => simp [intOf]; omega
    · obtain rfl : j = N := by omega
      have hall : ∀ i (h : i < X.length), bytesBefore X[i].1 s.data.toList = true := fun i h => hb.out i h (by rw [HN.out]; exact h)
      have HI := hide (pos_none hall)
      have HJ : Hid (j = posK s.data.toList X) := pos_unique (by rw [HN.out]; exact Nat.le_refl _) hb.out (fun h => by rw [HN.out] at h; omega)
      go_wp2_with fail
      go_region
      go_wp2_with fail
      go_ret2
      exact ⟨by rw [HI.out, ← HJ.out]; rfl, 1, rfl⟩
end Go.Proofs.Ytmledochidefeaa
namespace Go.Proofs.Ytmledochidefeaa
open Go.RowKit Go.Maps
theorem Try.info_file : (Try.prog.info? 70).map (fun i => (i.zero, i.size, i.bytes)) = some (some (.agg #[.string ⟨#[]⟩, .slice none 0 0, .int .i64 0]), 3, 48) := by kernel_rfl
/-- A slice that reads as files. -/
def IsF (w : World) (u : Value) (Y : List (Str × Fil)) : Prop :=
  (∃ A c, u = .slice A Y.length c ∧ (A = none → c = 0 ∧ Y = []) ∧ ∀ ad, A = some ad → ∀ j z, (cellsF Y)[j]? = some z → w.cell? (ad.add j) = some z) ∧ ∀ z ∈ cellsF Y, z.oneCell' = true
theorem IsF.below {w w' : World} {u : Value} {Y : List (Str × Fil)} (h : IsF w u Y) (k : Below w.heap.size w w') : IsF w' u Y := by
  obtain ⟨⟨A, c, e, h1, h2⟩, h3⟩ := h
  exact ⟨⟨A, c, e, h1, fun ad ha j z hz => by
    have := h2 ad ha j z hz
    exact (k.cell (cell_lt this)).trans this⟩, h3⟩
theorem one_cells {w : World} : ∀ {X : List (Str × Fil)}, (∀ q ∈ X, Own w 0 q.2.1 q.2.2.1) → ∀ z ∈ cellsF X, z.oneCell' = true
  | [], _, z, hz => by cases hz
  | p :: r, h, z, hz => by
    simp only [cellsF, List.mem_cons] at hz
    rcases hz with rfl | rfl | rfl | hz
    · rfl
    · obtain ⟨A, c, e, _⟩ := (h p (by simp)).form
      rw [e]
      rfl
    · rfl
    · exact one_cells (fun q hq => h q (by simp [hq])) z hz
theorem cellsF_take (X : List (Str × Fil)) (i : Nat) (hi : i ≤ X.length) : cellsF (X.take i) = (cellsF X).take (i * 3) := by
  have h := cellsF_append (X.take i) (X.drop i)
  rw [List.take_append_drop] at h
  rw [h, List.take_left']
  rw [cellsF_length, List.length_take]
  congr 1
  omega
theorem cellsF_drop (X : List (Str × Fil)) (i : Nat) (hi : i ≤ X.length) : cellsF (X.drop i) = (cellsF X).drop (i * 3) := by
  have h := cellsF_append (X.take i) (X.drop i)
  rw [List.take_append_drop] at h
  rw [h, List.drop_left']
  rw [cellsF_length, List.length_take]
  congr 1
  omega
theorem OwnF.take {w : World} {B : Nat} {A : Option Addr} {c : Nat} {X : List (Str × Fil)} (h : OwnF w B (.slice A X.length c) X) (h1 : ∀ q ∈ X, Own w 0 q.2.1 q.2.2.1) (i : Nat) (hi : i ≤ X.length) : IsF w (.slice A i c) (X.take i) := by
  have hl : (X.take i).length = i := by rw [List.length_take]; omega
  refine ⟨⟨A, c, by rw [hl], fun e => ?_, fun ad e j z hz => ?_⟩, one_cells fun q hq => h1 q (List.mem_of_mem_take hq)⟩
  · subst e
    unfold OwnF at h
    rcases h.2 with ⟨e, hn⟩ | ⟨g, cap, cur, e, _⟩
    · simp only [Value.slice.injEq] at e
      have : X = [] := List.eq_nil_of_length_eq_zero hn
      exact ⟨e.2.2, by rw [this]; simp⟩
    · simp at e
  · subst e
    rw [cellsF_take X i hi, List.getElem?_take] at hz
    split at hz
    · unfold OwnF at h
      rcases h.2 with ⟨e, hn⟩ | ⟨g, cap, cur, e, _⟩
      · simp at e
      · simp only [Value.slice.injEq, Option.some.injEq] at e
        obtain ⟨rfl, _, _⟩ := e
        rw [add_off, Nat.zero_add]
        have hj : j < (cellsF X).length := (List.getElem?_eq_some_iff.1 hz).1
        rw [World.ownsRow.cellAt h j (by rw [cellsF_length] at hj; exact hj)]
        exact hz
    · cases hz
theorem OwnF.drop {w : World} {B : Nat} {A : Option Addr} {c : Nat} {X : List (Str × Fil)} (h : OwnF w B (.slice A X.length c) X) (h1 : ∀ q ∈ X, Own w 0 q.2.1 q.2.2.1) (i : Nat) (hi : i ≤ X.length) (A' : Option Addr) (hA : A = none ∧ A' = none ∨ ∃ g, A = some ⟨g, 0, none⟩ ∧ A' = some ⟨g, if c = i then 0 else i * 3, none⟩) :
    IsF w (.slice A' (X.length - i) (c - i)) (X.drop i) := by
  have hl : (X.drop i).length = X.length - i := List.length_drop
  refine ⟨⟨A', c - i, by rw [hl], fun e => ?_, fun ad e j z hz => ?_⟩, one_cells fun q hq => h1 q (List.mem_of_mem_drop hq)⟩
  · subst e
    rcases hA with ⟨rfl, _⟩ | ⟨g, _, e⟩
    · unfold OwnF at h
      rcases h.2 with ⟨e, hn⟩ | ⟨g, cap, cur, e, _⟩
      · simp only [Value.slice.injEq] at e
        have : X = [] := List.eq_nil_of_length_eq_zero hn
        exact ⟨by omega, by rw [this]; simp⟩
      · simp at e
    · cases e
  · subst e
    rw [cellsF_drop X i hi, List.getElem?_drop] at hz
    have hj : i * 3 + j < (cellsF X).length := (List.getElem?_eq_some_iff.1 hz).1
    rw [cellsF_length] at hj
    rcases hA with ⟨_, e⟩ | ⟨g, rfl, e⟩
    · cases e
    · unfold OwnF at h
      rcases h.2 with ⟨e', hn⟩ | ⟨g', cap, cur, e', _, _, hcap, _⟩
      · simp at e'
      · simp only [Value.slice.injEq, Option.some.injEq, Addr.mk.injEq] at e'
        obtain ⟨⟨rfl, _, _⟩, hn', hc'⟩ := e'
        subst hc'
        rw [if_neg (by omega)] at e
        cases e
        rw [add_off, World.ownsRow.cellAt h _ (by omega)]
        exact hz
theorem isF_nil (w : World) : IsF w (.slice none 0 0) [] := ⟨⟨none, 0, rfl, fun _ => ⟨rfl, rfl⟩, fun ad e => by cases e⟩, fun z hz => by cases hz⟩
/-- One file in a block that has just been laid. -/
theorem isF_one (w : World) (k : Str) (A : Option Addr) (n c : Nat) (xs : List Nat) (l b : Nat) (hb : b = w.heap.size) :
    IsF (w.alloc (.cells #[encStr k, .slice A n c, .int .i64 (l : Int)] 70)) (.slice (some ⟨b, 0, none⟩) 1 1) [(k, (.slice A n c, xs, l))] := by
  subst hb
  refine ⟨⟨_, 1, rfl, (fun e => by cases e), fun ad e j z hz => ?_⟩, fun z hz => ?_⟩
  · cases e
    rw [add_off, Nat.zero_add, cell_of_row _ _ _ _ _ (0, 0) (heap_alloc_new w _)]
    rw [← Array.getElem?_toList]
    exact hz
  · simp only [cellsF, List.mem_cons] at hz
    rcases hz with rfl | rfl | rfl | hz
    · rfl
    · rfl
    · rfl
    · cases hz
theorem OwnF.empty (w : World) : OwnF (w.alloc (.cells #[] 70)) w.heap.size (.slice (some ⟨w.heap.size, 0, none⟩) 0 0) [] := by
  unfold OwnF
  exact ⟨rfl, .inr ⟨_, 0, #[], rfl, Nat.le_refl _, heap_alloc_new w _, Nat.le_refl _, Nat.zero_le _, rfl, rfl⟩⟩
theorem wpList_append_files {w : World} {ops : Array Oper} {rest : List Oper} {o : Oper} {a : Act} {Q : Exit → Act → World → Prop} (hgd : o.guard = none) (s x : Operand)
    (ho : o.op = .call { callee := .builtin .append, args := #[s, x], argTypes := #[55, 55] })
    (B : Nat) (v : Value) (X : List (Str × Fil)) (hs : a.eval s = v) (hown : OwnF w B v X)
    (u : Value) (Y : List (Str × Fil)) (hx : a.eval x = u) (hr : IsF w u Y)
    (hlen : X.length + Y.length ≤ 1073741824) (hbase : B ≤ w.heap.size)
    (h : ∀ v' w', OwnF w' B v' (X ++ Y) → w.grownBy w' v.ownBlock → Below B w w' → (v'.ownBlock = v.ownBlock ∨ v'.ownBlock = some w.heap.size) → wpList Try.prog ops Q rest (a.put o.dst v') w') : wpList Try.prog ops Q (o :: rest) a w := by
  obtain ⟨i0, hi, hz0, hz1, hz2⟩ := info_parts Try.info_file
  obtain ⟨⟨A, c, rfl, hn, hc⟩, h1⟩ := hr
  have fin : ∀ v' w', w'.ownsRow B 70 3 v' (X.length + Y.length) (cellsF X ++ cellsF Y) → w.grownBy w' v.ownBlock → (v'.ownBlock = v.ownBlock ∨ v'.ownBlock = some w.heap.size) → wpList Try.prog ops Q rest (a.put o.dst v') w' := by
    intro v' w' hown' hg hl
    exact h v' w' (by unfold OwnF; rw [List.length_append, cellsF_append]; exact hown') hg ((Below.refl _ _).grown hg hbase fun k hk => (hown.lt k hk).1) hl
  rcases A with _ | ad
  · obtain ⟨rfl, rfl⟩ := hn rfl
    exact wpList_append_own_none hgd s x _ ho B 70 i0 3 Try.underlying55 hi v _ _ hs hown hx (fin v w (by simpa [cellsF, OwnF] using hown) (World.grownBy.refl w _) (.inl rfl))
  · exact wpList_append_own_at w hgd s x _ ho B 70 i0 _ 3 48 Try.underlying55 hi hz0 hz1 hz2 rfl (by decide) v _ _ hs hown ad Y.length c (cellsF Y) hx (cellsF_length Y) (hc ad rfl) h1 (by unfold maxLen; omega) (by omega) hbase (fun v' w' h1 h2 _ h4 => fin v' w' h1 h2 h4)
/-- A row is stored into the disk. -/
theorem RShell.newrow {w : World} {G : Nat → Prop} {p room : Nat} {v v' : Value} {X Y : List (Str × Fil)} (h : RShell w G p room v X) (hv : OwnF w 0 v' Y) (hm : ∀ g, v'.ownBlock = some g → G g)
    (he : ∀ q ∈ Y, Own w 0 q.2.1 q.2.2.1 ∧ (∀ g, q.2.1.ownBlock = some g → G g) ∧ ∀ x ∈ q.2.2.1, x < 256) : RShell (w.setCell ⟨p, 1, none⟩ v') G p room v' Y := by
  have gs := grown_set w p 1 v'
  have hu : U8 w (w.setCell ⟨p, 1, none⟩ v') := u8_set h.cells (by decide)
  refine ⟨h.cells.stored 1 v', hv.turn (Turn.of_grown gs) (fun g hg e => ?_), hm, h.own, fun k hk => by simpa using h.low k hk, fun q hq => ⟨hu.own (he q hq).1, (he q hq).2⟩⟩
  have e : g = p := by simpa using e
  subst e
  unfold OwnF at hv
  rcases hv.2 with ⟨rfl, _⟩ | ⟨g', cap, cur, rfl, _, hh, _⟩
  · simp [Value.ownBlock] at hg
  · have e2 : g' = g := by simpa [Value.ownBlock] using hg
    subst e2
    obtain ⟨_, c3, h3, _⟩ := h.cells
    rw [hh] at h3
    simp only [Option.some.injEq, Obj.cells.injEq] at h3
    exact absurd h3.2.1 (by decide)
theorem OwnF.down {w : World} {B B' : Nat} {v : Value} {X : List (Str × Fil)} (h : OwnF w B v X) (hb : B' ≤ B) : OwnF w B' v X := ownsRow_down h hb
theorem OwnF.lt {w : World} {B : Nat} {v : Value} {X : List (Str × Fil)} (h : OwnF w B v X) : ∀ g, v.ownBlock = some g → B ≤ g ∧ g < w.heap.size := World.ownsRow.lt h
theorem RShell.more {w : World} {G G' : Nat → Prop} {p room : Nat} {v : Value} {X : List (Str × Fil)} (h : RShell w G p room v X) (hG : ∀ k, G k → G' k) (hl : ∀ k, G' k → k < w.heap.size) : RShell w G' p room v X :=
  ⟨h.cells, h.row, fun g hg => hG g (h.mine g hg), hG p h.own, hl, fun q hq => ⟨(h.each q hq).1, fun g hg => hG g ((h.each q hq).2.1 g hg), (h.each q hq).2.2⟩⟩
end Go.Proofs.Ytmledochidefeaa
namespace Go.Proofs.Ytmledochidefeaa
open Go.RowKit Go.Maps
section
variable {α : Type}
theorem before_asym {a b : Str} (h : bytesBefore a b = true) : bytesBefore b a = false := by
  rcases hb : bytesBefore b a with _ | _
  · rfl
  · have := WideShapes.bytes_trans _ _ _ h hb
    rw [WideAt.bytes_irrefl] at this
    cases this
theorem posK_cons_lt {k : Str} {y : Str × α} {r : List (Str × α)} (h : bytesBefore y.1 k = true) : posK k (y :: r) = posK k r + 1 := by
  simp [posK, h]
theorem posK_cons_ge {k : Str} {y : Str × α} {r : List (Str × α)} (h : bytesBefore y.1 k = false) : posK k (y :: r) = 0 := by
  simp [posK, h]
theorem ins_at (k : Str) (a : α) : ∀ {l : List (Str × α)}, (∀ p ∈ l, p.1 ≠ k) → insK (k, a) l = l.take (posK k l) ++ (k, a) :: l.drop (posK k l)
  | [], _ => rfl
  | y :: r, h => by
    have hy := h y (by simp)
    unfold insK
    by_cases hb : bytesBefore k y.1 = true
    · rw [if_pos hb, posK_cons_ge (before_asym hb)]
      rfl
    · rw [if_neg hb]
      have hb' : bytesBefore y.1 k = true := by
        rcases WideAt.bytes_total k y.1 hy.symm with h' | h'
        · exact absurd h' hb
        · exact h'
      rw [posK_cons_lt hb', ins_at k a (fun p hp => h p (by simp [hp]))]
      rfl
theorem get_at {k : Str} : ∀ {l : List (Str × α)} {a : α}, Rise l → getK k l = some a → l[posK k l]? = some (k, a)
  | [], a, _, h => by cases h
  | y :: r, a, hr, h => by
    obtain ⟨h1, h2⟩ := List.pairwise_cons.1 hr
    rcases List.mem_cons.1 (getK_mem h) with e | hm
    · subst e
      rw [posK_cons_ge (show bytesBefore (k, _).1 k = false from WideAt.bytes_irrefl k)]
      rfl
    · have hb := h1 _ hm
      rw [posK_cons_lt hb, List.getElem?_cons_succ]
      exact get_at h2 (mem_getK h2 hm)
theorem del_at {k : Str} : ∀ {l : List (Str × α)} {a : α}, Rise l → getK k l = some a → delK k l = l.take (posK k l) ++ l.drop (posK k l + 1)
  | [], a, _, h => by cases h
  | y :: r, a, hr, h => by
    obtain ⟨h1, h2⟩ := List.pairwise_cons.1 hr
    rcases List.mem_cons.1 (getK_mem h) with e | hm
    · subst e
      rw [posK_cons_ge (show bytesBefore (k, _).1 k = false from WideAt.bytes_irrefl k)]
      have hd : delK k r = r := by
        unfold delK
        rw [List.filter_eq_self]
        intro p hp
        have := before_ne (h1 p hp)
        simp [Ne.symm this]
      show delK k ((k, a) :: r) = _
      unfold delK at hd ⊢
      rw [List.filter_cons]
      simp [hd]
    · have hb := h1 _ hm
      rw [posK_cons_lt hb]
      have ih := del_at h2 (mem_getK h2 hm)
      have hne := before_ne hb
      unfold delK at ih ⊢
      rw [List.filter_cons, ih]
      simp [hne]
theorem put_at {k : Str} (b : α) : ∀ {l : List (Str × α)} {a : α}, Rise l → getK k l = some a → putK k b l = l.set (posK k l) (k, b)
  | [], a, _, h => by cases h
  | y :: r, a, hr, h => by
    obtain ⟨h1, h2⟩ := List.pairwise_cons.1 hr
    rcases List.mem_cons.1 (getK_mem h) with e | hm
    · subst e
      rw [posK_cons_ge (show bytesBefore (k, _).1 k = false from WideAt.bytes_irrefl k)]
      have hd : delK k ((k, a) :: r) = r := by
        unfold delK
        rw [List.filter_cons]
        simp only [beq_self_eq_true, Bool.not_true, Bool.false_eq_true, if_false]
        rw [List.filter_eq_self]
        intro p hp
        have := before_ne (h1 p hp)
        simp [Ne.symm this]
      unfold putK
      rw [hd, List.set_cons_zero]
      rcases r with _ | ⟨z, r⟩
      · rfl
      · unfold insK
        rw [if_pos (h1 z (by simp))]
    · have hb := h1 _ hm
      rw [posK_cons_lt hb]
      have ih := put_at b h2 (mem_getK h2 hm)
      have hne := before_ne hb
      unfold putK at ih ⊢
      have hd : delK k (y :: r) = y :: delK k r := by
        unfold delK
        rw [List.filter_cons]
        simp [hne]
      rw [hd]
      unfold insK
      rw [if_neg (by rw [before_asym hb]; simp), ih]
      rfl
end
theorem posK_abs (k : Str) (X : List (Str × Fil)) : posK k (absX X) = posK k X := by
  unfold posK absX mapK
  rw [List.takeWhile_map, List.length_map]
  rfl
theorem posK_get {α : Type} {k : Str} {l : List (Str × α)} {a : α} (hr : Rise l) (h : getK k l = some a) : ∃ hj : posK k l < l.length, l[posK k l] = (k, a) := by
  have := get_at hr h
  obtain ⟨h1, h2⟩ := List.getElem?_eq_some_iff.1 this
  exact ⟨h1, h2⟩
/-- One file's bytes are turned. -/
theorem RShell.set1 {w : World} {G : Nat → Prop} {p room g c : Nat} {X : List (Str × Fil)} (h : RShell w G p room (.slice (some ⟨g, 0, none⟩) X.length c) X) (i : Nat) (hi : i < X.length) {u : Value} {xs : List Nat}
    (ho : Own w 0 u xs) (hm : ∀ b, u.ownBlock = some b → G b) (hb : ∀ x ∈ xs, x < 256) :
    RShell (w.setCell ⟨g, i * 3 + 1, none⟩ u) G p room (.slice (some ⟨g, 0, none⟩) X.length c) (X.set i (X[i].1, (u, xs, X[i].2.2.2))) := by
  have hr := h.row
  unfold OwnF at hr
  have hu : U8 w (w.setCell ⟨g, i * 3 + 1, none⟩ u) := by
    rcases hr.2 with ⟨e, _⟩ | ⟨g', cap, cur, e, _, hh, _⟩
    · simp at e
    · simp only [Value.slice.injEq, Option.some.injEq, Addr.mk.injEq] at e
      obtain ⟨⟨rfl, _⟩, _⟩ := e
      exact u8_set (cs := cur.toList) ⟨Nat.zero_le _, cur, hh, rfl⟩ (by decide)
  have hne : ¬ (some p = some g) := by
    intro e
    have e : p = g := by simpa using e
    subst e
    obtain ⟨_, c3, h3, _⟩ := h.cells
    rcases hr.2 with ⟨e, _⟩ | ⟨g', cap, cur, e, _, hh, _⟩
    · simp at e
    · simp only [Value.slice.injEq, Option.some.injEq, Addr.mk.injEq] at e
      obtain ⟨⟨rfl, _⟩, _⟩ := e
      rw [hh] at h3
      simp only [Option.some.injEq, Obj.cells.injEq] at h3
      exact absurd h3.2.1 (by decide)
  have hl : (X.set i (X[i].1, (u, xs, X[i].2.2.2))).length = X.length := List.length_set
  refine ⟨h.cells.turn (Turn.of_grown (grown_set w g (i * 3 + 1) u)) hne, ?_, h.mine, h.own, fun k hk => by simpa using h.low k hk, fun q hq => ?_⟩
  · have := (World.ownsRow.stored hr (i * 3 + 1) u).1
    rw [cellsF_set1 X i hi u xs] at this
    unfold OwnF
    rw [hl]
    exact this
  · rcases List.mem_or_eq_of_mem_set hq with hq | rfl
    · exact ⟨hu.own (h.each q hq).1, (h.each q hq).2⟩
    · exact ⟨hu.own ho, hm, hb⟩
/-- .. and how many of them last. -/
theorem RShell.set2 {w : World} {G : Nat → Prop} {p room g c : Nat} {X : List (Str × Fil)} (h : RShell w G p room (.slice (some ⟨g, 0, none⟩) X.length c) X) (i : Nat) (hi : i < X.length) (l : Nat) :
    RShell (w.setCell ⟨g, i * 3 + 2, none⟩ (.int .i64 (l : Int))) G p room (.slice (some ⟨g, 0, none⟩) X.length c) (X.set i (X[i].1, (X[i].2.1, X[i].2.2.1, l))) := by
  have hr := h.row
  unfold OwnF at hr
  have hu : U8 w (w.setCell ⟨g, i * 3 + 2, none⟩ (.int .i64 (l : Int))) := by
    rcases hr.2 with ⟨e, _⟩ | ⟨g', cap, cur, e, _, hh, _⟩
    · simp at e
    · simp only [Value.slice.injEq, Option.some.injEq, Addr.mk.injEq] at e
      obtain ⟨⟨rfl, _⟩, _⟩ := e
      exact u8_set (cs := cur.toList) ⟨Nat.zero_le _, cur, hh, rfl⟩ (by decide)
  have hne : ¬ (some p = some g) := by
    intro e
    have e : p = g := by simpa using e
    subst e
    obtain ⟨_, c3, h3, _⟩ := h.cells
    rcases hr.2 with ⟨e, _⟩ | ⟨g', cap, cur, e, _, hh, _⟩
    · simp at e
    · simp only [Value.slice.injEq, Option.some.injEq, Addr.mk.injEq] at e
      obtain ⟨⟨rfl, _⟩, _⟩ := e
      rw [hh] at h3
      simp only [Option.some.injEq, Obj.cells.injEq] at h3
      exact absurd h3.2.1 (by decide)
  have hl : (X.set i (X[i].1, (X[i].2.1, X[i].2.2.1, l))).length = X.length := List.length_set
  refine ⟨h.cells.turn (Turn.of_grown (grown_set w g (i * 3 + 2) _)) hne, ?_, h.mine, h.own, fun k hk => by simpa using h.low k hk, fun q hq => ?_⟩
  · have := (World.ownsRow.stored hr (i * 3 + 2) (.int .i64 (l : Int))).1
    rw [cellsF_set2 X i hi l] at this
    unfold OwnF
    rw [hl]
    exact this
  · rcases List.mem_or_eq_of_mem_set hq with hq | rfl
    · exact ⟨hu.own (h.each q hq).1, (h.each q hq).2⟩
    · have := h.each X[i] (List.getElem_mem hi)
      exact ⟨hu.own this.1, this.2⟩
theorem step_append_files {w : World} {ops : Array Oper} {o : Oper} {a : Act} {K : Act → World → Prop} {Q : Exit → Act → World → Prop} {E : Prop} (hgd : o.guard = none) (s x : Operand)
    (ho : o.op = .call { callee := .builtin .append, args := #[s, x], argTypes := #[55, 55] })
    (B : Nat) (v : Value) (X : List (Str × Fil)) (hs : a.eval s = v) (hown : OwnF w B v X)
    (u : Value) (Y : List (Str × Fil)) (hx : a.eval x = u) (hr : IsF w u Y)
    (hlen : X.length + Y.length ≤ 1073741824) (hbase : B ≤ w.heap.size)
    (h : ∀ v' w', OwnF w' B v' (X ++ Y) → Below B w w' → K (a.put o.dst v') w') : if Region.wanted o (yielded ops a.tmps) = true then Oper.wp Try.prog o a w K Q else E := by
  have hw : Region.wanted o (yielded ops a.tmps) = true := by simp [Region.wanted, hgd]
  rw [if_pos hw]
  obtain ⟨i0, hi, hz0, hz1, hz2⟩ := info_parts Try.info_file
  obtain ⟨⟨A, c, rfl, hn, hc⟩, h1⟩ := hr
  have fin : ∀ v' w', w'.ownsRow B 70 3 v' (X.length + Y.length) (cellsF X ++ cellsF Y) → w.grownBy w' v.ownBlock → K (a.put o.dst v') w' := by
    intro v' w' hown' hg
    exact h v' w' (by unfold OwnF; rw [List.length_append, cellsF_append]; exact hown') ((Below.refl _ _).grown hg hbase fun k hk => (hown.lt k hk).1)
  rcases A with _ | ad
  · obtain ⟨rfl, rfl⟩ := hn rfl
    have hrun := run_append_owned_none (P := Try.prog) (w := w) B 55 o.type 70 i0 3 Try.underlying55 hi v _ _ hown
    unfold Oper.wp
    simp [execOp, ho, resolve, invoke, builtin, hs, hx, hrun, Result.andThen]
    exact fin v w (by simpa [cellsF, OwnF] using hown) (World.grownBy.refl w _)
  · exact wp_append_own w s x _ ho B 70 i0 _ 3 48 Try.underlying55 hi hz0 hz1 hz2 rfl (by decide) v _ _ hs hown ad Y.length c (cellsF Y) hx (cellsF_length Y) (hc ad rfl) h1 (by unfold maxLen; omega) (by omega) hbase (fun v' w' h1 h2 _ => fin v' w' h1 h2)
end Go.Proofs.Ytmledochidefeaa
