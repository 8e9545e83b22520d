/- A sync of a log, as lists; what is kept behind a crash. It names nothing of the program. A cut of a log, as lists. It names nothing of the program. A log whose first segments are dropped, as lists. It names nothing of the program. The program's log as lists: what each call leaves of it; a chain of segments by places. It names nothing of the program but the disk's lists. The program's reading of a segment's name. Condition: a prefix of fewer than 2 to the 40 bytes. -/
import Derived.Test.YtejhoefmcldpnaaGreatRk15
import Derived.Test.YtejhoefmcldpnaaGreatRk13
import Derived.Test.YtejhoefmcldpnaaGreatRk14
namespace Go.Proofs.YtejhoefmcldpnaaGreat
open Go.RowKit Go.Maps
def fullT (t : Tl) : Tl := (t.1, t.2.1, (recsL t.1 t.2.1).length)
def syncT (n : Nat) (T : List Tl) : List Tl := T.map fun t => if t.1 = n then fullT t else t
theorem rises_firsts {X Y : List Fl} (h : Rises X) (e : Y.map (·.1) = X.map (·.1)) : Rises Y := by
  obtain ⟨h1, h2⟩ := h
  have p := (List.pairwise_map (f := fun x : Fl => x.1) (R := fun a b => a < b) (l := X)).2 h1
  rw [← e, List.pairwise_map] at p
  refine ⟨p, fun y hy => ?_⟩
  have hy1 : y.1 ∈ Y.map (·.1) := List.mem_map.2 ⟨y, hy, rfl⟩
  rw [e] at hy1
  obtain ⟨x, hx, e2⟩ := List.mem_map.1 hy1
  rw [← e2]
  exact h2 x hx
theorem syncT_firsts (n : Nat) (T : List Tl) : ((syncT n T).map fileT).map (·.1) = (T.map fileT).map (·.1) := by
  unfold syncT
  rw [List.map_map, List.map_map, List.map_map]
  refine List.map_congr_left fun t _ => ?_
  show (fileT (if t.1 = n then fullT t else t)).1 = t.1
  split <;> rfl
theorem sync_one {k : Str} {n : Nat} {T : List Tl} (hr : Rises (T.map fileT)) (hn : n < 100000000) : (syncL (nameL k n) (filesL k (T.map fileT))).1 = filesL k ((syncT n T).map fileT) := by
  by_cases hm : ∃ t ∈ T, t.1 = n
  · obtain ⟨t, ht, rfl⟩ := hm
    obtain ⟨A, B, rfl⟩ := List.append_of_mem ht
    have hr0 := hr
    rw [List.map_append, List.map_cons] at hr
    have hA : ∀ x ∈ A, x.1 ≠ t.1 := fun x hx e => by
      have p := (List.pairwise_append.1 hr.1).2.2 (fileT x) (List.mem_map.2 ⟨x, hx, rfl⟩) (fileT t) (List.mem_cons_self)
      have p : x.1 < t.1 := p
      omega
    have hB : ∀ x ∈ B, x.1 ≠ t.1 := fun x hx e => by
      have p := (List.pairwise_cons.1 (List.pairwise_append.1 hr.1).2.1).1 (fileT x) (List.mem_map.2 ⟨x, hx, rfl⟩)
      have p : t.1 < x.1 := p
      omega
    have e1 : syncT t.1 (A ++ t :: B) = A ++ fullT t :: B := by
      unfold syncT
      rw [List.map_append, List.map_cons, if_pos rfl]
      congr 1
      · conv => rhs; rw [← List.map_id A]
        exact List.map_congr_left fun x hx => if_neg (hA x hx)
      · congr 1
        conv => rhs; rw [← List.map_id B]
        exact List.map_congr_left fun x hx => if_neg (hB x hx)
    have hg : getK (nameL k t.1) (filesL k ((A ++ t :: B).map fileT)) = some (recsL t.1 t.2.1, t.2.2) := by
      rw [List.map_append, List.map_cons]
      exact getW_mid hr
    rw [e1]
    unfold syncL
    rw [hg]
    dsimp only
    rw [List.map_append, List.map_cons, List.map_append, List.map_cons]
    exact putW_mid hr
  · have e1 : syncT n T = T := by
      unfold syncT
      conv => rhs; rw [← List.map_id T]
      exact List.map_congr_left fun x hx => if_neg (fun e => hm ⟨x, hx, e⟩)
    have hg : getK (nameL k n) (filesL k (T.map fileT)) = none := by
      rcases h : getK (nameL k n) (filesL k (T.map fileT)) with _ | a
      · rfl
      · have := getK_mem h
        unfold filesL at this
        obtain ⟨x, hx, e⟩ := List.mem_map.1 this
        obtain ⟨t, ht, rfl⟩ := List.mem_map.1 hx
        have e2 : nameL k t.1 = nameL k n := congrArg Prod.fst e
        exact absurd ⟨t, ht, name_inj k (hr.2 (fileT t) hx).2 hn e2⟩ hm
    rw [e1]
    unfold syncL
    rw [hg]
theorem syncs_all {k : Str} : ∀ (dy : List Nat) (T : List Tl), Rises (T.map fileT) → (∀ n ∈ dy, n < 100000000) → syncsL k dy (filesL k (T.map fileT)) = filesL k ((T.map fun t => if t.1 ∈ dy then fullT t else t).map fileT) := by
  intro dy
  induction dy with
  | nil =>
    intro T _ _
    show filesL k (T.map fileT) = _
    simp
  | cons n dy ih =>
    intro T hr hn
    show syncsL k dy (syncL (nameL k n) (filesL k (T.map fileT))).1 = _
    rw [sync_one hr (hn n (List.mem_cons_self)), ih (syncT n T) (rises_firsts hr (syncT_firsts n T)) (fun m hm => hn m (List.mem_cons_of_mem _ hm))]
    congr 2
    unfold syncT
    rw [List.map_map]
    refine List.map_congr_left fun t _ => ?_
    show (if (if t.1 = n then fullT t else t).1 ∈ dy then fullT (if t.1 = n then fullT t else t) else (if t.1 = n then fullT t else t)) = if t.1 ∈ n :: dy then fullT t else t
    by_cases h1 : t.1 = n
    · rw [if_pos h1, if_pos (show t.1 ∈ n :: dy by rw [h1]; exact List.mem_cons_self)]
      have e2 : fullT (fullT t) = fullT t := rfl
      rw [e2]
      split <;> rfl
    · rw [if_neg h1]
      by_cases h2 : t.1 ∈ dy
      · rw [if_pos h2, if_pos (List.mem_cons_of_mem _ h2)]
      · rw [if_neg h2, if_neg (by rintro h3; rcases List.mem_cons.1 h3 with h | h; exact h1 h; exact h2 h)]
theorem good_full {T : List Tl} {i n : Nat} (h : GoodT i T n) : GoodT i (T.map fullT) n := by
  refine ⟨?_, fun t ht => ?_, fun t ht => ?_, fun t ht => ?_⟩
  · have e : (T.map fullT).map segT = T.map segT := by rw [List.map_map]; rfl
    rw [e]
    exact h.chain
  all_goals obtain ⟨x, hx, rfl⟩ := List.mem_map.1 ht
  · exact h.some x hx
  · exact h.fits x hx
  · exact Nat.le_refl _
theorem flat_full (T : List Tl) : flatT (T.map fullT) = flatT T := by
  unfold flatT
  rw [List.flatMap_map]
  rfl
theorem bytes_full (T : List Tl) : bytesT (T.map fullT) = bytesT T := by
  unfold bytesT
  rw [List.map_map]
  rfl
theorem synced_full : ∀ (T : List Tl) (c : Nat), Synced c (T.map fullT) := by
  intro T
  induction T with
  | nil => intro c; exact trivial
  | cons t T ih =>
    intro c
    refine ⟨?_, ih _⟩
    show (recsL t.1 (t.2.1.take c)).length ≤ (recsL t.1 t.2.1).length
    by_cases h : c ≤ t.2.1.length
    · have := recs_mono t.1 t.2.1 h
      rw [List.take_length] at this
      exact this
    · rw [List.take_of_length_le (by omega)]
      exact Nat.le_refl _
/-- A sync: all that was laid lasts. -/
theorem sync_fit {k : Str} {T : List Tl} {M : LogL} {L : DiskL} (h : FitL k T M L) (hn : M.next ≤ 100000000) : FitL k (T.map fullT) ⟨M.segs, M.next, []⟩ (syncsL k M.dirty L) := by
  have hr := good_rises h.good (Nat.le_refl _) hn
  refine ⟨?_, ?_, good_full h.good, fun t ht => ?_, fun n hn => by cases hn⟩
  · rw [h.disk, syncs_all M.dirty T hr h.nums]
    congr 2
    refine List.map_congr_left fun t ht => ?_
    rcases h.dirt t ht with e | e
    · have : fullT t = t := by
        obtain ⟨f, es, l⟩ := t
        simp only at e
        show (f, es, (recsL f es).length) = (f, es, l)
        rw [← e]
      rw [this]
      split <;> rfl
    · rw [if_pos e]
  · rw [h.segs, List.map_map]
    rfl
  · obtain ⟨x, hx, rfl⟩ := List.mem_map.1 ht
    exact .inl rfl
/-- An empty disk opened: an empty log. -/
theorem open_empty (k : Str) : openR k [] = ⟨false, ⟨[], 1, []⟩, []⟩ := rfl
theorem fit_empty (k : Str) : FitL k [] ⟨[], 1, []⟩ [] := ⟨rfl, rfl, ⟨rfl, fun t ht => (by cases ht), fun t ht => (by cases ht), fun t ht => (by cases ht)⟩, fun t ht => (by cases ht), fun n hn => (by cases hn)⟩
/-- A log opened behind a crash tells a beginning of its entries, all that were synced among them. -/
theorem kept_fit {k : Str} {T : List Tl} {M : LogL} {L : DiskL} {c : Nat} (z : Nat) (h : FitL k T M L) (hn : M.next ≤ 100000000) (hs : Synced c T) (hc : c ≤ (flatT T).length) :
    ∃ q S d, c ≤ q ∧ q ≤ (flatT T).length ∧ (openR k (crashD z L)).log = ⟨S, 1 + q, d⟩ ∧ firstL ⟨S, 1 + q, d⟩ = 1 ∧ ∀ i, i < q → getE ⟨S, 1 + q, d⟩ ((1 + i : Nat) : Int) = ((flatT T).getD i [], 0) := by
  obtain ⟨q, S, d, q1, q2, q3, q4, q5⟩ := kept_openR (k := k) z h.good hn hs hc
  rw [← h.disk] at q3
  refine ⟨q, S, d, q1, q2, q3, chain_first q4, fun i hi => ?_⟩
  rw [getE_chain _ q4, if_pos (by omega), q5]
  have e : (((1 + i : Nat) : Int) - ((1 : Nat) : Int)).toNat = i := by omega
  rw [e]
  have : ((flatT T).take q).getD i [] = (flatT T).getD i [] := by
    simp only [List.getD_eq_getElem?_getD]
    rw [List.getElem?_take, if_pos hi]
  rw [this]
end Go.Proofs.YtejhoefmcldpnaaGreat
namespace Go.Proofs.YtejhoefmcldpnaaGreat
open Go.RowKit Go.Maps
/-- What is left of a segment. -/
def cutS (i : Nat) (s : Sg) : Option Sg := if i ≤ s.1 then none else if i < s.1 + s.2.length then some (s.1, s.2.take (i - s.1)) else some s
/-- .. and of its file. -/
def cutD1 (k : Str) (i : Nat) (L : DiskL) (s : Sg) : DiskL := if i ≤ s.1 then (remL (nameL k s.1) L).1 else if i < s.1 + s.2.length then (cutL (nameL k s.1) ((recsL s.1 (s.2.take (i - s.1))).length : Int) L).1 else L
def cutW (k : Str) (i : Nat) (M : LogL) (L : DiskL) : LogL × DiskL := (⟨M.segs.filterMap (cutS i), i, M.dirty⟩, M.segs.foldl (cutD1 k i) L)
def cutT1 (i : Nat) (t : Tl) : Option Tl := if i ≤ t.1 then none else if i < t.1 + t.2.1.length then some (t.1, t.2.1.take (i - t.1), min t.2.2 (recsL t.1 (t.2.1.take (i - t.1))).length) else some t
def cutT (i : Nat) (T : List Tl) : List Tl := T.filterMap (cutT1 i)
theorem cut_segs (i : Nat) (T : List Tl) : (T.map segT).filterMap (cutS i) = (cutT i T).map segT := by
  unfold cutT
  rw [List.filterMap_map, List.map_filterMap]
  congr 1
  funext t
  show cutS i (segT t) = (cutT1 i t).map segT
  unfold cutS cutT1 segT
  dsimp only
  split
  · rfl
  · split <;> rfl
theorem recs_take (i : Nat) (es : List (List Nat)) (m : Nat) : (recsL i es).take (recsL i (es.take m)).length = recsL i (es.take m) := by
  have e : recsL i es = recsL i (es.take m) ++ recsL (i + (es.take m).length) (es.drop m) := by
    rw [← recs_app, List.take_append_drop]
  conv => lhs; rw [e]
  rw [List.take_left' rfl]
theorem rises_sub {X Y : List Fl} (h : Rises X) (hs : Y.Sublist X) : Rises Y := ⟨h.1.sublist hs, fun y hy => h.2 y (hs.subset hy)⟩
/-- The files behind a cut: those ahead are as they were. -/
theorem cut_files {k : Str} {i : Nat} : ∀ (R D : List Tl), Rises ((D ++ R).map fileT) → (R.map segT).foldl (cutD1 k i) (filesL k ((D ++ R).map fileT)) = filesL k ((D ++ cutT i R).map fileT) := by
  intro R
  induction R with
  | nil => intro D _; rfl
  | cons t R ih =>
    intro D h
    have e0 : (D ++ t :: R).map fileT = D.map fileT ++ fileT t :: R.map fileT := by rw [List.map_append, List.map_cons]
    have h' := h
    rw [e0] at h'
    show (R.map segT).foldl (cutD1 k i) (cutD1 k i (filesL k ((D ++ t :: R).map fileT)) (segT t)) = _
    by_cases h1 : i ≤ t.1
    · have e1 : cutT i (t :: R) = cutT i R := by unfold cutT; rw [List.filterMap_cons]; unfold cutT1; rw [if_pos h1]
      have e2 : cutD1 k i (filesL k ((D ++ t :: R).map fileT)) (segT t) = filesL k ((D ++ R).map fileT) := by
        unfold cutD1
        rw [if_pos (show i ≤ (segT t).1 from h1), e0, List.map_append]
        exact remL_mid h'
      rw [e1, e2]
      refine ih D (rises_sub h ?_)
      exact List.Sublist.map _ (List.Sublist.append (List.Sublist.refl D) (List.sublist_cons_self t R))
    · by_cases h2 : i < t.1 + t.2.1.length
      · have e1 : cutT i (t :: R) = (t.1, t.2.1.take (i - t.1), min t.2.2 (recsL t.1 (t.2.1.take (i - t.1))).length) :: cutT i R := by unfold cutT; rw [List.filterMap_cons]; unfold cutT1; rw [if_neg h1, if_pos h2]
        obtain ⟨t2, ht2⟩ : ∃ t2 : Tl, t2 = (t.1, t.2.1.take (i - t.1), min t.2.2 (recsL t.1 (t.2.1.take (i - t.1))).length) := ⟨_, rfl⟩
        have hm : (recsL t.1 (t.2.1.take (i - t.1))).length ≤ (recsL t.1 t.2.1).length := by
          have := recs_mono t.1 t.2.1 (show i - t.1 ≤ t.2.1.length by omega)
          rw [List.take_length] at this
          exact this
        have e2 : cutD1 k i (filesL k ((D ++ t :: R).map fileT)) (segT t) = filesL k ((D ++ t2 :: R).map fileT) := by
          unfold cutD1
          rw [if_neg (show ¬ i ≤ (segT t).1 from h1), if_pos (show i < (segT t).1 + (segT t).2.length from h2), e0, List.map_append, List.map_cons]
          have := cutL_mid (k := k) (m := (recsL t.1 (t.2.1.take (i - t.1))).length) h' hm
          rw [recs_take] at this
          rw [ht2]
          exact this
        have hf : ((D ++ t2 :: R).map fileT).map (·.1) = ((D ++ t :: R).map fileT).map (·.1) := by
          rw [ht2]
          simp [List.map_append, fileT]
        have e3 : D ++ t2 :: R = (D ++ [t2]) ++ R := by simp
        have hr2 := rises_firsts h hf
        rw [e1, ← ht2, e2, e3]
        rw [e3] at hr2
        rw [ih (D ++ [t2]) hr2]
        simp
      · have e1 : cutT i (t :: R) = t :: cutT i R := by unfold cutT; rw [List.filterMap_cons]; unfold cutT1; rw [if_neg h1, if_neg h2]
        have e2 : cutD1 k i (filesL k ((D ++ t :: R).map fileT)) (segT t) = filesL k ((D ++ t :: R).map fileT) := by
          unfold cutD1
          rw [if_neg (show ¬ i ≤ (segT t).1 from h1), if_neg (show ¬ i < (segT t).1 + (segT t).2.length from h2)]
        have e3 : D ++ t :: R = (D ++ [t]) ++ R := by simp
        rw [e1, e2, e3]
        rw [e3] at h
        rw [ih (D ++ [t]) h]
        simp
theorem cut_all {i : Nat} : ∀ {T : List Tl} {j n : Nat}, GoodT j T n → i ≤ j → cutT i T = [] := by
  intro T
  induction T with
  | nil => intro j n _ _; rfl
  | cons t T ih =>
    intro j n h hi
    have e : t.1 = j := h.chain.1
    unfold cutT
    rw [List.filterMap_cons]
    unfold cutT1
    rw [if_pos (by omega)]
    exact ih h.tail (by omega)
theorem take_fits : ∀ (es : List (List Nat)) (i m : Nat), FitsAll i es → FitsAll i (es.take m) := by
  intro es
  induction es with
  | nil => intro i m _; rw [List.take_nil]; exact trivial
  | cons p r ih =>
    intro i m h
    rcases m with _ | m
    · exact trivial
    · exact ⟨h.1, ih (i + 1) m h.2⟩
/-- The entries ahead of a cut stand. -/
theorem cut_good {i : Nat} : ∀ {T : List Tl} {j n : Nat}, GoodT j T n → j ≤ i → i ≤ n → GoodT j (cutT i T) i ∧ flatT (cutT i T) = (flatT T).take (i - j) ∧ bytesT (cutT i T) ≤ bytesT T ∧ (cutT i T).length ≤ T.length := by
  intro T
  induction T with
  | nil =>
    intro j n h h1 h2
    have e : j = n := h.chain
    have e2 : j = i := by omega
    exact ⟨⟨e2, fun t ht => (by cases ht), fun t ht => (by cases ht), fun t ht => (by cases ht)⟩, by simp [cutT, flatT], Nat.le_refl _, Nat.le_refl _⟩
  | cons t T ih =>
    intro j n h h1 h2
    have e : t.1 = j := h.chain.1
    have ef : flatT (t :: T) = t.2.1 ++ flatT T := rfl
    have eb : bytesT (t :: T) = (recsL t.1 t.2.1).length + bytesT T := by unfold bytesT; rw [List.map_cons, List.sum_cons]
    by_cases hj : i ≤ t.1
    · have e2 : cutT i (t :: T) = [] := cut_all h (by omega)
      have e3 : i = j := by omega
      rw [e2]
      refine ⟨⟨e3.symm, fun t ht => (by cases ht), fun t ht => (by cases ht), fun t ht => (by cases ht)⟩, ?_, Nat.zero_le _, Nat.zero_le _⟩
      rw [e3, Nat.sub_self, List.take_zero]
      rfl
    · by_cases hm : i < t.1 + t.2.1.length
      · have e2 : cutT i (t :: T) = [(t.1, t.2.1.take (i - t.1), min t.2.2 (recsL t.1 (t.2.1.take (i - t.1))).length)] := by
          have h0 : cutT i T = [] := cut_all h.tail (by omega)
          unfold cutT at h0 ⊢
          rw [List.filterMap_cons]
          unfold cutT1 at h0 ⊢
          rw [if_neg hj, if_pos hm, h0]
        have hl : (t.2.1.take (i - t.1)).length = i - t.1 := by rw [List.length_take]; omega
        rw [e2]
        refine ⟨⟨⟨e, ?_⟩, fun x hx => ?_, fun x hx => ?_, fun x hx => ?_⟩, ?_, ?_, by simp⟩
        · show j + (t.2.1.take (i - t.1)).length = i
          rw [hl]
          omega
        · have : x = (t.1, t.2.1.take (i - t.1), min t.2.2 (recsL t.1 (t.2.1.take (i - t.1))).length) := by simpa using hx
          subst this
          intro e4
          have := congrArg List.length e4
          rw [hl] at this
          simp at this
          omega
        · have : x = (t.1, t.2.1.take (i - t.1), min t.2.2 (recsL t.1 (t.2.1.take (i - t.1))).length) := by simpa using hx
          subst this
          exact take_fits _ _ _ (h.fits t (List.mem_cons_self))
        · have : x = (t.1, t.2.1.take (i - t.1), min t.2.2 (recsL t.1 (t.2.1.take (i - t.1))).length) := by simpa using hx
          subst this
          exact Nat.min_le_right _ _
        · rw [ef]
          show t.2.1.take (i - t.1) ++ [] = _
          rw [List.append_nil, List.take_append_of_le_length (by omega), e]
        · rw [eb]
          have := recs_mono t.1 t.2.1 (show i - t.1 ≤ t.2.1.length by omega)
          rw [List.take_length] at this
          show (recsL t.1 (t.2.1.take (i - t.1))).length + 0 ≤ _
          omega
      · have e2 : cutT i (t :: T) = t :: cutT i T := by unfold cutT; rw [List.filterMap_cons]; unfold cutT1; rw [if_neg hj, if_neg hm]
        obtain ⟨g1, g2, g3, g4⟩ := ih h.tail (by omega) h2
        rw [e2]
        refine ⟨⟨⟨e, g1.chain⟩, fun x hx => ?_, fun x hx => ?_, fun x hx => ?_⟩, ?_, ?_, ?_⟩
        · rcases List.mem_cons.1 hx with rfl | hx
          · exact h.some x (List.mem_cons_self)
          · exact g1.some x hx
        · rcases List.mem_cons.1 hx with rfl | hx
          · exact h.fits x (List.mem_cons_self)
          · exact g1.fits x hx
        · rcases List.mem_cons.1 hx with rfl | hx
          · exact h.last x (List.mem_cons_self)
          · exact g1.last x hx
        · rw [ef]
          show t.2.1 ++ flatT (cutT i T) = _
          have e5 : i - j = t.2.1.length + (i - (j + t.2.1.length)) := by omega
          rw [g2, e5, List.take_length_add_append]
        · rw [eb]
          show (recsL t.1 t.2.1).length + bytesT (cutT i T) ≤ _
          omega
        · simp only [List.length_cons]
          omega
/-- A cut leaves the entries ahead of it, and all else as it was. -/
theorem cut_fit {k : Str} {T : List Tl} {M : LogL} {L : DiskL} {i : Nat} (h : FitL k T M L) (hn : M.next ≤ 100000000) (h1 : 1 ≤ i) (h2 : i ≤ M.next) :
    FitL k (cutT i T) (cutW k i M L).1 (cutW k i M L).2 ∧ flatT (cutT i T) = (flatT T).take (i - 1) ∧ bytesT (cutT i T) ≤ bytesT T ∧ (cutT i T).length ≤ T.length ∧ (cutW k i M L).1.next = i := by
  obtain ⟨g1, g2, g3, g4⟩ := cut_good h.good h1 h2
  have hr := good_rises h.good (Nat.le_refl _) hn
  refine ⟨⟨?_, ?_, g1, fun t ht => ?_, h.nums⟩, g2, g3, g4, rfl⟩
  · show M.segs.foldl (cutD1 k i) L = _
    have := cut_files (k := k) (i := i) T [] hr
    rw [List.nil_append, List.nil_append] at this
    rw [h.segs, h.disk, this]
  · show M.segs.filterMap (cutS i) = _
    rw [h.segs, cut_segs]
  · unfold cutT at ht
    obtain ⟨x, hx, e⟩ := List.mem_filterMap.1 ht
    unfold cutT1 at e
    have hle := h.good.last x hx
    split at e
    · cases e
    · split at e
      · cases e
        rcases h.dirt x hx with hd | hd
        · left
          have hm := recs_mono x.1 x.2.1 (show i - x.1 ≤ x.2.1.length by omega)
          rw [List.take_length] at hm
          show min x.2.2 (recsL x.1 (x.2.1.take (i - x.1))).length = (recsL x.1 (x.2.1.take (i - x.1))).length
          omega
        · exact .inr hd
      · cases e
        exact h.dirt _ hx
end Go.Proofs.YtejhoefmcldpnaaGreat
namespace Go.Proofs.YtejhoefmcldpnaaGreat
open Go.RowKit Go.Maps
/-- What is left of the segments, and of the disk. -/
def dropF (k : Str) (i nx : Nat) : List Sg → DiskL → List Sg × DiskL
  | [], L => ([], L)
  | s :: r, L => if s.1 + s.2.length ≤ i ∧ (r ≠ [] ∨ i = nx) then dropF k i nx r (remL (nameL k s.1) L).1 else (s :: (dropF k i nx r L).1, (dropF k i nx r L).2)
def dropW (k : Str) (i : Nat) (M : LogL) (L : DiskL) : LogL × DiskL := (⟨(dropF k i M.next M.segs L).1, M.next, M.dirty⟩, (dropF k i M.next M.segs L).2)
def dropT (i nx : Nat) : List Tl → List Tl
  | [] => []
  | t :: r => if t.1 + t.2.1.length ≤ i ∧ (r ≠ [] ∨ i = nx) then dropT i nx r else t :: dropT i nx r
theorem drop_cons (i nx : Nat) (t : Tl) (r : List Tl) : dropT i nx (t :: r) = if t.1 + t.2.1.length ≤ i ∧ (r ≠ [] ∨ i = nx) then dropT i nx r else t :: dropT i nx r := rfl
theorem dropF_cons (k : Str) (i nx : Nat) (s : Sg) (r : List Sg) (L : DiskL) : dropF k i nx (s :: r) L = if s.1 + s.2.length ≤ i ∧ (r ≠ [] ∨ i = nx) then dropF k i nx r (remL (nameL k s.1) L).1 else (s :: (dropF k i nx r L).1, (dropF k i nx r L).2) := rfl
theorem drop_sub (i nx : Nat) : ∀ T : List Tl, (dropT i nx T).Sublist T := by
  intro T
  induction T with
  | nil => exact List.Sublist.refl _
  | cons t r ih =>
    rw [drop_cons]
    split
    · exact ih.trans (List.sublist_cons_self t r)
    · exact ih.cons_cons t
/-- The files behind a drop: those ahead are as they were. -/
theorem drop_files {k : Str} {i nx : Nat} : ∀ (R D : List Tl), Rises ((D ++ R).map fileT) →
    dropF k i nx (R.map segT) (filesL k ((D ++ R).map fileT)) = ((dropT i nx R).map segT, filesL k ((D ++ dropT i nx R).map fileT)) := by
  intro R
  induction R with
  | nil => intro D _; rfl
  | cons t R ih =>
    intro D h
    have e0 : (D ++ t :: R).map fileT = D.map fileT ++ fileT t :: R.map fileT := by rw [List.map_append, List.map_cons]
    have h' := h
    rw [e0] at h'
    have ee : (R.map segT ≠ []) ↔ R ≠ [] := by rw [ne_eq, ne_eq, List.map_eq_nil_iff]
    rw [List.map_cons, dropF_cons, drop_cons]
    by_cases hd : t.1 + t.2.1.length ≤ i ∧ (R ≠ [] ∨ i = nx)
    · have hd' : (segT t).1 + (segT t).2.length ≤ i ∧ (R.map segT ≠ [] ∨ i = nx) := by rw [ee]; exact hd
      have e2 : (remL (nameL k (segT t).1) (filesL k ((D ++ t :: R).map fileT))).1 = filesL k ((D ++ R).map fileT) := by
        rw [e0, List.map_append]
        exact remL_mid h'
      rw [if_pos hd, if_pos hd', e2]
      refine ih D (rises_sub h ?_)
      exact List.Sublist.map _ (List.Sublist.append (List.Sublist.refl D) (List.sublist_cons_self t R))
    · have hd' : ¬ ((segT t).1 + (segT t).2.length ≤ i ∧ (R.map segT ≠ [] ∨ i = nx)) := by rw [ee]; exact hd
      have e3 : D ++ t :: R = (D ++ [t]) ++ R := by simp
      rw [if_neg hd, if_neg hd', e3]
      rw [e3] at h
      rw [ih (D ++ [t]) h]
      simp
theorem len_pos {i n : Nat} {t : Tl} {T : List Tl} (h : GoodT i (t :: T) n) : 0 < t.2.1.length := by
  have h3 := h.some t (List.mem_cons_self)
  rcases hl : t.2.1 with _ | ⟨a, b⟩
  · exact absurd hl h3
  · simp
/-- What ends behind the number stays. -/
theorem drop_stay {i nx : Nat} : ∀ {T : List Tl} {j n : Nat}, GoodT j T n → i ≤ j → dropT i nx T = T := by
  intro T
  induction T with
  | nil => intro j n _ _; rfl
  | cons t T ih =>
    intro j n h hi
    have e : t.1 = j := h.chain.1
    have := len_pos h
    rw [drop_cons, if_neg (by omega), ih h.tail (by omega)]
/-- The entries from some number on stand, and it is not above the one that was said. -/
theorem drop_good {i : Nat} : ∀ {T : List Tl} {j n : Nat}, GoodT j T n → j ≤ i → i ≤ n →
    ∃ f, j ≤ f ∧ f ≤ i ∧ GoodT f (dropT i n T) n ∧ flatT (dropT i n T) = (flatT T).drop (f - j) := by
  intro T
  induction T with
  | nil =>
    intro j n h h1 h2
    exact ⟨j, Nat.le_refl _, h1, h, by simp [dropT, flatT]⟩
  | cons t T ih =>
    intro j n h h1 h2
    have e : t.1 = j := h.chain.1
    have ef : flatT (t :: T) = t.2.1 ++ flatT T := rfl
    by_cases hd : t.1 + t.2.1.length ≤ i ∧ (T ≠ [] ∨ i = n)
    · obtain ⟨f, f1, f2, f3, f4⟩ := ih h.tail (by omega) h2
      rw [drop_cons, if_pos hd]
      refine ⟨f, by omega, f2, f3, ?_⟩
      have e5 : f - j = t.2.1.length + (f - (j + t.2.1.length)) := by omega
      have e6 : t.2.1.drop (t.2.1.length + (f - (j + t.2.1.length))) = [] := List.drop_eq_nil_of_le (by omega)
      have e7 : t.2.1.length + (f - (j + t.2.1.length)) - t.2.1.length = f - (j + t.2.1.length) := by omega
      rw [f4, ef, e5, List.drop_append, e6, e7, List.nil_append]
    · have e2 : dropT i n (t :: T) = t :: T := by
        rw [drop_cons, if_neg hd]
        congr 1
        by_cases h3 : t.1 + t.2.1.length ≤ i
        · have h4 : T = [] := by
            rcases T with _ | ⟨x, r⟩
            · rfl
            · exact absurd ⟨h3, .inl (by simp)⟩ hd
          rw [h4]
          rfl
        · exact drop_stay h.tail (by omega)
      rw [e2]
      exact ⟨j, Nat.le_refl _, h1, h, by rw [Nat.sub_self, List.drop_zero]⟩
/-- A log that begins with any number, and its disk, on which there is nothing else. -/
structure FitJ (j : Nat) (k : Str) (T : List Tl) (M : LogL) (L : DiskL) : Prop where
  disk : L = filesL k (T.map fileT)
  segs : M.segs = T.map segT
  good : GoodT j T M.next
theorem drop_fit {k : Str} {T : List Tl} {M : LogL} {L : DiskL} {i : Nat} (h : FitL k T M L) (hn : M.next ≤ 100000000) (h1 : 1 ≤ i) (h2 : i ≤ M.next) :
    ∃ f, 1 ≤ f ∧ f ≤ i ∧ FitJ f k (dropT i M.next T) (dropW k i M L).1 (dropW k i M L).2 ∧ flatT (dropT i M.next T) = (flatT T).drop (f - 1) ∧ (dropW k i M L).1.next = M.next ∧ (dropW k i M L).1.dirty = M.dirty := by
  obtain ⟨f, f1, f2, f3, f4⟩ := drop_good h.good h1 h2
  have hr := good_rises h.good (Nat.le_refl _) hn
  have hf := drop_files (k := k) (i := i) (nx := M.next) T [] (by rw [List.nil_append]; exact hr)
  rw [List.nil_append, List.nil_append, ← h.segs, ← h.disk] at hf
  refine ⟨f, f1, f2, ⟨?_, ?_, f3⟩, f4, rfl, rfl⟩
  · show (dropF k i M.next M.segs L).2 = _
    rw [hf]
  · show (dropF k i M.next M.segs L).1 = _
    rw [hf]
theorem firstJ {j : Nat} {k : Str} {T : List Tl} {M : LogL} {L : DiskL} (h : FitJ j k T M L) : firstL M = j := by
  obtain ⟨S, n, d⟩ := M
  have e : S = T.map segT := h.segs
  subst e
  exact chain_first h.good.chain
/-- A sync leaves what is read of it as it was. -/
theorem sync_fitJ {j : Nat} {k : Str} {T : List Tl} {M : LogL} {L : DiskL} (h : FitJ j k T M L) (hj : 1 ≤ j) (hn : M.next ≤ 100000000) (hd : ∀ n ∈ M.dirty, n < 100000000) :
    ∃ T', T'.map segT = T.map segT ∧ FitJ j k T' ⟨M.segs, M.next, []⟩ (syncsL k M.dirty L) := by
  have hr := good_rises h.good hj hn
  refine ⟨T.map fun t => if t.1 ∈ M.dirty then fullT t else t, ?_, ?_, ?_, ?_⟩
  · rw [List.map_map]
    refine List.map_congr_left fun t _ => ?_
    show segT (if t.1 ∈ M.dirty then fullT t else t) = segT t
    split <;> rfl
  · rw [h.disk, syncs_all M.dirty T hr hd]
  · show M.segs = _
    rw [h.segs, List.map_map]
    refine List.map_congr_left fun t _ => ?_
    show segT t = segT (if t.1 ∈ M.dirty then fullT t else t)
    split <;> rfl
  · refine ⟨?_, fun t ht => ?_, fun t ht => ?_, fun t ht => ?_⟩
    · have e : (T.map fun t => if t.1 ∈ M.dirty then fullT t else t).map segT = T.map segT := by
        rw [List.map_map]
        refine List.map_congr_left fun t _ => ?_
        show segT (if t.1 ∈ M.dirty then fullT t else t) = segT t
        split <;> rfl
      rw [e]
      exact h.good.chain
    all_goals obtain ⟨x, hx, rfl⟩ := List.mem_map.1 ht
    · show (if x.1 ∈ M.dirty then fullT x else x).2.1 ≠ []
      split <;> exact h.good.some x hx
    · split <;> exact h.good.fits x hx
    · split
      · exact Nat.le_refl _
      · exact h.good.last x hx
/-- Files that are whole are read whole. -/
theorem open_whole : ∀ (T : List Tl) (j n : Nat), GoodT j T n → openF (some j) (T.map fileT) = (T.map segT, T.map fileT) := by
  intro T
  induction T with
  | nil => intro j n _; rfl
  | cons t T ih =>
    intro j n h
    have e : t.1 = j := h.chain.1
    have hw := seg_whole t.2.1 t.1 (h.fits t (List.mem_cons_self))
    have hq : ¬ ∃ e, some j = some e ∧ t.1 ≠ e := by
      rintro ⟨x, h3, h4⟩
      exact h4 (by rw [e]; exact Option.some.inj h3)
    have e1 : (fileT t) = (t.1, (recsL t.1 t.2.1, t.2.2)) := rfl
    rw [List.map_cons, List.map_cons, e1, openF_cons, if_neg hq]
    show (if (segL (recsL t.1 t.2.1) t.1).2.2 = true then _ else _) = _
    rw [hw]
    dsimp only
    rw [if_pos rfl, e, ih _ n h.tail]
    show ((j, t.2.1) :: T.map segT, (j, (recsL j t.2.1, t.2.2)) :: T.map fileT) = (segT t :: _, _)
    unfold segT
    rw [e]
/-- A log opened over its own disk is the same log, if it has an entry. -/
theorem open_fit {j : Nat} {k : Str} {T : List Tl} {M : LogL} {L : DiskL} (h : FitJ j k T M L) (hj : 1 ≤ j) (hn : M.next ≤ 100000000) (hT : j < M.next) :
    ∃ d, (openR k L).log = ⟨M.segs, M.next, d⟩ := by
  have hr := good_rises h.good hj hn
  have eo : openF none (T.map fileT) = openF (some j) (T.map fileT) := openF_none (fun x hx => by
    rcases T with _ | ⟨t, T⟩
    · cases hx
    · cases hx
      exact h.good.chain.1)
  have hl := (openR_files (k := k) hr).1
  rw [eo, open_whole T j M.next h.good] at hl
  refine ⟨(T.map segT).map (·.1), ?_⟩
  rw [h.disk, hl, h.segs]
  dsimp only
  congr 1
  have hc := chain_end h.good.chain
  rcases T with _ | ⟨t, T⟩
  · have : j = M.next := h.good.chain
    omega
  · exact hc
end Go.Proofs.YtejhoefmcldpnaaGreat
namespace Go.Proofs.YtejhoefmcldpnaaGreat
open Go.RowKit Go.Maps
/-- A segment of the program's, as a list: its first number, its entries, whether it is fresh. -/
abbrev Sgf := Nat × List (List Nat) × Bool
def bareP (x : Sgf) : Sg := (x.1, x.2.1)
theorem chain_idx : ∀ {S : List Sg} {i n : Nat}, Chain i S n → (∀ a (h : a + 1 < S.length), S[a + 1].1 = S[a].1 + S[a].2.length) ∧ (∀ h : 0 < S.length, S[0].1 = i ∧ S[S.length - 1].1 + S[S.length - 1].2.length = n) := by
  intro S
  induction S with
  | nil => intro i n _; exact ⟨fun a h => absurd h (by simp), fun h => absurd h (by simp)⟩
  | cons s r ih =>
    intro i n h
    obtain ⟨h1, h2⟩ := h
    obtain ⟨g1, g2⟩ := ih h2
    refine ⟨fun a h => ?_, fun h => ⟨h1, ?_⟩⟩
    · rcases a with _ | a
      · have hr : 0 < r.length := by simpa using h
        have := (g2 hr).1
        simp only [List.getElem_cons_succ, List.getElem_cons_zero]
        rw [this, h1]
      · have hr : a + 1 < r.length := by simpa using h
        simp only [List.getElem_cons_succ]
        exact g1 a hr
    · rcases r with _ | ⟨t, r⟩
      · have h2 : i + s.2.length = n := h2
        show s.1 + s.2.length = n
        rw [h1]
        exact h2
      · have := (g2 (by simp)).2
        simpa using this
theorem chain_rise {S : List Sg} {i n : Nat} (h : Chain i S n) (hs : ∀ s ∈ S.dropLast, s.2 ≠ []) : ∀ a b (ha : a < S.length) (hb : b < S.length), a < b → S[a].1 < S[b].1 := by
  have hstep : ∀ a (h2 : a + 1 < S.length), S[a].1 < S[a + 1].1 := fun a h2 => by
    rw [(chain_idx h).1 a h2]
    have hm : S[a] ∈ S.dropLast := by
      rw [List.dropLast_eq_take]
      exact List.mem_take_iff_getElem.2 ⟨a, by omega, rfl⟩
    have := List.length_pos_iff.2 (hs _ hm)
    omega
  intro a b ha hb hab
  obtain ⟨d, rfl⟩ : ∃ d, b = a + 1 + d := ⟨b - a - 1, by omega⟩
  induction d with
  | zero => exact hstep a hb
  | succ d ih => exact Nat.lt_trans (ih (by omega) (by omega)) (hstep (a + 1 + d) hb)
theorem chain_ends {S : List Sg} {i n : Nat} (h : Chain i S n) (hs : ∀ s ∈ S.dropLast, s.2 ≠ []) : ∀ a b (ha : a < S.length) (hb : b < S.length), a < b → S[a].1 + S[a].2.length ≤ S[b].1 := by
  intro a b ha hb hab
  rw [← (chain_idx h).1 a (by omega)]
  by_cases hd : a + 1 = b
  · subst hd
    exact Nat.le_refl _
  · exact Nat.le_of_lt (chain_rise h hs (a + 1) b (by omega) hb (by omega))
theorem getE_at {S : List Sg} {n j : Nat} {d : List Nat} {z : Int} (hj : j < S.length) (h1 : (S[j].1 : Int) ≤ z) (h2 : z < (S[j].1 : Int) + S[j].2.length) (h3 : ∀ k (hk : k < j), (S[k].1 : Int) + S[k].2.length ≤ z) : getE ⟨S, n, d⟩ z = (S[j].2.getD (z - S[j].1).toNat [], 0) := by
  unfold getE
  dsimp only
  have e : S.find? (fun s => decide ((s.1 : Int) ≤ z ∧ z < (s.1 : Int) + s.2.length)) = some S[j] := by
    rw [List.find?_eq_some_iff_getElem]
    refine ⟨by simpa using ⟨h1, h2⟩, j, hj, rfl, fun k hk => ?_⟩
    have := h3 k hk
    simp only [Bool.not_eq_eq_eq_not, Bool.not_true, decide_eq_false_iff_not]
    omega
  rw [e]
/-- Where the program finds an entry, the document does. -/
theorem getE_ahead {S : List Sg} {i n j : Nat} {d : List Nat} {z : Int} (h : Chain i S n) (hs : ∀ s ∈ S.dropLast, s.2 ≠ []) (hz1 : (i : Int) ≤ z) (hz2 : z < (n : Int)) (hjl : j ≤ S.length) (hj : ∀ k (hk : k < S.length), k < j ↔ (S[k].1 : Int) < z + 1) :
    ∃ _ : 1 ≤ j, ∃ h2 : j - 1 < S.length, (S[j - 1].1 : Int) ≤ z ∧ z < (S[j - 1].1 : Int) + S[j - 1].2.length ∧ getE ⟨S, n, d⟩ z = (S[j - 1].2.getD (z - S[j - 1].1).toNat [], 0) := by
  obtain ⟨c1, c2⟩ := chain_idx h
  have hpos : 0 < S.length := by
    rcases S with _ | ⟨s, r⟩
    · have : i = n := h
      omega
    · simp
  have h0 := (c2 hpos).1
  have hn := (c2 hpos).2
  have hj1 : 1 ≤ j := by
    have := (hj 0 hpos).2 (by rw [h0]; omega)
    omega
  have hjs : j - 1 < S.length := by omega
  have k1 : (S[j - 1].1 : Int) ≤ z := by
    have := (hj (j - 1) hjs).1 (by omega)
    omega
  have k2 : z < (S[j - 1].1 : Int) + S[j - 1].2.length := by
    by_cases hjl2 : j < S.length
    · have e := c1 (j - 1) (by omega)
      have e2 : S[j - 1 + 1]'(by omega) = S[j] := by congr 1; omega
      rw [e2] at e
      have := fun q => (hj j hjl2).2 q
      have h5 : ¬ ((S[j].1 : Int) < z + 1) := fun q => by have := this q; omega
      omega
    · have e2 : S[S.length - 1]'(by omega) = S[j - 1] := by congr 1; omega
      rw [e2] at hn
      omega
  refine ⟨hj1, hjs, k1, k2, getE_at hjs k1 k2 fun k hk => ?_⟩
  have := chain_ends h hs k (j - 1) (by omega) hjs hk
  omega
theorem getE_out {S : List Sg} {i n : Nat} {d : List Nat} {z : Int} (h : Chain i S n) (hz : z < (i : Int) ∨ (n : Int) ≤ z) : getE ⟨S, n, d⟩ z = ([], 7) := by
  rw [getE_chain z h, if_neg (by omega)]
end Go.Proofs.YtejhoefmcldpnaaGreat
namespace Go.Proofs.YtejhoefmcldpnaaGreat
open Go.RowKit Go.Maps
theorem ext_takeP (s : ByteArray) (b : Nat) : (s.extract 0 b).toList = s.data.toList.take b := by
  rw [ByteArray.toList_eq, ByteArray.data_extract, Array.toList_extract]
  simp [List.extract]
theorem ext_dropP (s : ByteArray) (b : Nat) : (s.extract b s.size).data.toList = s.data.toList.drop b := by
  rw [ByteArray.data_extract, Array.toList_extract]
  have h : s.data.toList.length = s.size := rfl
  simp [List.extract]
  exact List.take_of_length_le (by rw [List.length_drop, h]; exact Nat.le_refl _)
theorem byte_atP (s : ByteArray) (p : Nat) (hp : p < s.size) : (s[p]'hp) = s.data.toList.getD p 0 := by
  have h1 : s.data.toList.getD p 0 = s.data.toList[p]'hp := by
    rw [List.getD_eq_getElem?_getD, List.getElem?_eq_getElem hp]
    rfl
  rw [h1]
  rfl
theorem drop_byteP (s : Str) (p : Nat) (hp : p < s.length) : s.drop p = s.getD p 0 :: s.drop (p + 1) := by
  rw [List.drop_eq_getElem_cons hp]
  simp [hp]
set_option maxRecDepth 100000 in
theorem hasprefix_any (s k : ByteArray) (w : World) :
    Calls Tryz.prog 146 #[.string s, .string k] w fun e w' => e = .returned (.bool (decide (s.data.toList.take k.size = k.data.toList))) ∧ Below w.heap.size w w' := by
  obtain ⟨b, hb⟩ : ∃ b, k.size = b := ⟨_, rfl⟩
  obtain ⟨a, ha⟩ : ∃ a, s.size = a := ⟨_, rfl⟩
  have hsl : s.data.toList.length = a := ha
  have hkl : k.data.toList.length = b := hb
  by_cases hle : b ≤ a
  · by_cases h : s.data.toList.take k.size = k.data.toList
    · have hpre : ((s.extract 0 k.size).toList == k.toList) = true := by
        rw [ext_takeP, ByteArray.toList_eq]
        simpa using h
      have hd : decide (s.data.toList.take k.size = k.data.toList) = true := decide_eq_true h
      rw [hd]
      rw [hb] at hpre
      have h1 : (b : Int) ≤ (a : Int) := by omega
      clear hd h hsl hkl
      go_enter Tryz.func146, Tryz.ntmps146
      go_wp2_with fail
      go_ret
      exact ⟨rfl, Below.refl _ _⟩
    · have hpre : ((s.extract 0 k.size).toList == k.toList) = false := by
        rw [ext_takeP, ByteArray.toList_eq]
        simpa using h
      have hd : decide (s.data.toList.take k.size = k.data.toList) = false := decide_eq_false h
      rw [hd]
      rw [hb] at hpre
      have h1 : (b : Int) ≤ (a : Int) := by omega
      clear hd h hsl hkl
      go_enter Tryz.func146, Tryz.ntmps146
      go_wp2_with fail
      go_ret
      exact ⟨rfl, Below.refl _ _⟩
  · have hd : decide (s.data.toList.take k.size = k.data.toList) = false := decide_eq_false (fun e => by
      have := congrArg List.length e
      rw [List.length_take, hkl, hsl, hb] at this
      omega)
    rw [hd]
    have h1 : (a : Int) < (b : Int) := by omega
    clear hd hsl hkl
    go_enter Tryz.func146, Tryz.ntmps146
    go_wp2_with fail
    go_ret
    exact ⟨rfl, Below.refl _ _⟩
theorem prefix_size {s k : ByteArray} (h : s.data.toList.take k.size = k.data.toList) : k.size ≤ s.size := by
  have := congrArg List.length h
  have h1 : s.data.toList.length = s.size := rfl
  have h2 : k.data.toList.length = k.size := rfl
  rw [List.length_take, h1, h2] at this
  omega
set_option maxRecDepth 100000 in
theorem cutprefix_in (s k : ByteArray) (w : World) (h : s.data.toList.take k.size = k.data.toList) :
    Calls Tryz.prog 139 #[.string s, .string k] w fun e w' => ∃ u : ByteArray, e = .returned (.tuple #[.string u, .bool true]) ∧ u.data.toList = s.data.toList.drop k.size ∧ Below w.heap.size w w' := by
  have HP := hasprefix_any s k w
  rw [decide_eq_true h] at HP
  have HP := hide HP
  have hsz := prefix_size h
  have hu := ext_dropP s k.size
  obtain ⟨b, hb⟩ : ∃ b, k.size = b := ⟨_, rfl⟩
  obtain ⟨a, ha⟩ : ∃ a, s.size = a := ⟨_, rfl⟩
  rw [hb, ha] at hu
  rw [hb, ha] at hsz
  rw [hb]
  have h1 : (b : Int) ≤ (a : Int) := by omega
  have h2 : (0 : Int) ≤ (b : Int) := by omega
  have HU := hide hu
  clear hsz hu h
  go_enter Tryz.func139, Tryz.ntmps139
  go_wp2_with fail
  refine HP.out.mono ?_
  rintro e w1 ⟨rfl, k1⟩
  have K1 := hide k1
  clear k1
  go_wp2_with fail
  go_ret2
  exact ⟨_, rfl, HU.out, K1.out⟩
set_option maxRecDepth 100000 in
theorem cutprefix_no (s k : ByteArray) (w : World) (h : s.data.toList.take k.size ≠ k.data.toList) :
    Calls Tryz.prog 139 #[.string s, .string k] w fun e w' => e = .returned (.tuple #[.string s, .bool false]) ∧ Below w.heap.size w w' := by
  have HP := hasprefix_any s k w
  rw [decide_eq_false h] at HP
  have HP := hide HP
  clear h
  go_enter Tryz.func139, Tryz.ntmps139
  go_wp2_with fail
  refine HP.out.mono ?_
  rintro e w1 ⟨rfl, k1⟩
  have K1 := hide k1
  clear k1
  go_wp2_with fail
  go_ret2
  exact ⟨rfl, K1.out⟩
set_option maxRecDepth 100000 in
theorem cutpre_yes (s k : ByteArray) (w : World) (h : s.data.toList.take k.size = k.data.toList) :
    Calls Tryz.prog 117 #[.string s, .string k] w fun e w' => ∃ u : ByteArray, e = .returned (.tuple #[.string u, .bool true]) ∧ u.data.toList = s.data.toList.drop k.size ∧ Below w.heap.size w w' := by
  have HP := hide (cutprefix_in s k w h)
  clear h
  go_enter Tryz.func117, Tryz.ntmps117
  go_wp2_with fail
  refine HP.out.mono ?_
  rintro e w1 ⟨u, rfl, hu, k1⟩
  have K1 := hide k1
  have HU := hide hu
  clear k1 hu
  go_wp2_with fail
  go_ret2
  exact ⟨_, rfl, HU.out, K1.out⟩
set_option maxRecDepth 100000 in
theorem cutpre_no (s k : ByteArray) (w : World) (h : s.data.toList.take k.size ≠ k.data.toList) :
    Calls Tryz.prog 117 #[.string s, .string k] w fun e w' => e = .returned (.tuple #[.string s, .bool false]) ∧ Below w.heap.size w w' := by
  have HP := hide (cutprefix_no s k w h)
  clear h
  go_enter Tryz.func117, Tryz.ntmps117
  go_wp2_with fail
  refine HP.out.mono ?_
  rintro e w1 ⟨rfl, k1⟩
  have K1 := hide k1
  clear k1
  go_wp2_with fail
  go_ret2
  exact ⟨rfl, K1.out⟩
/-- What number makes of a name. -/
theorem numL_no {k s : Str} (h : s.take (k.length + 1) ≠ k ++ [46]) : numL k s = none := by
  unfold numL
  by_cases hl : s.length = k.length + 9
  · by_cases h1 : s.take k.length = k
    · by_cases h2 : s.getD k.length 0 = 46
      · refine absurd ?_ h
        have e4 := drop_byteP s k.length (by omega)
        rw [h2] at e4
        have e5 : s = k ++ 46 :: s.drop (k.length + 1) := by
          conv => lhs; rw [← List.take_append_drop k.length s, h1, e4]
        rw [e5, show k ++ 46 :: s.drop (k.length + 1) = (k ++ [46]) ++ s.drop (k.length + 1) by simp]
        rw [List.take_left' (by simp)]
      · rw [if_pos (.inr (.inr h2))]
    · rw [if_pos (.inr (.inl h1))]
  · rw [if_pos (.inl hl)]
theorem numL_yes {k s : Str} (h : s.take (k.length + 1) = k ++ [46]) : numL k s = if (s.drop (k.length + 1)).length ≠ 8 then none else valD 0 (s.drop (k.length + 1)) := by
  have hl : k.length + 1 ≤ s.length := by
    have := congrArg List.length h
    rw [List.length_take, List.length_append] at this
    simp at this
    omega
  have h1 : s.take k.length = k := by
    have := congrArg (List.take k.length) h
    rw [List.take_take, show min k.length (k.length + 1) = k.length by omega, List.take_left' rfl] at this
    exact this
  have h2 : s.getD k.length 0 = 46 := by
    have := congrArg (fun l : Str => l.getD k.length 0) h
    simp only [List.getD_eq_getElem?_getD] at this ⊢
    rw [List.getElem?_take_of_lt (by omega)] at this
    rw [this]
    simp
  unfold numL
  rw [List.length_drop]
  by_cases h8 : s.length = k.length + 9
  · rw [if_neg (by rintro (e | e | e); exact e h8; exact e h1; exact e h2), if_neg (by omega)]
  · rw [if_pos (.inl h8), if_pos (by omega)]
end Go.Proofs.YtejhoefmcldpnaaGreat
