/- What Open finds on a disk that holds a log's segments alone, as lists. It names nothing of the program. What a crash leaves of a log, opened anew, as lists. It names nothing of the program. Entries that are laid and synced, as lists: a log and a disk that holds it alone. It names nothing of the program. -/
import Derived.Test.YtejhoefmcldpnaaGreatRk14
import Derived.Test.YtejhoefmcldpnaaGreatRk2
namespace Go.Proofs.YtejhoefmcldpnaaGreat
open Go.RowKit Go.Maps
/-- A file of a log: its number, its bytes, how many last. -/
abbrev Fl := Nat × (List Nat × Nat)
def filesL (k : Str) (X : List Fl) : DiskL := X.map fun x => (nameL k x.1, x.2)
/-- Numbers from 1 on that rise. -/
def Rises (X : List Fl) : Prop := X.Pairwise (fun a b => a.1 < b.1) ∧ ∀ x ∈ X, 1 ≤ x.1 ∧ x.1 < 100000000
theorem files_rise {k : Str} {X : List Fl} (h : Rises X) : Rise (filesL k X) := by
  obtain ⟨h1, h2⟩ := h
  unfold Rise filesL
  rw [List.pairwise_map]
  refine h1.imp_of_mem ?_
  intro a b ha hb hab
  exact name_before k hab (h2 b hb).2
theorem files_app (k : Str) (X Y : List Fl) : filesL k (X ++ Y) = filesL k X ++ filesL k Y := by unfold filesL; rw [List.map_append]
theorem files_cons (k : Str) (x : Fl) (Y : List Fl) : filesL k (x :: Y) = (nameL k x.1, x.2) :: filesL k Y := rfl
theorem Rises.tail {x : Fl} {X : List Fl} (h : Rises (x :: X)) : Rises X := ⟨(List.pairwise_cons.1 h.1).2, fun y hy => h.2 y (List.mem_cons_of_mem _ hy)⟩
theorem Rises.drop_mid {x : Fl} {D X : List Fl} (h : Rises (D ++ x :: X)) : Rises (D ++ X) := by
  have hs : (D ++ X).Sublist (D ++ x :: X) := List.Sublist.append (List.Sublist.refl D) (List.sublist_cons_self x X)
  exact ⟨h.1.sublist hs, fun y hy => h.2 y (hs.subset hy)⟩
theorem Rises.putW_mid {n : Nat} {a b : List Nat × Nat} {D X : List Fl} (h : Rises (D ++ (n, a) :: X)) : Rises (D ++ (n, b) :: X) := by
  obtain ⟨h1, h2⟩ := h
  rw [List.pairwise_append] at h1
  obtain ⟨p1, p2, p3⟩ := h1
  rw [List.pairwise_cons] at p2
  refine ⟨?_, fun y hy => ?_⟩
  · rw [List.pairwise_append, List.pairwise_cons]
    refine ⟨p1, ⟨p2.1, p2.2⟩, fun x hx y hy => ?_⟩
    rcases List.mem_cons.1 hy with rfl | hy
    · exact p3 x hx (n, a) (List.mem_cons_self)
    · exact p3 x hx y (List.mem_cons_of_mem _ hy)
  · rcases List.mem_append.1 hy with hy | hy
    · exact h2 y (List.mem_append.2 (.inl hy))
    · rcases List.mem_cons.1 hy with rfl | hy
      · exact h2 (n, a) (List.mem_append.2 (.inr (List.mem_cons_self)))
      · exact h2 y (List.mem_append.2 (.inr (List.mem_cons_of_mem _ hy)))
theorem getW_mid {k : Str} {n : Nat} {a : List Nat × Nat} {D X : List Fl} (h : Rises (D ++ (n, a) :: X)) : getK (nameL k n) (filesL k (D ++ (n, a) :: X)) = some a := by
  refine mem_getK (files_rise h) ?_
  unfold filesL
  exact List.mem_map.2 ⟨(n, a), by simp, rfl⟩
theorem del_mid {k : Str} {n : Nat} {a : List Nat × Nat} {D X : List Fl} (h : Rises (D ++ (n, a) :: X)) : delK (nameL k n) (filesL k (D ++ (n, a) :: X)) = filesL k (D ++ X) := by
  obtain ⟨h1, h2⟩ := h
  have hne : ∀ y ∈ D ++ X, nameL k y.1 ≠ nameL k n := fun y hy e => by
    have hy' : y ∈ D ++ (n, a) :: X := by
      rcases List.mem_append.1 hy with h | h
      · exact List.mem_append.2 (.inl h)
      · exact List.mem_append.2 (.inr (List.mem_cons_of_mem _ h))
    have e2 : y.1 = n := name_inj k (h2 y hy').2 (h2 (n, a) (by simp)).2 e
    rw [List.pairwise_append] at h1
    obtain ⟨p1, p2, p3⟩ := h1
    rcases List.mem_append.1 hy with h | h
    · have := p3 y h (n, a) (List.mem_cons_self)
      simp only at this
      omega
    · have := (List.pairwise_cons.1 p2).1 y h
      simp only at this
      omega
  rw [files_app, files_cons, files_app]
  unfold delK
  rw [List.filter_append, List.filter_cons]
  have f1 : (filesL k D).filter (fun p => !(p.1 == nameL k n)) = filesL k D := by
    refine List.filter_eq_self.2 fun p hp => ?_
    obtain ⟨y, hy, rfl⟩ := List.mem_map.1 hp
    simp [hne y (List.mem_append.2 (.inl hy))]
  have f2 : (filesL k X).filter (fun p => !(p.1 == nameL k n)) = filesL k X := by
    refine List.filter_eq_self.2 fun p hp => ?_
    obtain ⟨y, hy, rfl⟩ := List.mem_map.1 hp
    simp [hne y (List.mem_append.2 (.inr hy))]
  rw [f1, f2]
  simp
theorem putW_mid {k : Str} {n : Nat} {a b : List Nat × Nat} {D X : List Fl} (h : Rises (D ++ (n, a) :: X)) : putK (nameL k n) b (filesL k (D ++ (n, a) :: X)) = filesL k (D ++ (n, b) :: X) := by
  have hr := files_rise (k := k) h
  have hi : D.length < (filesL k (D ++ (n, a) :: X)).length := by unfold filesL; simp
  have e : (filesL k (D ++ (n, a) :: X))[D.length] = (nameL k n, a) := by
    unfold filesL
    simp
  have := putK_at hr D.length hi b
  rw [e] at this
  rw [this]
  unfold filesL
  simp [List.map_append]
/-- What Open reads of files, and what it leaves of them; the number that is to come, if there is one. -/
def openF : Option Nat → List Fl → List Sg × List Fl
  | _, [] => ([], [])
  | q, (n, f) :: r =>
    if (∃ e, q = some e ∧ n ≠ e) then ([], [])
    else if (segL f.1 n).2.2 = true then ((n, (segL f.1 n).1) :: (openF (some (n + (segL f.1 n).1.length)) r).1, (n, f) :: (openF (some (n + (segL f.1 n).1.length)) r).2)
    else if (segL f.1 n).2.1 = 0 then ([], [])
    else ([(n, (segL f.1 n).1)], [(n, (f.1.take (segL f.1 n).2.1, min f.2 (segL f.1 n).2.1))])
/-- Where a row of segments ends. -/
def endL : Nat → List Sg → Nat
  | n, [] => n
  | _, s :: r => endL (s.1 + s.2.length) r
theorem endL_app : ∀ (n : Nat) (a : List Sg) (s : Sg), endL n (a ++ [s]) = s.1 + s.2.length := by
  intro n a
  induction a generalizing n with
  | nil => intro s; rfl
  | cons x a ih => intro s; exact ih _ s
theorem readL_mid {k : Str} {n : Nat} {a : List Nat × Nat} {D X : List Fl} (h : Rises (D ++ (n, a) :: X)) : (readL (nameL k n) (filesL k (D ++ (n, a) :: X))).1 = a.1 := by unfold readL; rw [getW_mid h]
theorem remL_mid {k : Str} {n : Nat} {a : List Nat × Nat} {D X : List Fl} (h : Rises (D ++ (n, a) :: X)) : (remL (nameL k n) (filesL k (D ++ (n, a) :: X))).1 = filesL k (D ++ X) := by unfold remL; rw [getW_mid h]; exact del_mid h
theorem cutL_mid {k : Str} {n m : Nat} {a : List Nat × Nat} {D X : List Fl} (h : Rises (D ++ (n, a) :: X)) (hm : m ≤ a.1.length) : (cutL (nameL k n) (m : Int) (filesL k (D ++ (n, a) :: X))).1 = filesL k (D ++ (n, (a.1.take m, min a.2 m)) :: X) := by
  unfold cutL
  rw [getW_mid h]
  dsimp only
  rw [if_neg (by omega), Int.toNat_natCast]
  exact putW_mid h
theorem openStep_bad {k : Str} {o : OpenS} {n : Nat} (hn : n < 100000000) (h : o.bad = true ∨ n < 1 ∨ (o.log.segs ≠ [] ∧ n ≠ o.log.next)) : openStep k o (nameL k n) = ⟨true, o.log, (remL (nameL k n) o.disk).1⟩ := by
  unfold openStep
  rw [num_name k hn]
  dsimp only
  rw [if_pos h]
theorem openStep_good {k : Str} {o : OpenS} {n : Nat} (hn : n < 100000000) (h : ¬ (o.bad = true ∨ n < 1 ∨ (o.log.segs ≠ [] ∧ n ≠ o.log.next))) (b : List Nat) (hb : (readL (nameL k n) o.disk).1 = b) :
    openStep k o (nameL k n) = if (segL b n).2.2 = true then ⟨false, ⟨o.log.segs ++ [(n, (segL b n).1)], n + (segL b n).1.length, o.log.dirty ++ [n]⟩, o.disk⟩
      else if (segL b n).2.1 = 0 then ⟨true, o.log, (remL (nameL k n) o.disk).1⟩
      else ⟨true, ⟨o.log.segs ++ [(n, (segL b n).1)], n + (segL b n).1.length, o.log.dirty ++ [n]⟩, (cutL (nameL k n) ((segL b n).2.1 : Int) o.disk).1⟩ := by
  unfold openStep
  rw [num_name k hn]
  dsimp only
  rw [if_neg h, hb]
/-- Behind a place that is wrong all files go. -/
theorem open_rest {k : Str} : ∀ (R D : List Fl) (M : LogL), Rises (D ++ R) → ((filesL k R).map (·.1)).foldl (openStep k) ⟨true, M, filesL k (D ++ R)⟩ = ⟨true, M, filesL k D⟩ := by
  intro R
  induction R with
  | nil => intro D M _; rw [List.append_nil]; rfl
  | cons x R ih =>
    intro D M h
    obtain ⟨n, a⟩ := x
    have hn := (h.2 (n, a) (by simp)).2
    show List.foldl (openStep k) (openStep k ⟨true, M, filesL k (D ++ (n, a) :: R)⟩ (nameL k n)) ((filesL k R).map (·.1)) = _
    rw [openStep_bad hn (.inl rfl)]
    dsimp only
    rw [remL_mid h]
    exact ih D M h.drop_mid
theorem segL_le (b : List Nat) (n : Nat) : (segL b n).2.1 ≤ b.length := by
  unfold segL
  suffices h : ∀ (f : Nat) (b : List Nat) (i : Nat), (readF f b i).2.1 ≤ b.length from h _ _ _
  intro f
  induction f with
  | zero => intro b i; exact Nat.zero_le _
  | succ f ih =>
    intro b i
    rw [readF_step]
    split
    · exact Nat.zero_le _
    · split
      · exact Nat.zero_le _
      · split
        · exact Nat.zero_le _
        · have h1 := ih (b.drop (decL b).2.1) (i + 1)
          have h2 := (decL_le b).1
          rw [List.length_drop] at h1
          show (decL b).2.1 + _ ≤ _
          omega
def quoteL (S : List Sg) (nx : Nat) : Option Nat := if S = [] then none else some nx
theorem open_files {k : Str} : ∀ (R D : List Fl) (S : List Sg) (nx : Nat) (dy : List Nat), Rises (D ++ R) → (S = [] ∨ nx = endL 1 S) →
    ∃ bad, ((filesL k R).map (·.1)).foldl (openStep k) ⟨false, ⟨S, nx, dy⟩, filesL k (D ++ R)⟩ = ⟨bad, ⟨S ++ (openF (quoteL S nx) R).1, (if (openF (quoteL S nx) R).1 = [] then nx else endL nx (openF (quoteL S nx) R).1), dy ++ (openF (quoteL S nx) R).1.map (·.1)⟩, filesL k (D ++ (openF (quoteL S nx) R).2)⟩ := by
  intro R
  induction R with
  | nil => intro D S nx dy _ _; exact ⟨false, by simp [openF, filesL]⟩
  | cons x R ih =>
    intro D S nx dy h hS
    obtain ⟨n, a⟩ := x
    obtain ⟨hn1, hn⟩ := h.2 (n, a) (by simp)
    simp only at hn1 hn
    show ∃ bad, List.foldl (openStep k) (openStep k ⟨false, ⟨S, nx, dy⟩, filesL k (D ++ (n, a) :: R)⟩ (nameL k n)) ((filesL k R).map (·.1)) = _
    by_cases hw : S ≠ [] ∧ n ≠ nx
    · have hq : ∃ e, quoteL S nx = some e ∧ n ≠ e := ⟨nx, by unfold quoteL; rw [if_neg hw.1], hw.2⟩
      have e : openF (quoteL S nx) ((n, a) :: R) = ([], []) := by unfold openF; rw [if_pos hq]
      rw [e, openStep_bad hn (.inr (.inr hw))]
      dsimp only
      rw [remL_mid h]
      refine ⟨true, ?_⟩
      rw [open_rest R D _ h.drop_mid]
      simp
    · have hq : ¬ ∃ e, quoteL S nx = some e ∧ n ≠ e := by
        rintro ⟨e, h1, h2⟩
        unfold quoteL at h1
        split at h1
        · cases h1
        · rename_i h3
          have := Option.some.inj h1
          exact hw ⟨h3, by rw [this]; exact h2⟩
      have hg := openStep_good (k := k) (o := ⟨false, ⟨S, nx, dy⟩, filesL k (D ++ (n, a) :: R)⟩) hn (by rintro (h1 | h1 | h1); exact absurd h1 (by simp); omega; exact hw h1) a.1 (readL_mid h)
      rw [hg]
      obtain ⟨sg, hsg⟩ : ∃ sg, sg = segL a.1 n := ⟨_, rfl⟩
      have hle := segL_le a.1 n
      rw [← hsg] at hle ⊢
      by_cases hwh : sg.2.2 = true
      · rw [if_pos hwh]
        have e : openF (quoteL S nx) ((n, a) :: R) = ((n, sg.1) :: (openF (some (n + sg.1.length)) R).1, (n, a) :: (openF (some (n + sg.1.length)) R).2) := by
          conv => lhs; unfold openF
          rw [if_neg hq, ← hsg, if_pos hwh]
        rw [e]
        have eD : D ++ (n, a) :: R = (D ++ [(n, a)]) ++ R := by simp
        have h' := h
        rw [eD] at h'
        obtain ⟨bad, hb⟩ := ih (D ++ [(n, a)]) (S ++ [(n, sg.1)]) (n + sg.1.length) (dy ++ [n]) h' (.inr (endL_app 1 S (n, sg.1)).symm)
        have hq2 : quoteL (S ++ [(n, sg.1)]) (n + sg.1.length) = some (n + sg.1.length) := by unfold quoteL; rw [if_neg (by simp)]
        rw [hq2] at hb
        refine ⟨bad, ?_⟩
        rw [eD, hb]
        have e3 : (if (openF (some (n + sg.1.length)) R).1 = [] then n + sg.1.length else endL (n + sg.1.length) (openF (some (n + sg.1.length)) R).1) = endL (n + sg.1.length) (openF (some (n + sg.1.length)) R).1 := by
          split
          · rename_i h0
            rw [h0]
            rfl
          · rfl
        rw [e3, if_neg (by simp)]
        simp [endL]
      · rw [if_neg hwh]
        by_cases h0 : sg.2.1 = 0
        · rw [if_pos h0]
          have e : openF (quoteL S nx) ((n, a) :: R) = ([], []) := by
            conv => lhs; unfold openF
            rw [if_neg hq, ← hsg, if_neg hwh, if_pos h0]
          rw [e]
          dsimp only
          rw [remL_mid h]
          refine ⟨true, ?_⟩
          rw [open_rest R D _ h.drop_mid]
          simp
        · rw [if_neg h0]
          have e : openF (quoteL S nx) ((n, a) :: R) = ([(n, sg.1)], [(n, (a.1.take sg.2.1, min a.2 sg.2.1))]) := by
            conv => lhs; unfold openF
            rw [if_neg hq, ← hsg, if_neg hwh, if_neg h0]
          rw [e]
          dsimp only
          rw [cutL_mid h hle]
          refine ⟨true, ?_⟩
          have hp := h.putW_mid (b := (a.1.take sg.2.1, min a.2 sg.2.1))
          have eD : D ++ (n, (a.1.take sg.2.1, min a.2 sg.2.1)) :: R = (D ++ [(n, (a.1.take sg.2.1, min a.2 sg.2.1))]) ++ R := by simp
          rw [eD] at hp ⊢
          rw [open_rest R _ _ hp]
          simp [endL]
/-- What Open answers, of files that are a log's alone. -/
theorem openR_files {k : Str} {X : List Fl} (h : Rises X) : (openR k (filesL k X)).log = ⟨(openF none X).1, endL 1 (openF none X).1, (openF none X).1.map (·.1)⟩ ∧ (openR k (filesL k X)).disk = filesL k (openF none X).2 := by
  obtain ⟨bad, hb⟩ := open_files (k := k) X [] [] 1 [] h (.inl rfl)
  unfold openR
  have hq : quoteL [] 1 = none := rfl
  rw [hq] at hb
  rw [List.nil_append] at hb
  rw [hb]
  constructor
  · dsimp only
    congr 1
    split
    · rename_i h0
      rw [h0]
      rfl
    · rfl
  · rfl
end Go.Proofs.YtejhoefmcldpnaaGreat
namespace Go.Proofs.YtejhoefmcldpnaaGreat
open Go.RowKit Go.Maps
/-- A segment and how many bytes of its file last. -/
abbrev Tl := Nat × List (List Nat) × Nat
def fileT (t : Tl) : Fl := (t.1, (recsL t.1 t.2.1, t.2.2))
def segT (t : Tl) : Sg := (t.1, t.2.1)
def flatT (T : List Tl) : List (List Nat) := T.flatMap fun t => t.2.1
def flatS (S : List Sg) : List (List Nat) := S.flatMap fun s => s.2
def Chain : Nat → List Sg → Nat → Prop
  | i, [], n => i = n
  | i, s :: r, n => s.1 = i ∧ Chain (i + s.2.length) r n
theorem chain_end : ∀ {S : List Sg} {i n : Nat}, Chain i S n → endL i S = n := by
  intro S
  induction S with
  | nil => intro i n h; exact h
  | cons s r ih =>
    intro i n h
    obtain ⟨h1, h2⟩ := h
    show endL (s.1 + s.2.length) r = n
    rw [h1]
    exact ih h2
theorem chain_len : ∀ {S : List Sg} {i n : Nat}, Chain i S n → n = i + (flatS S).length := by
  intro S
  induction S with
  | nil => intro i n h; simp [flatS]; exact h.symm
  | cons s r ih =>
    intro i n h
    have := ih h.2
    rw [this]
    simp [flatS]
    omega
theorem chain_app : ∀ {S R : List Sg} {i n m : Nat}, Chain i S n → Chain n R m → Chain i (S ++ R) m := by
  intro S
  induction S with
  | nil => intro R i n m h1 h2; have : i = n := h1; rw [this]; exact h2
  | cons s r ih => intro R i n m h1 h2; exact ⟨h1.1, ih h1.2 h2⟩
theorem chain_first {S : List Sg} {i n : Nat} {d : List Nat} (h : Chain i S n) : firstL ⟨S, n, d⟩ = i := by
  rcases S with _ | ⟨s, r⟩
  · exact Eq.symm h
  · exact h.1
/-- Each entry of a log is told by its number, and no other one. -/
theorem getE_chain : ∀ {S : List Sg} {i n nx : Nat} {d : List Nat} (z : Int), Chain i S n → getE ⟨S, nx, d⟩ z = if (i : Int) ≤ z ∧ z < (n : Int) then ((flatS S).getD (z - i).toNat [], 0) else ([], 7) := by
  intro S
  induction S with
  | nil =>
    intro i n nx d z h
    have : i = n := h
    rw [if_neg (by omega)]
    rfl
  | cons s r ih =>
    intro i n nx d z h
    obtain ⟨h1, h2⟩ := h
    have hl := chain_len h2
    rw [getE_cons, ih z h2, h1]
    by_cases hz : (i : Int) ≤ z ∧ z < (i : Int) + s.2.length
    · rw [if_pos hz, if_pos (by omega)]
      have e : (flatS (s :: r)).getD (z - i).toNat [] = s.2.getD (z - i).toNat [] := by
        show (s.2 ++ flatS r).getD (z - i).toNat [] = _
        simp only [List.getD_eq_getElem?_getD]
        rw [List.getElem?_append_left (by omega)]
      rw [e]
    · rw [if_neg hz]
      by_cases hw : (i : Int) ≤ z ∧ z < (n : Int)
      · rw [if_pos hw, if_pos (by omega)]
        have e : (flatS (s :: r)).getD (z - i).toNat [] = (flatS r).getD (z - ((i + s.2.length : Nat) : Int)).toNat [] := by
          show (s.2 ++ flatS r).getD (z - i).toNat [] = _
          simp only [List.getD_eq_getElem?_getD]
          rw [List.getElem?_append_right (by omega)]
          congr 2
          omega
        rw [e]
      · rw [if_neg hw, if_neg (by omega)]
/-- A log whose segments follow one another, none of them empty. -/
structure GoodT (i : Nat) (T : List Tl) (n : Nat) : Prop where
  chain : Chain i (T.map segT) n
  some : ∀ t ∈ T, t.2.1 ≠ []
  fits : ∀ t ∈ T, FitsAll t.1 t.2.1
  last : ∀ t ∈ T, t.2.2 ≤ (recsL t.1 t.2.1).length
theorem GoodT.tail {i n : Nat} {t : Tl} {T : List Tl} (h : GoodT i (t :: T) n) : GoodT (i + t.2.1.length) T n :=
  ⟨h.chain.2, fun x hx => h.some x (List.mem_cons_of_mem _ hx), fun x hx => h.fits x (List.mem_cons_of_mem _ hx), fun x hx => h.last x (List.mem_cons_of_mem _ hx)⟩
theorem good_from : ∀ {T : List Tl} {i n : Nat}, GoodT i T n → ∀ t ∈ T, i ≤ t.1 ∧ t.1 + t.2.1.length ≤ n := by
  intro T
  induction T with
  | nil => intro i n _ t ht; cases ht
  | cons x T ih =>
    intro i n h t ht
    have e : x.1 = i := h.chain.1
    have hle : ∀ {T : List Tl} {i n : Nat}, Chain i (T.map segT) n → i ≤ n := fun {T i n} hc => by
      have := chain_len hc
      omega
    rcases List.mem_cons.1 ht with rfl | ht
    · have := hle h.tail.chain
      omega
    · have := ih h.tail t ht
      omega
theorem good_rises {T : List Tl} {i n : Nat} (h : GoodT i T n) (hi : 1 ≤ i) (hn : n ≤ 100000000) : Rises (T.map fileT) := by
  refine ⟨?_, fun x hx => ?_⟩
  · rw [List.pairwise_map]
    induction T generalizing i with
    | nil => exact List.Pairwise.nil
    | cons t T ih =>
      rw [List.pairwise_cons]
      refine ⟨fun y hy => ?_, ih h.tail (by omega)⟩
      have e : t.1 = i := h.chain.1
      have h1 := good_from h.tail y hy
      have h2 := h.some t (List.mem_cons_self)
      have h3 : t.2.1.length ≠ 0 := fun e => h2 (List.length_eq_zero_iff.1 e)
      show t.1 < y.1
      omega
  · obtain ⟨t, ht, rfl⟩ := List.mem_map.1 hx
    have h1 := good_from h t ht
    have h2 := h.some t ht
    have h3 : t.2.1.length ≠ 0 := fun e => h2 (List.length_eq_zero_iff.1 e)
    show 1 ≤ t.1 ∧ t.1 < 100000000
    omega
/-- The files behind a crash. -/
inductive Crashed : List Tl → List Fl → Prop where
  | nil : Crashed [] []
  | cons {T : List Tl} {X : List Fl} (t : Tl) (m : Nat) (h1 : t.2.2 ≤ m) (h2 : m ≤ (recsL t.1 t.2.1).length) (h : Crashed T X) : Crashed (t :: T) ((t.1, ((recsL t.1 t.2.1).take m, m)) :: X)
theorem crash_files {k : Str} (z : Nat) : ∀ (T : List Tl) (j : Nat), (∀ t ∈ T, t.2.2 ≤ (recsL t.1 t.2.1).length) →
    ∃ X, Crashed T X ∧ (filesL k (T.map fileT)).mapIdx (fun i p => (p.1, crash1 z (i + j) p.2)) = filesL k X := by
  intro T
  induction T with
  | nil => intro j _; exact ⟨[], .nil, rfl⟩
  | cons t T ih =>
    intro j h
    obtain ⟨X, h1, h2⟩ := ih (j + 1) (fun x hx => h x (List.mem_cons_of_mem _ hx))
    have hl := h t (List.mem_cons_self)
    refine ⟨_, .cons t _ (Nat.le_add_right _ _) (crash1_le z (0 + j) (recsL t.1 t.2.1, t.2.2) hl) h1, ?_⟩
    show List.mapIdx _ ((nameL k t.1, (recsL t.1 t.2.1, t.2.2)) :: filesL k (T.map fileT)) = _ :: filesL k X
    rw [List.mapIdx_cons, ← h2]
    congr 1
    congr 1
    funext i p
    rw [show i + 1 + j = i + (j + 1) by omega]
theorem crashD_files {k : Str} (z : Nat) {T : List Tl} (h : ∀ t ∈ T, t.2.2 ≤ (recsL t.1 t.2.1).length) : ∃ X, Crashed T X ∧ crashD z (filesL k (T.map fileT)) = filesL k X := by
  obtain ⟨X, h1, h2⟩ := crash_files (k := k) z T 0 h
  exact ⟨X, h1, h2⟩
theorem Crashed.rises {T : List Tl} {X : List Fl} (h : Crashed T X) (hr : Rises (T.map fileT)) : Rises X := by
  have e : ∀ {T : List Tl} {X : List Fl}, Crashed T X → X.map (·.1) = (T.map fileT).map (·.1) := fun {T X} h => by
    induction h with
    | nil => rfl
    | cons t m _ _ _ ih => rw [List.map_cons, List.map_cons, List.map_cons, ih]; rfl
  obtain ⟨h1, h2⟩ := hr
  have h3 := List.pairwise_map (f := fun x : Fl => x.1) (R := fun a b => a < b) (l := T.map fileT)
  refine ⟨?_, fun x hx => ?_⟩
  · have p := h3.2 h1
    rw [← e h, List.pairwise_map] at p
    exact p
  · have hx1 : x.1 ∈ X.map (·.1) := List.mem_map.2 ⟨x, hx, rfl⟩
    rw [e h] at hx1
    obtain ⟨y, hy, hy2⟩ := List.mem_map.1 hx1
    rw [← hy2]
    exact h2 y hy
/-- So many entries, from the first one on, last. -/
def Synced : Nat → List Tl → Prop
  | _, [] => True
  | c, t :: r => (recsL t.1 (t.2.1.take c)).length ≤ t.2.2 ∧ Synced (c - t.2.1.length) r
theorem recs_mono (i : Nat) (es : List (List Nat)) {a b : Nat} (h : a ≤ b) : (recsL i (es.take a)).length ≤ (recsL i (es.take b)).length := by
  have e : es.take b = es.take a ++ (es.take b).drop a := by
    conv => lhs; rw [← List.take_append_drop a (es.take b)]
    rw [List.take_take, Nat.min_eq_left h]
  rw [e, recs_app, List.length_append]
  omega
/-- Opened behind a crash a log has a beginning of its entries, at least all that were synced. -/
theorem kept_open : ∀ (T : List Tl) (X : List Fl) (i n c : Nat), GoodT i T n → Crashed T X → Synced c T → c ≤ (flatT T).length →
    ∃ q, c ≤ q ∧ q ≤ (flatT T).length ∧ Chain i (openF (some i) X).1 (i + q) ∧ flatS (openF (some i) X).1 = (flatT T).take q := by
  intro T
  induction T with
  | nil =>
    intro X i n c _ hX _ hc
    cases hX
    exact ⟨0, by simpa [flatT] using hc, by simp, rfl, rfl⟩
  | cons t T ih =>
    intro X i n c hg hX hs hc
    obtain ⟨X', m, h1, h2, hX', rfl⟩ : ∃ X' m, t.2.2 ≤ m ∧ m ≤ (recsL t.1 t.2.1).length ∧ Crashed T X' ∧ X = (t.1, ((recsL t.1 t.2.1).take m, m)) :: X' := by
      cases hX with
      | cons _ m h1 h2 h => exact ⟨_, m, h1, h2, h, rfl⟩
    obtain ⟨f, es, l⟩ := t
    have ef : f = i := hg.chain.1
    subst ef
    have hfit : FitsAll f es := hg.fits _ (List.mem_cons_self)
    have hne : es ≠ [] := hg.some _ (List.mem_cons_self)
    obtain ⟨hs1, hs2⟩ := hs
    simp only at h1 h2 hs1 hs2
    have ht := hg.tail
    simp only at ht
    obtain ⟨j, j1, j2, j3, j4, j5, j6⟩ := seg_torn es f m hfit h2
    have hcj : c ≤ j ∨ j = es.length := by
      by_cases hj : j < es.length
      · left
        have h3 := j6 hj
        rcases Nat.lt_or_ge j c with h | h
        · have := recs_mono f es (show j + 1 ≤ c from h)
          omega
        · exact h
      · right
        omega
    have e1 : flatT ((f, es, l) :: T) = es ++ flatT T := rfl
    rw [e1, List.length_append] at hc
    rw [e1]
    obtain ⟨sg, hsg⟩ : ∃ sg, sg = segL ((recsL f es).take m) f := ⟨_, rfl⟩
    rw [← hsg] at j2 j3 j5
    have hq : ¬ ∃ e, some f = some e ∧ f ≠ e := by
      rintro ⟨e, h3, h4⟩
      exact h4 (Option.some.inj h3)
    by_cases hw : sg.2.2 = true
    · have eo : openF (some f) ((f, ((recsL f es).take m, m)) :: X') = ((f, sg.1) :: (openF (some (f + sg.1.length)) X').1, (f, ((recsL f es).take m, m)) :: (openF (some (f + sg.1.length)) X').2) := by
        conv => lhs; unfold openF
        rw [if_neg hq, ← hsg, if_pos hw]
      rw [eo]
      have el : sg.1.length = j := by rw [j2, List.length_take]; omega
      rw [el]
      by_cases hj : j = es.length
      · subst hj
        obtain ⟨q, q1, q2, q3, q4⟩ := ih X' (f + es.length) n (c - es.length) ht hX' hs2 (by omega)
        refine ⟨es.length + q, by omega, by rw [List.length_append]; omega, ⟨rfl, ?_⟩, ?_⟩
        · show Chain (f + sg.1.length) _ _
          rw [el, ← Nat.add_assoc]
          exact q3
        · show sg.1 ++ flatS _ = _
          rw [j2, q4, List.take_length, List.take_length_add_append]
      · have hj' : j < es.length := by omega
        have hnil : (openF (some (f + j)) X').1 = [] := by
          rcases X' with _ | ⟨⟨f2, a2⟩, X2⟩
          · rfl
          · have e2 : f2 = f + es.length := by
              cases hX' with
              | cons t2 m2 _ _ _ => exact ht.chain.1
            have hq2 : ∃ e, some (f + j) = some e ∧ f2 ≠ e := ⟨f + j, rfl, by omega⟩
            unfold openF
            rw [if_pos hq2]
        rw [hnil]
        refine ⟨j, by omega, by rw [List.length_append]; omega, ⟨rfl, ?_⟩, ?_⟩
        · show f + sg.1.length = f + j
          rw [el]
        · show sg.1 ++ [] = _
          rw [List.append_nil, j2, List.take_append_of_le_length (by omega)]
    · by_cases hj : j = es.length
      · exfalso
        subst hj
        rw [List.take_length] at j4
        have em : m = (recsL f es).length := by omega
        rw [em, List.take_length, seg_whole es f hfit] at hsg
        rw [hsg] at hw
        exact hw rfl
      · have hj' : j < es.length := by omega
        by_cases h0 : sg.2.1 = 0
        · have eo : (openF (some f) ((f, ((recsL f es).take m, m)) :: X')).1 = [] := by
            unfold openF
            rw [if_neg hq, ← hsg, if_neg hw, if_pos h0]
          have hj0 : j = 0 := by
            rcases j with _ | j
            · rfl
            · exfalso
              rw [j3] at h0
              rcases es with _ | ⟨p, r⟩
              · exact hne rfl
              · have : (recsL f ((p :: r).take (j + 1))).length = (recL f p).length + (recsL (f + 1) (r.take j)).length := by
                  show (recL f p ++ recsL (f + 1) (r.take j)).length = _
                  rw [List.length_append]
                have := rec_len f p
                omega
          rw [eo]
          exact ⟨0, by omega, Nat.zero_le _, rfl, rfl⟩
        · have eo : (openF (some f) ((f, ((recsL f es).take m, m)) :: X')).1 = [(f, sg.1)] := by
            unfold openF
            rw [if_neg hq, ← hsg, if_neg hw, if_neg h0]
          rw [eo]
          have el : sg.1.length = j := by rw [j2, List.length_take]; omega
          refine ⟨j, by omega, by rw [List.length_append]; omega, ⟨rfl, ?_⟩, ?_⟩
          · show f + sg.1.length = f + j
            rw [el]
          · show sg.1 ++ [] = _
            rw [List.append_nil, j2, List.take_append_of_le_length (by omega)]
theorem openF_cons (q : Option Nat) (n : Nat) (f : List Nat × Nat) (r : List Fl) : openF q ((n, f) :: r) = if (∃ e, q = some e ∧ n ≠ e) then ([], [])
    else if (segL f.1 n).2.2 = true then ((n, (segL f.1 n).1) :: (openF (some (n + (segL f.1 n).1.length)) r).1, (n, f) :: (openF (some (n + (segL f.1 n).1.length)) r).2)
    else if (segL f.1 n).2.1 = 0 then ([], [])
    else ([(n, (segL f.1 n).1)], [(n, (f.1.take (segL f.1 n).2.1, min f.2 (segL f.1 n).2.1))]) := by
  conv => lhs; unfold openF
theorem openF_none {n : Nat} {X : List Fl} (h : ∀ x ∈ X.head?, x.1 = n) : openF none X = openF (some n) X := by
  rcases X with _ | ⟨⟨f, a⟩, X⟩
  · rfl
  · have e : f = n := h (f, a) rfl
    subst e
    have h1 : ¬ ∃ e, (none : Option Nat) = some e ∧ f ≠ e := by rintro ⟨e, h1, _⟩; cases h1
    have h2 : ¬ ∃ e, some f = some e ∧ f ≠ e := by rintro ⟨e, h1, h2⟩; exact h2 (Option.some.inj h1)
    have e1 := openF_cons none f a X
    have e2 := openF_cons (some f) f a X
    rw [if_neg h1] at e1
    rw [if_neg h2] at e2
    rw [e1, e2]
/-- .. of files on a disk. -/
theorem kept_openR {k : Str} {T : List Tl} {n c : Nat} (z : Nat) (hg : GoodT 1 T n) (hn : n ≤ 100000000) (hs : Synced c T) (hc : c ≤ (flatT T).length) :
    ∃ q S d, c ≤ q ∧ q ≤ (flatT T).length ∧ (openR k (crashD z (filesL k (T.map fileT)))).log = ⟨S, 1 + q, d⟩ ∧ Chain 1 S (1 + q) ∧ flatS S = (flatT T).take q := by
  obtain ⟨X, hX, e⟩ := crashD_files (k := k) z hg.last
  have hr := hX.rises (good_rises hg (Nat.le_refl _) hn)
  obtain ⟨q, q1, q2, q3, q4⟩ := kept_open T X 1 n c hg hX hs hc
  have eo : openF none X = openF (some 1) X := openF_none (fun x hx => by
    cases hX with
    | nil => cases hx
    | cons t m _ _ _ =>
      cases hx
      exact hg.chain.1)
  refine ⟨q, (openF (some 1) X).1, (openF (some 1) X).1.map (·.1), q1, q2, ?_, q3, q4⟩
  rw [e, (openR_files hr).1, eo, chain_end q3]
end Go.Proofs.YtejhoefmcldpnaaGreat
namespace Go.Proofs.YtejhoefmcldpnaaGreat
open Go.RowKit Go.Maps
/-- How many bytes a log's files have. -/
def bytesT (T : List Tl) : Nat := (T.map fun t => (recsL t.1 t.2.1).length).sum
theorem used_files (k : Str) (T : List Tl) : usedL (filesL k (T.map fileT)) = bytesT T := by
  unfold usedL sumK filesL bytesT fileT
  rw [List.map_map, List.map_map]
  rfl
/-- A log and its disk, on which there is nothing else. -/
structure FitL (k : Str) (T : List Tl) (M : LogL) (L : DiskL) : Prop where
  disk : L = filesL k (T.map fileT)
  segs : M.segs = T.map segT
  good : GoodT 1 T M.next
  dirt : ∀ t ∈ T, t.2.2 = (recsL t.1 t.2.1).length ∨ t.1 ∈ M.dirty
  nums : ∀ n ∈ M.dirty, n < 100000000
theorem put_end {k : Str} {n : Nat} {a : List Nat × Nat} {X : List Fl} (h : Rises (X ++ [(n, a)])) : putK (nameL k n) a (filesL k X) = filesL k (X ++ [(n, a)]) := by
  have h1 := putW_mid (k := k) (b := a) h
  have h2 := del_mid (k := k) h
  rw [List.append_nil] at h2
  rw [← h1, ← putK_del (nameL k n) a (filesL k (X ++ [(n, a)])), h2]
theorem get_end {k : Str} {n : Nat} {a : List Nat × Nat} {X : List Fl} (h : Rises (X ++ [(n, a)])) : getK (nameL k n) (filesL k X) = none := by
  have h2 := del_mid (k := k) h
  rw [List.append_nil] at h2
  rw [← h2]
  exact getK_del_same
theorem good_snoc {T : List Tl} {i n : Nat} {p : List Nat} (h : GoodT i T n) (hp : p.length ≤ 1048566) (hn : n < 100000000) : GoodT i (T ++ [(n, [p], 0)]) (n + 1) := by
  refine ⟨?_, fun t ht => ?_, fun t ht => ?_, fun t ht => ?_⟩
  · rw [List.map_append]
    exact chain_app h.chain ⟨rfl, rfl⟩
  all_goals rcases List.mem_append.1 ht with ht | ht
  · exact h.some t ht
  · have : t = (n, [p], 0) := by simpa using ht
    subst this
    simp
  · exact h.fits t ht
  · have : t = (n, [p], 0) := by simpa using ht
    subst this
    exact ⟨⟨hn, hp⟩, trivial⟩
  · exact h.last t ht
  · have : t = (n, [p], 0) := by simpa using ht
    subst this
    exact Nat.zero_le _
theorem chain_split : ∀ {S R : List Sg} {i n : Nat}, Chain i (S ++ R) n → ∃ m, Chain i S m ∧ Chain m R n := by
  intro S
  induction S with
  | nil => intro R i n h; exact ⟨i, rfl, h⟩
  | cons s r ih =>
    intro R i n h
    obtain ⟨m, h1, h2⟩ := ih h.2
    exact ⟨m, ⟨h.1, h1⟩, h2⟩
theorem good_more {T : List Tl} {i n f l : Nat} {es : List (List Nat)} {p : List Nat} (h : GoodT i (T ++ [(f, es, l)]) n) (hp : p.length ≤ 1048566) (hn : n < 100000000) : GoodT i (T ++ [(f, es ++ [p], l)]) (n + 1) ∧ n = f + es.length := by
  have hc := h.chain
  rw [List.map_append] at hc
  obtain ⟨m, c1, c2⟩ := chain_split hc
  obtain ⟨e1, e2⟩ := c2
  have e1 : f = m := e1
  have e2 : m + es.length = n := e2
  have hf := h.fits (f, es, l) (by simp)
  have hl := h.last (f, es, l) (by simp)
  simp only at hf hl
  have hfit : FitsAll f (es ++ [p]) := (fits_app f es [p]).2 ⟨hf, ⟨⟨by omega, hp⟩, trivial⟩⟩
  refine ⟨⟨?_, fun t ht => ?_, fun t ht => ?_, fun t ht => ?_⟩, by omega⟩
  · rw [List.map_append]
    refine chain_app c1 ⟨e1, ?_⟩
    show m + (es ++ [p]).length = n + 1
    rw [List.length_append]
    simp
    omega
  all_goals rcases List.mem_append.1 ht with ht | ht
  · exact h.some t (List.mem_append.2 (.inl ht))
  · have : t = (f, es ++ [p], l) := by simpa using ht
    subst this
    simp
  · exact h.fits t (List.mem_append.2 (.inl ht))
  · have : t = (f, es ++ [p], l) := by simpa using ht
    subst this
    exact hfit
  · exact h.last t (List.mem_append.2 (.inl ht))
  · have : t = (f, es ++ [p], l) := by simpa using ht
    subst this
    show l ≤ (recsL f (es ++ [p])).length
    rw [recs_app, List.length_append]
    omega
theorem synced_snoc : ∀ (T : List Tl) (c : Nat) (t : Tl), Synced c T → c ≤ (flatT T).length → Synced c (T ++ [t]) := by
  intro T
  induction T with
  | nil =>
    intro c t _ hc
    have h0 : c = 0 := by
      have : (flatT []).length = 0 := rfl
      omega
    subst h0
    exact ⟨Nat.zero_le _, trivial⟩
  | cons x T ih =>
    intro c t h hc
    have e : (flatT (x :: T)).length = x.2.1.length + (flatT T).length := by
      show (x.2.1 ++ flatT T).length = _
      rw [List.length_append]
    exact ⟨h.1, ih _ t h.2 (by omega)⟩
theorem synced_more : ∀ (T : List Tl) (c f l : Nat) (es : List (List Nat)) (p : List Nat), Synced c (T ++ [(f, es, l)]) → c ≤ (flatT (T ++ [(f, es, l)])).length → Synced c (T ++ [(f, es ++ [p], l)]) := by
  intro T
  induction T with
  | nil =>
    intro c f l es p h hc
    have hc : c ≤ es.length := by
      have : (flatT ([] ++ [(f, es, l)])).length = es.length := by simp [flatT]
      omega
    have h1 : (recsL f (es.take c)).length ≤ l := h.1
    refine ⟨?_, trivial⟩
    show (recsL f ((es ++ [p]).take c)).length ≤ l
    rw [List.take_append_of_le_length hc]
    exact h1
  | cons x T ih =>
    intro c f l es p h hc
    have e : (flatT (x :: T ++ [(f, es, l)])).length = x.2.1.length + (flatT (T ++ [(f, es, l)])).length := by
      show (x.2.1 ++ flatT (T ++ [(f, es, l)])).length = _
      rw [List.length_append]
    exact ⟨h.1, ih _ f l es p h.2 (by omega)⟩
/-- An entry is laid behind the others. -/
theorem add_fit {k : Str} {T : List Tl} {M : LogL} {L : DiskL} {room : Nat} {p : List Nat} (h : FitL k T M L) (hk : 1 ≤ k.length ∧ k.length ≤ 55) (hp : p.length ≤ 1048566) (hn : M.next < 99999999) (hr : bytesT T + (recL M.next p).length ≤ room) (hl : T.length < 256) :
    ∃ T' M' L', addL room k p M L = ((M', L'), M.next, 0) ∧ FitL k T' M' L' ∧ flatT T' = flatT T ++ [p] ∧ bytesT T' = bytesT T + (recL M.next p).length ∧ T'.length ≤ T.length + 1 ∧ M'.next = M.next + 1 ∧ ∀ c, c ≤ (flatT T).length → Synced c T → Synced c T' := by
  obtain ⟨hd, hs, hg, hdi, hnu⟩ := h
  have happ : ∀ n : Nat, 1 ≤ (nameL k n).length ∧ (nameL k n).length ≤ 64 := fun n => by rw [name_len]; omega
  have hlen : L.length < 256 := by rw [hd]; unfold filesL; rw [List.length_map, List.length_map]; exact hl
  have hused : usedL L = bytesT T := by rw [hd, used_files]
  have hok : ∀ n : Nat, appL room (nameL k n) (recL M.next p) L = (putK (nameL k n) (oldB (nameL k n) L ++ recL M.next p, oldN (nameL k n) L) L, 0) := fun n => by
    unfold appL
    rw [if_neg (fun h => h (happ n)), if_neg]
    rintro (⟨_, h⟩ | h) <;> omega
  have hadd : addL room k p M L = ((⟨laidL (if freshL k M L = true then M.segs ++ [(M.next, [])] else M.segs) p, M.next + 1, M.dirty ++ [whereL k M L]⟩, putK (nameL k (whereL k M L)) (oldB (nameL k (whereL k M L)) L ++ recL M.next p, oldN (nameL k (whereL k M L)) L) L), M.next, 0) := by
    unfold addL
    rw [if_neg (by omega), if_neg (by omega), hok, if_neg (by simp)]
  rcases List.eq_nil_or_concat T with rfl | ⟨T0, t, rfl⟩
  · have hf : freshL k M L = true := by unfold freshL; rw [hs]; rfl
    have hw : whereL k M L = M.next := by unfold whereL; rw [if_pos hf]
    rw [if_pos hf, hw] at hadd
    have hg2 := good_snoc (p := p) hg hp (by omega)
    have hL : L = [] := by rw [hd]; rfl
    have hri := good_rises hg2 (Nat.le_refl _) (by omega)
    refine ⟨[(M.next, [p], 0)], _, _, hadd, ⟨?_, ?_, hg2, fun t ht => ?_, fun n hm => ?_⟩, by simp [flatT], ?_, by simp, rfl, fun c hc hsy => synced_snoc [] c _ hsy hc⟩
    · rw [hL]
      show putK (nameL k M.next) ([] ++ recL M.next p, 0) [] = [(nameL k M.next, (recL M.next p ++ [], 0))]
      rw [List.append_nil]
      rfl
    · rw [hs]
      rfl
    · have : t = (M.next, [p], 0) := by simpa using ht
      subst this
      exact .inr (List.mem_append.2 (.inr (by simp)))
    · rcases List.mem_append.1 hm with hm | hm
      · exact hnu n hm
      · have : n = M.next := by simpa using hm
        omega
    · simp [bytesT, recsL]
  · rw [List.concat_eq_append] at *
    obtain ⟨f, es, l⟩ := t
    have hri0 := good_rises hg (Nat.le_refl _) (by omega)
    rw [List.map_append] at hri0
    have hlast : M.segs.getLast? = some (f, es) := by rw [hs, List.map_append]; simp [segT]
    have hmid : getK (nameL k f) L = some (recsL f es, l) := by rw [hd, List.map_append]; exact getW_mid (X := []) hri0
    have hsz : sizeL (nameL k f) L = (recsL f es).length := by unfold sizeL; rw [hmid]; rfl
    have hfr : freshL k M L = decide (1024 ≤ (recsL f es).length) := by unfold freshL; rw [hlast]; dsimp only; rw [hsz]
    have hfl : (flatT (T0 ++ [(f, es, l)])) = flatT T0 ++ es := by unfold flatT; rw [List.flatMap_append]; simp
    by_cases h1024 : 1024 ≤ (recsL f es).length
    · have hf : freshL k M L = true := by rw [hfr]; simp [h1024]
      have hw : whereL k M L = M.next := by unfold whereL; rw [if_pos hf]
      rw [if_pos hf, hw] at hadd
      have hg2 := good_snoc (p := p) hg hp (by omega)
      have hri := good_rises hg2 (Nat.le_refl _) (by omega)
      rw [List.map_append] at hri
      have hri' : Rises ((T0 ++ [(f, es, l)]).map fileT ++ [(M.next, (recL M.next p, 0))]) := by
        have e : [((M.next, [p], 0) : Tl)].map fileT = [(M.next, (recL M.next p ++ [], 0))] := rfl
        rw [e, List.append_nil] at hri
        exact hri
      have hno : getK (nameL k M.next) L = none := by rw [hd]; exact get_end hri'
      refine ⟨T0 ++ [(f, es, l)] ++ [(M.next, [p], 0)], _, _, hadd, ⟨?_, ?_, hg2, fun t ht => ?_, fun n hm => ?_⟩, ?_, ?_, by simp, rfl, fun c hc hsy => synced_snoc _ c _ hsy hc⟩
      · have e1 : oldB (nameL k M.next) L = [] := by unfold oldB; rw [hno]; rfl
        have e2 : oldN (nameL k M.next) L = 0 := by unfold oldN; rw [hno]; rfl
        rw [e1, e2, List.nil_append, hd, put_end hri', List.map_append (l₁ := T0 ++ [(f, es, l)])]
        have e : [((M.next, [p], 0) : Tl)].map fileT = [(M.next, (recL M.next p ++ [], 0))] := rfl
        rw [e, List.append_nil]
      · unfold laidL
        rw [List.getLast?_concat]
        dsimp only
        rw [List.dropLast_concat, hs, List.map_append (l₁ := T0 ++ [(f, es, l)])]
        rfl
      · rcases List.mem_append.1 ht with ht | ht
        · rcases hdi t ht with h | h
          · exact .inl h
          · exact .inr (List.mem_append.2 (.inl h))
        · have : t = (M.next, [p], 0) := by simpa using ht
          subst this
          exact .inr (List.mem_append.2 (.inr (by simp)))
      · rcases List.mem_append.1 hm with hm | hm
        · exact hnu n hm
        · have : n = M.next := by simpa using hm
          omega
      · unfold flatT
        rw [List.flatMap_append (xs := T0 ++ [(f, es, l)])]
        simp
      · unfold bytesT
        rw [List.map_append (l₁ := T0 ++ [(f, es, l)]), List.sum_append]
        simp [recsL]
    · have hf : freshL k M L = false := by rw [hfr]; simp [h1024]
      have hw : whereL k M L = f := by unfold whereL lastL; rw [if_neg (by rw [hf]; simp), hlast]; rfl
      rw [if_neg (by rw [hf]; simp), hw] at hadd
      obtain ⟨hg2, hne⟩ := good_more (p := p) hg hp (by omega)
      have hri := good_rises hg2 (Nat.le_refl _) (by omega)
      rw [List.map_append] at hri
      have e1 : oldB (nameL k f) L = recsL f es := by unfold oldB; rw [hmid]; rfl
      have e2 : oldN (nameL k f) L = l := by unfold oldN; rw [hmid]; rfl
      have er : recsL f (es ++ [p]) = recsL f es ++ recL M.next p := by
        rw [recs_app, hne]
        show recsL f es ++ (recL (f + es.length) p ++ []) = _
        rw [List.append_nil]
      refine ⟨T0 ++ [(f, es ++ [p], l)], _, _, hadd, ⟨?_, ?_, hg2, fun t ht => ?_, fun n hm => ?_⟩, ?_, ?_, by simp, rfl, fun c hc hsy => synced_more T0 c f l es p hsy hc⟩
      · rw [e1, e2, hd, List.map_append, List.map_append, ← er]
        exact putW_mid (X := []) hri0
      · unfold laidL
        rw [hlast]
        dsimp only
        rw [hs, List.map_append, List.map_append]
        simp [segT]
      · rcases List.mem_append.1 ht with ht | ht
        · rcases hdi t (List.mem_append.2 (.inl ht)) with h | h
          · exact .inl h
          · exact .inr (List.mem_append.2 (.inl h))
        · have : t = (f, es ++ [p], l) := by simpa using ht
          subst this
          exact .inr (List.mem_append.2 (.inr (by simp)))
      · rcases List.mem_append.1 hm with hm | hm
        · exact hnu n hm
        · have : n = f := by simpa using hm
          have := hg.chain
          omega
      · rw [hfl]
        unfold flatT
        rw [List.flatMap_append]
        simp
      · unfold bytesT
        rw [List.map_append, List.map_append, List.sum_append, List.sum_append]
        simp only [List.map_cons, List.map_nil, List.sum_cons, List.sum_nil, er, List.length_append]
        omega
end Go.Proofs.YtejhoefmcldpnaaGreat
