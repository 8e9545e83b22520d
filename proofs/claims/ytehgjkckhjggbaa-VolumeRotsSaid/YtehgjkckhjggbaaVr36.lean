/- What one byte of a volume's file that rots does to what is read and found, by lists. No program. What the law VolumeKeeps plays, by lists: keys Put one behind another, those that are there already refused. No program. -/
import Derived.Test.YtehgjkckhjggbaaVr35
namespace Go.Proofs.Ytehgjkckhjggbaa
open Go.RowKit Go.Maps
def rotB (b : List Nat) (i y : Nat) : List Nat := b.set i (b.getD i 0 ^^^ y)
theorem rotB_len (b : List Nat) (i y : Nat) : (rotB b i y).length = b.length := List.length_set
theorem rotB_left (a b : List Nat) (i y : Nat) (h : i < a.length) : rotB (a ++ b) i y = rotB a i y ++ b := by
  unfold rotB
  rw [List.set_append, if_pos h]
  congr 2
  congr 1
  simp [List.getElem?_append, h]
theorem rotB_right (a b : List Nat) (i j y : Nat) (h : i = a.length + j) : rotB (a ++ b) i y = a ++ rotB b j y := by
  subst h
  unfold rotB
  rw [List.set_append, if_neg (by omega), Nat.add_sub_cancel_left]
  congr 3
  simp [List.getElem?_append, show ¬ a.length + j < a.length by omega]
/-- One byte of a record that is turned into another one is seen, whatever stands behind; and where the head is right, the place stays what it was. -/
theorem dec_rot (r : Rec) (h : RecOk r) (i y : Nat) (hi : i < (recV r).length) (hy : y < 256) (hy0 : y ≠ 0) (more : List Nat) :
    (ndDec (rotB (recV r) i y ++ more)).2.2 = 3 ∨ ndDec (rotB (recV r) i y ++ more) = ((r.1, r.2.1, r.2.2.1, []), ndSize r.2.2.2.length, 4) := by
  obtain ⟨k, c, d, data⟩ := r
  have hk := h.key
  have hc := h.cook
  have hl := h.len
  have hd := h.dead
  have hb := h.byte
  dsimp only at hk hc hl hd hb ⊢
  have hlen := needleL_len k c d data hl
  have hg := ndSize_ge _ hl
  have hi : i < (needleL k c d data).length := hi
  have e0 : needleL k c d data = head24 k c d data.length ++ (data ++ ndTail data) := by unfold needleL; simp
  show (ndDec (rotB (needleL k c d data) i y ++ more)).2.2 = 3 ∨ ndDec (rotB (needleL k c d data) i y ++ more) = _
  by_cases h24 : i < 24
  · left
    have eb : rotB (needleL k c d data) i y ++ more = rotB (head24 k c d data.length) i y ++ (data ++ ndTail data ++ more) := by
      rw [e0, rotB_left _ _ _ _ (by rw [head24_len]; exact h24)]
      simp
    obtain ⟨b, hbe⟩ : ∃ b, b = rotB (needleL k c d data) i y ++ more := ⟨_, rfl⟩
    have hbl : 24 ≤ b.length := by rw [hbe, List.length_append, rotB_len, hlen]; omega
    rw [← hbe] at eb ⊢
    have ht : b.take 24 = rotB (head24 k c d data.length) i y := by rw [eb, List.take_left' (by rw [rotB_len, head24_len])]
    have hno : ¬ HeadOk b := by
      rintro ⟨_, _, h⟩
      rw [ht] at h
      obtain ⟨H, hH⟩ : ∃ H, H = head20 k c d data.length := ⟨_, rfl⟩
      have hH20 : H.length = 20 := by rw [hH]; exact head20_len _ _ _ _
      have hH24 : head24 k c d data.length = H ++ be32 (sumS H) := by rw [hH]; rfl
      have hHb : ∀ x ∈ H, x < 256 := by rw [hH]; exact head20_byte _ _ _ _
      obtain ⟨G, hG⟩ : ∃ G, G = head20 (hKey b) (hCook b) (hDead b) (hLen b) := ⟨_, rfl⟩
      have hG20 : G.length = 20 := by rw [hG]; exact head20_len _ _ _ _
      have hG24 : head24 (hKey b) (hCook b) (hDead b) (hLen b) = G ++ be32 (sumS G) := by rw [hG]; rfl
      rw [hH24, hG24] at h
      by_cases h20 : i < 20
      · rw [rotB_left _ _ _ _ (by omega)] at h
        have h1 := List.append_inj h (by rw [rotB_len]; omega)
        have h2 := be32_inj (by unfold sumS; omega) (by unfold sumS; omega) h1.2
        rw [← h1.1] at h2
        exact sum_wrong hHb i y (by omega) hy hy0 h2.symm
      · rw [rotB_right _ _ i (i - 20) y (by omega)] at h
        have h1 := List.append_inj h (by omega)
        have h2 := h1.2
        rw [← h1.1] at h2
        exact set_xor_ne (by rw [be32_len]; omega) hy0 h2
    unfold ndDec
    rw [if_neg (by omega), if_pos hno]
  · right
    obtain ⟨R, hR⟩ : ∃ R, R = rotB (data ++ ndTail data) (i - 24) y := ⟨_, rfl⟩
    have hRl : R.length = ndSize data.length - 24 := by rw [hR, rotB_len, List.length_append, ndTail_len _ hl]; omega
    have eb : rotB (needleL k c d data) i y ++ more = head24 k c d data.length ++ (R ++ more) := by
      rw [e0, rotB_right _ _ i (i - 24) y (by rw [head24_len]; omega), ← hR]
      simp
    rw [eb]
    have hok := headOk_head k c d data.length hk hc hl hd (R ++ more)
    have e1 := hLen_head k c d data.length (by omega) (R ++ more)
    have e2 := hKey_head k c d data.length hk (R ++ more)
    have e3 := hCook_head k c d data.length hc (R ++ more)
    have e4 := hDead_head k c d data.length (R ++ more)
    have hno0 : R.drop data.length ≠ ndTail (R.take data.length) := by
      intro h
      rw [hR] at h
      by_cases hin : i - 24 < data.length
      · rw [rotB_left _ _ _ _ hin, List.drop_left' (by rw [rotB_len]), List.take_left' (by rw [rotB_len])] at h
        exact sum_wrong hb (i - 24) y hin hy hy0 (ndTail_inj h).symm
      · rw [rotB_right _ _ (i - 24) (i - 24 - data.length) y (by omega), List.drop_left, List.take_left] at h
        exact set_xor_ne (by rw [ndTail_len _ hl]; omega) hy0 h
    have hno : ((R ++ more).drop data.length).take (ndSize data.length - 24 - data.length) ≠ ndTail ((R ++ more).take data.length) := by
      rw [List.drop_append_of_le_length (by omega), List.take_append_of_le_length (by rw [List.length_drop]; omega), List.take_append_of_le_length (by omega), List.take_of_length_le (by rw [List.length_drop]; omega)]
      exact hno0
    have d1 : (head24 k c d data.length ++ (R ++ more)).drop 24 = R ++ more := List.drop_left' (head24_len _ _ _ _)
    have d2 : (head24 k c d data.length ++ (R ++ more)).drop (24 + data.length) = (R ++ more).drop data.length := by rw [← List.drop_drop, d1]
    unfold ndDec
    rw [if_neg (by rw [List.length_append, head24_len]; omega), if_neg (by simpa using hok), e1, if_neg (by rw [List.length_append, List.length_append, head24_len]; omega), d1, d2, if_pos hno, e2, e3, e4]
/-! ### reading -/
theorem plsV_app : ∀ (xs ys : List Rec) (at_ : Nat) (T : PlL), (∀ q ∈ xs, RecOk q) → plsV at_ (xs ++ ys) T = plsV (at_ + (bytesV xs).length) ys (plsV at_ xs T)
  | [], ys, at_, T, _ => by simp [plsV, bytesV]
  | q :: xs, ys, at_, T, hx => by
    have hq := recV_len (hx q (by simp))
    have ih := plsV_app xs ys (at_ + ndSize q.2.2.2.length) (takeL (placeV q at_) T) (fun x hx' => hx x (by simp [hx']))
    simp only [List.cons_append, plsV]
    rw [ih]
    simp only [bytesV, List.flatMap_cons, List.length_append, hq, Nat.add_assoc]
/-- Whole records are read, and then what stands behind. -/
theorem readV_app : ∀ (rs : List Rec) (f : Nat) (pre more : List Nat) (T : PlL), (∀ q ∈ rs, RecOk q) → readV (f + rs.length) (pre ++ (bytesV rs ++ more)) pre.length T = readV f (pre ++ (bytesV rs ++ more)) (pre.length + (bytesV rs).length) (plsV pre.length rs T)
  | [], f, pre, more, T, _ => by simp [bytesV, plsV]
  | r :: rs, f, pre, more, T, h => by
    have hr := h r (by simp)
    have e : (pre ++ (bytesV (r :: rs) ++ more)).drop pre.length = recV r ++ (bytesV rs ++ more) := by simp [bytesV]
    have ih := readV_app rs f (pre ++ recV r) more (takeL (placeV r pre.length) T) (fun x hx => h x (by simp [hx]))
    have el : f + (r :: rs).length = (f + rs.length) + 1 := by simp; omega
    rw [el]
    conv => lhs; unfold readV
    rw [e, recV_dec hr]
    have e2 : pre ++ (bytesV (r :: rs) ++ more) = pre ++ recV r ++ (bytesV rs ++ more) := by simp [bytesV]
    rw [List.length_append, recV_len hr] at ih
    have e3 : plOf (r, ndSize r.2.2.2.length, 0) pre.length = placeV r pre.length := rfl
    simp only [ne_eq, not_true_eq_false, false_and, if_false]
    rw [e2, e3, ih]
    simp [bytesV, plsV, recV_len hr, Nat.add_assoc]
theorem split_recs : ∀ (rs : List Rec) (n : Nat), n < (bytesV rs).length → ∃ ra r rb i, rs = ra ++ r :: rb ∧ n = (bytesV ra).length + i ∧ i < (recV r).length
  | [], n, h => absurd h (by simp [bytesV])
  | q :: rs, n, h => by
    by_cases hn : n < (recV q).length
    · exact ⟨[], q, rs, n, rfl, by simp [bytesV], hn⟩
    · have hl : (bytesV (q :: rs)).length = (recV q).length + (bytesV rs).length := by simp [bytesV]
      obtain ⟨ra, r, rb, i, e, en, hi⟩ := split_recs rs (n - (recV q).length) (by omega)
      refine ⟨q :: ra, r, rb, i, by rw [e]; rfl, ?_, hi⟩
      have : (bytesV (q :: ra)).length = (recV q).length + (bytesV ra).length := by simp [bytesV]
      omega
theorem bytesV_app (xs ys : List Rec) : bytesV (xs ++ ys) = bytesV xs ++ bytesV ys := by simp [bytesV]
theorem bytesV_cons (x : Rec) (ys : List Rec) : bytesV (x :: ys) = recV x ++ bytesV ys := by simp [bytesV]
theorem bytesV_many : ∀ l : List Rec, (∀ q ∈ l, RecOk q) → l.length ≤ (bytesV l).length
  | [], _ => by simp
  | q :: l, h => by
    have h1 := recV_len (h q (by simp))
    have h2 := (ndSize_le q.2.2.2.length).2
    have h3 := bytesV_many l (fun x hx => h x (by simp [hx]))
    rw [bytesV_cons, List.length_append, List.length_cons]
    omega
/-- What a Get of a key that was Put comes to, whatever the file has become. -/
theorem getV_find (r : Rec) (ra rb : List Rec) (h : Fresh (ra ++ r :: rb)) (B : List Nat) :
    getV r.1 r.2.1 (plsV 8 (ra ++ r :: rb) []) B = match findL B (placeV r (8 + (bytesV ra).length)) with | none => ([], 4) | some d => (d, 0) := by
  have hd : (placeV r (8 + (bytesV ra).length)).dead = false := h.alive r (by simp)
  have e2 : (placeV r (8 + (bytesV ra).length)).cook = r.2.1 := rfl
  unfold getV
  rw [plsV_at r ra rb h]
  simp only [hd, e2]
  simp
  cases findL B (placeV r (8 + (bytesV ra).length)) <;> rfl
theorem getV_good (r : Rec) (ra rb : List Rec) (h : Fresh (ra ++ r :: rb)) (pre post : List Nat) (hp : pre.length = 8 + (bytesV ra).length) :
    getV r.1 r.2.1 (plsV 8 (ra ++ r :: rb) []) (pre ++ recV r ++ post) = (r.2.2.2, 0) := by
  have hf := findL_rec (h.ok r (by simp)) pre post
  rw [hp] at hf
  rw [getV_find r ra rb h, hf]
theorem getV_bad (r : Rec) (ra rb : List Rec) (h : Fresh (ra ++ r :: rb)) (pre post : List Nat) (i y : Nat) (hi : i < (recV r).length) (hy : y < 256) (hy0 : y ≠ 0) (hp : pre.length = 8 + (bytesV ra).length) :
    getV r.1 r.2.1 (plsV 8 (ra ++ r :: rb) []) (pre ++ (rotB (recV r) i y ++ post)) = ([], 4) := by
  have hf : findL (pre ++ (rotB (recV r) i y ++ post)) (placeV r (8 + (bytesV ra).length)) = none := by
    unfold findL
    have e4 : (placeV r (8 + (bytesV ra).length)).at_ = pre.length := hp.symm
    rw [e4, List.drop_left]
    split
    · rfl
    · rw [if_pos]
      left
      rcases dec_rot r (h.ok r (by simp)) i y hi hy hy0 post with e | e
      · rw [e]; decide
      · rw [e]; show (4 : Nat) ≠ 0; decide
  rw [getV_find r ra rb h, hf]
/-! ### the law's rows -/
def rotN (rows : List (List Nat)) (i : Nat) : Rec := (i, 7, false, rows.getD i [])
def rotR (rows : List (List Nat)) (j : Nat) : List Rec := (List.range j).map (rotN rows)
theorem rotR_succ (rows : List (List Nat)) (j : Nat) : rotR rows (j + 1) = rotR rows j ++ [rotN rows j] := by
  unfold rotR
  rw [List.range_succ, List.map_append]
  rfl
theorem rotR_mem {rows : List (List Nat)} {j : Nat} {q : Rec} (h : q ∈ rotR rows j) : q.1 < j ∧ q = rotN rows q.1 := by
  obtain ⟨i, hi, rfl⟩ := List.mem_map.1 h
  exact ⟨List.mem_range.1 hi, rfl⟩
theorem rotR_has {rows : List (List Nat)} {j i : Nat} (h : i < j) : rotN rows i ∈ rotR rows j := List.mem_map_of_mem (List.mem_range.2 h)
theorem rotN_ok {rows : List (List Nat)} (hb : ∀ r ∈ rows, ∀ x ∈ r, x < 256) (hl : ∀ r ∈ rows, r.length ≤ 65536) (hn : rows.length ≤ 4294967296) (i : Nat) (hi : i < rows.length) : RecOk (rotN rows i) := by
  have hm : rows.getD i [] ∈ rows := by
    have e : rows.getD i [] = rows[i] := by simp [hi]
    rw [e]
    exact List.getElem_mem _
  exact ⟨by show i < 18446744073709551616; omega, by show 7 < 4294967296; decide, hl _ hm, by simp [rotN], hb _ hm⟩
theorem rotR_fresh {rows : List (List Nat)} (hb : ∀ r ∈ rows, ∀ x ∈ r, x < 256) (hl : ∀ r ∈ rows, r.length ≤ 65536) (hn : rows.length ≤ 4294967296) (j : Nat) (hj : j ≤ rows.length) : Fresh (rotR rows j) := by
  refine ⟨?_, ?_, ?_⟩
  · intro q hq
    obtain ⟨h1, h2⟩ := rotR_mem hq
    rw [h2]
    exact rotN_ok hb hl hn _ (by omega)
  · intro q hq
    rw [(rotR_mem hq).2]
    rfl
  · have e : (rotR rows j).map (·.1) = List.range j := by
      unfold rotR
      rw [List.map_map]
      exact List.map_id'' (fun _ => rfl) _
    rw [e]
    exact List.nodup_range
theorem Fresh.left {xs ys : List Rec} (h : Fresh (xs ++ ys)) : Fresh xs :=
  ⟨fun q hq => h.ok q (by simp [hq]), fun q hq => h.alive q (by simp [hq]), by have h1 := h.once; rw [List.map_append] at h1; exact (List.nodup_append.1 h1).1⟩
/-- What all Gets say behind a rot: what was Put, or an error; and an error of one key alone, if the volume was not opened anew. -/
def RotOk (T : PlL) (B : List Nat) (rows : List (List Nat)) (again : Bool) (j : Nat) : Prop :=
  ∀ i, i < rows.length → getV i 7 T B = (rows.getD i [], 0) ∨ ((getV i 7 T B).2 ≠ 0 ∧ (again = false → i = j))
theorem rot_head {rows : List (List Nat)} (hF : Fresh (rotR rows rows.length)) (H : List Nat) (hH : H.length = 8) : RotOk (plsV 8 (rotR rows rows.length) []) (H ++ bytesV (rotR rows rows.length)) rows false 0 := by
  intro i hi
  left
  obtain ⟨ra, rb, e⟩ := List.append_of_mem (rotR_has (rows := rows) hi)
  rw [e] at hF ⊢
  have h1 := getV_good (rotN rows i) ra rb hF (H ++ bytesV ra) (bytesV rb) (by rw [List.length_append, hH])
  rw [bytesV_app, bytesV_cons]
  simpa [List.append_assoc, rotN] using h1
theorem rot_rec {rows : List (List Nat)} (hF : Fresh (rotR rows rows.length)) (H : List Nat) (hH : H.length = 8) (ra rb : List Rec) (r : Rec) (e : rotR rows rows.length = ra ++ r :: rb) (i y : Nat) (hi : i < (recV r).length) (hy : y < 256) (hy0 : y ≠ 0) :
    RotOk (plsV 8 (rotR rows rows.length) []) (H ++ bytesV ra ++ (rotB (recV r) i y ++ bytesV rb)) rows false r.1 := by
  intro j hj
  have hm := rotR_has (rows := rows) hj
  rw [e] at hF hm ⊢
  rcases List.mem_append.1 hm with h1 | h1
  · left
    obtain ⟨r1, r2, rfl⟩ := List.append_of_mem h1
    have hF' : Fresh (r1 ++ rotN rows j :: (r2 ++ r :: rb)) := by simpa using hF
    have h2 := getV_good (rotN rows j) r1 (r2 ++ r :: rb) hF' (H ++ bytesV r1) (bytesV r2 ++ (rotB (recV r) i y ++ bytesV rb)) (by rw [List.length_append, hH])
    rw [bytesV_app, bytesV_cons]
    simpa [List.append_assoc, rotN] using h2
  · rcases List.mem_cons.1 h1 with h1 | h1
    · right
      have h2 := getV_bad r ra rb hF (H ++ bytesV ra) (bytesV rb) i y hi hy hy0 (by rw [List.length_append, hH])
      have e1 : r.1 = j := by rw [← h1]; rfl
      have e2 : r.2.1 = 7 := by rw [← h1]; rfl
      rw [e1, e2] at h2
      rw [h2]
      exact ⟨by decide, fun _ => e1.symm⟩
    · left
      obtain ⟨r1, r2, rfl⟩ := List.append_of_mem h1
      have hF' : Fresh ((ra ++ r :: r1) ++ rotN rows j :: r2) := by simpa using hF
      have h2 := getV_good (rotN rows j) (ra ++ r :: r1) r2 hF' (H ++ bytesV ra ++ (rotB (recV r) i y ++ bytesV r1)) (bytesV r2) (by
        rw [bytesV_app, bytesV_cons]
        simp only [List.length_append, rotB_len, hH]
        omega)
      rw [bytesV_app, bytesV_cons]
      simpa [List.append_assoc, rotN] using h2
theorem RotOk.again {T : PlL} {B : List Nat} {rows : List (List Nat)} {j : Nat} (h : RotOk T B rows false j) : RotOk T B rows true 0 := fun i hi => (h i hi).imp id fun h => ⟨h.1, fun e => by cases e⟩
/-- A volume that is opened anew over a file of which one byte rotted: refused, if it was the head's; else what all Gets say is right. -/
theorem rot_open {rows : List (List Nat)} (hF : Fresh (rotR rows rows.length)) (s : Str) (k y : Nat) (hk : k < (fileV 3 (rotR rows rows.length)).length) (hy : y < 256) (hy0 : y ≠ 0) :
    (k < 8 ∧ openV s 3 [(s, (rotB (fileV 3 (rotR rows rows.length)) k y, (fileV 3 (rotR rows rows.length)).length))] = (none, 3)) ∨
    (8 ≤ k ∧ ∃ T B l, openV s 3 [(s, (rotB (fileV 3 (rotR rows rows.length)) k y, (fileV 3 (rotR rows rows.length)).length))] = (some (T, [(s, (B, l))]), 0) ∧ RotOk T B rows true 0) := by
  have h8 : (headV 3).length = 8 := headV_len 3
  have hfl : (fileV 3 (rotR rows rows.length)).length = 8 + (bytesV (rotR rows rows.length)).length := by unfold fileV; rw [List.length_append, h8]
  by_cases hk8 : k < 8
  · refine .inl ⟨hk8, ?_⟩
    unfold openV
    rw [getK_one]
    dsimp only
    rw [if_pos]
    right
    have e : rotB (fileV 3 (rotR rows rows.length)) k y = rotB (headV 3) k y ++ bytesV (rotR rows rows.length) := rotB_left _ _ _ _ (by omega)
    rw [e, List.take_left' (by rw [rotB_len, h8])]
    exact set_xor_ne (by omega) hy0
  · refine .inr ⟨by omega, ?_⟩
    obtain ⟨ra, r, rb, i, er, en, hi⟩ := split_recs (rotR rows rows.length) (k - 8) (by omega)
    have hra : ∀ q ∈ ra, RecOk q := fun q hq => hF.ok q (by rw [er]; simp [hq])
    have hrb : ∀ q ∈ rb, RecOk q := fun q hq => hF.ok q (by rw [er]; simp [hq])
    have hr : RecOk r := hF.ok r (by rw [er]; simp)
    have eB : rotB (fileV 3 (rotR rows rows.length)) k y = headV 3 ++ (bytesV ra ++ (rotB (recV r) i y ++ bytesV rb)) := by
      unfold fileV
      rw [rotB_right _ _ k (k - 8) y (by omega), er, bytesV_app, bytesV_cons, rotB_right _ _ (k - 8) i y en, rotB_left _ _ _ _ hi]
    have hBl : (rotB (fileV 3 (rotR rows rows.length)) k y).length = 8 + ((bytesV ra).length + ((recV r).length + (bytesV rb).length)) := by
      rw [eB]
      simp only [List.length_append, rotB_len, h8]
    have hcount : ra.length + (rb.length + 2) ≤ (rotB (fileV 3 (rotR rows rows.length)) k y).length + 1 := by
      have h1 := bytesV_many ra hra
      have h2 := bytesV_many rb hrb
      rw [hBl]
      omega
    obtain ⟨f, hf⟩ : ∃ f, (rotB (fileV 3 (rotR rows rows.length)) k y).length + 1 = (f + 1) + ra.length := ⟨(rotB (fileV 3 (rotR rows rows.length)) k y).length - ra.length, by omega⟩
    have hread := readV_app ra (f + 1) (headV 3) (rotB (recV r) i y ++ bytesV rb) [] hra
    rw [h8, ← hf, ← eB] at hread
    have hdrop : (rotB (fileV 3 (rotR rows rows.length)) k y).drop (8 + (bytesV ra).length) = rotB (recV r) i y ++ bytesV rb := by
      rw [eB, ← List.append_assoc]
      exact List.drop_left' (by rw [List.length_append, h8])
    have hhead : ¬ ((rotB (fileV 3 (rotR rows rows.length)) k y).length < 8 ∨ (rotB (fileV 3 (rotR rows rows.length)) k y).take 8 ≠ headV 3) := by
      rintro (h | h)
      · omega
      · rw [eB] at h
        exact h (List.take_left' h8)
    have hplain := rot_rec hF (headV 3) h8 ra rb r er i y hi hy hy0
    rw [List.append_assoc, ← eB] at hplain
    have hnB := rotB_len (fileV 3 (rotR rows rows.length)) k y
    generalize rotB (fileV 3 (rotR rows rows.length)) k y = B at *
    generalize (fileV 3 (rotR rows rows.length)).length = n at *
    unfold openV
    rw [getK_one]
    dsimp only
    rw [if_neg hhead, hread]
    rcases dec_rot r hr i y hi hy hy0 (bytesV rb) with e | e
    · -- the head is damaged: the reading ends there
      have hstop : readV (f + 1) B (8 + (bytesV ra).length) (plsV 8 ra []) = (8 + (bytesV ra).length, plsV 8 ra []) := by
        unfold readV
        rw [hdrop, if_pos]
        rw [e]
        decide
      rw [hstop]
      dsimp only
      have hlt : 8 + (bytesV ra).length < B.length := by rw [hBl]; have := (ndSize_le r.2.2.2.length).2; have := recV_len hr; omega
      rw [if_pos hlt]
      refine ⟨plsV 8 ra [], fileV 3 ra, min n (8 + (bytesV ra).length), ?_, ?_⟩
      · unfold cutL
        rw [getK_one]
        dsimp only
        rw [if_neg (by omega), putK_one]
        have e1 : ((8 + (bytesV ra).length : Nat) : Int).toNat = 8 + (bytesV ra).length := Int.toNat_natCast _
        rw [e1]
        have e2 : B.take (8 + (bytesV ra).length) = fileV 3 ra := by
          rw [eB, ← List.append_assoc]
          exact List.take_left' (by rw [List.length_append, h8])
        rw [e2]
      · intro j hj
        by_cases hq : ∃ q ∈ ra, q.1 = j
        · left
          obtain ⟨q, hq, rfl⟩ := hq
          have hq2 := (rotR_mem (rows := rows) (j := rows.length) (q := q) (by rw [er]; simp [hq])).2
          have hFa : Fresh ra := by rw [er] at hF; exact hF.left
          obtain ⟨r1, r2, rfl⟩ := List.append_of_mem hq
          have h1 := getV_rec 3 q r1 r2 hFa 7
          rw [h1]
          have e1 : q.2.1 = 7 := by rw [hq2]; rfl
          have e2 : q.2.2.2 = rows.getD q.1 [] := by conv => lhs; rw [hq2]; simp only [rotN]
          rw [if_neg (by simpa using e1), e2]
        · right
          have hn1 : getP j (plsV 8 ra []) = none := (plsV_none j ra 8 [] List.Pairwise.nil (fun q hq' e => hq ⟨q, hq', e⟩)).trans rfl
          have h1 : getV j 7 (plsV 8 ra []) (fileV 3 ra) = ([], 7) := by unfold getV; rw [hn1]
          rw [h1]
          exact ⟨by decide, fun e => by cases e⟩
    · have hgo : readV (f + 1) B (8 + (bytesV ra).length) (plsV 8 ra []) = readV f B (8 + (bytesV ra).length + ndSize r.2.2.2.length) (takeL (placeV r (8 + (bytesV ra).length)) (plsV 8 ra [])) := by
        conv => lhs; unfold readV
        rw [hdrop, if_neg (by rw [e]; simp), e]
        rfl
      have hl := recV_len hr
      have hrest := readV_recs rb f (headV 3 ++ (bytesV ra ++ rotB (recV r) i y)) (takeL (placeV r (8 + (bytesV ra).length)) (plsV 8 ra [])) hrb (by omega)
      have e5 : headV 3 ++ (bytesV ra ++ rotB (recV r) i y) ++ bytesV rb = B := by rw [eB]; simp
      have e6 : (headV 3 ++ (bytesV ra ++ rotB (recV r) i y)).length = 8 + (bytesV ra).length + ndSize r.2.2.2.length := by
        simp only [List.length_append, rotB_len, h8, hl]
        omega
      rw [e5, e6] at hrest
      rw [hgo, hrest]
      dsimp only
      have hall : plsV (8 + (bytesV ra).length + ndSize r.2.2.2.length) rb (takeL (placeV r (8 + (bytesV ra).length)) (plsV 8 ra [])) = plsV 8 (rotR rows rows.length) [] := by
        rw [er, plsV_app ra (r :: rb) 8 [] hra]
        rfl
      rw [hall, if_neg (by rw [hBl]; omega)]
      exact ⟨_, _, _, rfl, hplain.again⟩
end Go.Proofs.Ytehgjkckhjggbaa
namespace Go.Proofs.Ytehgjkckhjggbaa
open Go.RowKit Go.Maps
/-- The needle that is Put of the key at a place. -/
def keepN (data : List Nat) (k i : Nat) : Rec := (k, i, false, (i % 256) :: data)
/-- What is there behind so many keys. -/
def keepR (data keys : List Nat) : Nat → List Rec
  | 0 => []
  | i + 1 => if keys.getD i 0 ∈ keys.take i then keepR data keys i else keepR data keys i ++ [keepN data (keys.getD i 0) i]
theorem take_snoc {keys : List Nat} {i : Nat} (h : i < keys.length) : keys.take (i + 1) = keys.take i ++ [keys.getD i 0] := by
  rw [List.take_succ_eq_append_getElem h]
  simp [h]
theorem keepR_keys (data keys : List Nat) : ∀ i, i ≤ keys.length → ∀ k, (∃ q ∈ keepR data keys i, q.1 = k) ↔ k ∈ keys.take i
  | 0, _, k => by simp [keepR]
  | i + 1, h, k => by
    have ih := keepR_keys data keys i (by omega) k
    rw [take_snoc (by omega)]
    unfold keepR
    split
    · rename_i hm
      rw [ih]
      simp only [List.mem_append, List.mem_singleton]
      constructor
      · exact .inl
      · rintro (h1 | rfl)
        · exact h1
        · exact hm
    · simp only [List.mem_append, List.mem_singleton]
      constructor
      · rintro ⟨q, hq | rfl, e⟩
        · exact .inl (ih.1 ⟨q, hq, e⟩)
        · exact .inr e.symm
      · rintro (h1 | rfl)
        · obtain ⟨q, hq, e⟩ := ih.2 h1
          exact ⟨q, .inl hq, e⟩
        · exact ⟨_, .inr rfl, rfl⟩
theorem keepR_fresh {data keys : List Nat} (hk : ∀ x ∈ keys, x < 18446744073709551616) (hd : ∀ x ∈ data, x < 256) (hl : data.length ≤ 200) (hn : keys.length ≤ 60) : ∀ i, i ≤ keys.length → Fresh (keepR data keys i)
  | 0, _ => ⟨by simp [keepR], by simp [keepR], by simp [keepR]⟩
  | i + 1, h => by
    have ih := keepR_fresh hk hd hl hn i (by omega)
    unfold keepR
    split
    · exact ih
    · rename_i hm
      have hkey : keys.getD i 0 < 18446744073709551616 := by
        apply hk
        have h9 : keys.getD i 0 = keys[i] := by simp [show i < keys.length by omega]
        rw [h9]
        exact List.getElem_mem _
      have hok : RecOk (keepN data (keys.getD i 0) i) := ⟨hkey, by show i < 4294967296; omega, by show ((i % 256) :: data).length ≤ 65536; simp; omega, by simp [keepN], by
        intro x hx
        have hx : x ∈ (i % 256) :: data := hx
        rcases List.mem_cons.1 hx with rfl | h1
        · exact Nat.mod_lt _ (by decide)
        · exact hd x h1⟩
      refine ⟨?_, ?_, ?_⟩
      · intro q hq
        rcases List.mem_append.1 hq with h1 | h1
        · exact ih.ok q h1
        · rw [List.mem_singleton.1 h1]; exact hok
      · intro q hq
        rcases List.mem_append.1 hq with h1 | h1
        · exact ih.alive q h1
        · rw [List.mem_singleton.1 h1]; rfl
      · rw [List.map_append]
        refine List.nodup_append.2 ⟨ih.once, by simp, ?_⟩
        intro a ha b hb e
        simp only [List.map_cons, List.map_nil, List.mem_singleton] at hb
        obtain ⟨q, hq, rfl⟩ := List.mem_map.1 ha
        exact hm ((keepR_keys data keys i (by omega) _).1 ⟨q, hq, by rw [e, hb]; rfl⟩)
theorem keepR_size {data keys : List Nat} (hl : data.length ≤ 200) : ∀ i, (bytesV (keepR data keys i)).length ≤ 240 * i
  | 0 => by simp [keepR, bytesV]
  | i + 1 => by
    have ih := keepR_size (data := data) (keys := keys) hl i
    unfold keepR
    split
    · omega
    · rw [bytesV_snoc, List.length_append]
      have h1 : (recV (keepN data (keys.getD i 0) i)).length = ndSize (data.length + 1) := needleL_len _ _ _ ((i % 256) :: data) (by simp; omega)
      have h2 : ndSize (data.length + 1) ≤ 240 := by unfold ndSize; omega
      omega
/-- A key that is there already is refused. -/
theorem putV_had (room : Nat) (s : Str) (id : Nat) (rs : List Rec) (r q : Rec) (h : Fresh rs) (hq : q ∈ rs) (e : q.1 = r.1) (hr : RecOk r) (ha : r.2.2.1 = false) :
    putV room s r.1 r.2.1 r.2.2.1 r.2.2.2 (plsV 8 rs []) (diskV s id rs) = ((plsV 8 rs [], diskV s id rs), 8) := by
  obtain ⟨ra, rb, rfl⟩ := List.append_of_mem hq
  have hg := plsV_at q ra rb h
  rw [e] at hg
  have hdead : (placeV q (8 + (bytesV ra).length)).dead = false := h.alive q hq
  have he : encN r.1 r.2.1 r.2.2.1 r.2.2.2 = (recV r, 0) := by
    unfold encN
    rw [if_neg hr.dead, if_neg (by have := hr.len; omega)]
    rfl
  unfold putV
  rw [he, hg, if_neg (by simp), if_neg (by unfold foundP; simp [hdead]), if_pos ⟨rfl, ha⟩]
theorem plsV_len : ∀ (rs : List Rec) (at_ : Nat) (T : PlL), (plsV at_ rs T).length ≤ T.length + rs.length
  | [], _, _ => Nat.le_refl _
  | r :: rs, at_, T => by
    have h1 := plsV_len rs (at_ + ndSize r.2.2.2.length) (takeL (placeV r at_) T)
    have h2 := takeL_len (placeV r at_) T
    simp only [plsV, List.length_cons]
    omega
theorem keepR_len (data keys : List Nat) : ∀ i, (keepR data keys i).length ≤ i
  | 0 => Nat.le_refl _
  | i + 1 => by
    have ih := keepR_len data keys i
    unfold keepR
    split
    · omega
    · rw [List.length_append, List.length_singleton]; omega
end Go.Proofs.Ytehgjkckhjggbaa
