/- Needles as bytes and bytes as needles, without a program. No conditions but the widths. -/
import Derived.Test.YtkgkhielfodmmaaSum
import Derived.Test.YtkgkhielfodmmaaFix8
import Derived.Test.YtkgkhielfodmmaaWrong
namespace Go.Proofs.Ytkgkhielfodmmaa
open Go.RowKit
/-- How many bytes a needle with so many of Data takes. -/
def ndSize (n : Nat) : Nat := (min n 65536 + 35) / 8 * 8
def dbit (d : Bool) : Nat := if d then 1 else 0
def head20 (key cookie : Nat) (d : Bool) (len : Nat) : List Nat := [110, 100, dbit d, 0] ++ be64 key ++ be32 cookie ++ be32 len
def head24 (key cookie : Nat) (d : Bool) (len : Nat) : List Nat := head20 key cookie d len ++ be32 (sumS (head20 key cookie d len))
def ndTail (data : List Nat) : List Nat := be32 (sumS data) ++ List.replicate (ndSize data.length - 28 - data.length) 0
def needleL (key cookie : Nat) (d : Bool) (data : List Nat) : List Nat := head24 key cookie d data.length ++ data ++ ndTail data
/-- What Encode makes of a needle. -/
def encN (key cookie : Nat) (d : Bool) (data : List Nat) : List Nat × Nat :=
  if d = true ∧ 0 < data.length then ([], 1) else if 65536 < data.length then ([], 5) else (needleL key cookie d data, 0)
/-- The fields of a head. -/
def hKey (b : List Nat) : Nat := foldV ((b.drop 4).take 8)
def hCook (b : List Nat) : Nat := val32 (b.drop 12)
def hLen (b : List Nat) : Nat := val32 (b.drop 16)
def hDead (b : List Nat) : Bool := b.getD 2 0 == 1
/-- Does Encode make such a head? -/
def HeadOk (b : List Nat) : Prop := hLen b ≤ 65536 ∧ ¬ (hDead b = true ∧ 0 < hLen b) ∧ b.take 24 = head24 (hKey b) (hCook b) (hDead b) (hLen b)
instance (b : List Nat) : Decidable (HeadOk b) := by unfold HeadOk; infer_instance
/-- What bytes begin with: key, cookie, mark and Data; how many bytes it takes; the error. -/
def ndDec (b : List Nat) : (Nat × Nat × Bool × List Nat) × Nat × Nat :=
  if b.length < 24 then ((0, 0, false, []), 0, 2)
  else if ¬ HeadOk b then ((0, 0, false, []), 0, 3)
  else if b.length < ndSize (hLen b) then ((0, 0, false, []), 0, 2)
  else if (b.drop (24 + hLen b)).take (ndSize (hLen b) - 24 - hLen b) ≠ ndTail ((b.drop 24).take (hLen b)) then ((hKey b, hCook b, hDead b, []), ndSize (hLen b), 4)
  else ((hKey b, hCook b, hDead b, (b.drop 24).take (hLen b)), ndSize (hLen b), 0)

theorem ndSize_ge (n : Nat) (h : n ≤ 65536) : n + 28 ≤ ndSize n ∧ ndSize n < n + 36 := by unfold ndSize; omega
theorem ndSize_le (n : Nat) : ndSize n ≤ 65568 ∧ 32 ≤ ndSize n := by unfold ndSize; omega
theorem ndSize_mono (n m : Nat) (h : n ≤ m) : ndSize n ≤ ndSize m := by unfold ndSize; omega
theorem ndSize_mod (n : Nat) : ndSize n % 8 = 0 := by unfold ndSize; omega
theorem dbit_le (d : Bool) : dbit d ≤ 1 := by cases d <;> decide
theorem head20_len (k c : Nat) (d : Bool) (l : Nat) : (head20 k c d l).length = 20 := rfl
theorem head24_len (k c : Nat) (d : Bool) (l : Nat) : (head24 k c d l).length = 24 := rfl
theorem ndTail_len (data : List Nat) (h : data.length ≤ 65536) : (ndTail data).length = ndSize data.length - 24 - data.length := by
  have := ndSize_ge _ h
  unfold ndTail
  rw [List.length_append, List.length_replicate]
  show 4 + _ = _
  omega
theorem needleL_len (k c : Nat) (d : Bool) (data : List Nat) (h : data.length ≤ 65536) : (needleL k c d data).length = ndSize data.length := by
  have := ndSize_ge _ h
  unfold needleL
  rw [List.length_append, List.length_append, head24_len, ndTail_len _ h]
  omega
theorem head20_byte (k c : Nat) (d : Bool) (l : Nat) : ∀ x ∈ head20 k c d l, x < 256 := by
  unfold head20
  refine byte_app (byte_app (byte_app ?_ (be64_byte k)) (be32_byte c)) (be32_byte l)
  intro x hx
  have := dbit_le d
  simp at hx
  omega
theorem head24_byte (k c : Nat) (d : Bool) (l : Nat) : ∀ x ∈ head24 k c d l, x < 256 := byte_app (head20_byte k c d l) (be32_byte _)
theorem ndTail_byte (data : List Nat) : ∀ x ∈ ndTail data, x < 256 := by
  unfold ndTail
  refine byte_app (be32_byte _) ?_
  intro x hx
  have := List.eq_of_mem_replicate hx
  omega
theorem needleL_byte (k c : Nat) (d : Bool) (data : List Nat) (hb : ∀ x ∈ data, x < 256) : ∀ x ∈ needleL k c d data, x < 256 :=
  byte_app (byte_app (head24_byte k c d _) hb) (ndTail_byte data)
theorem val32_lt' {xs : List Nat} (hb : ∀ x ∈ xs, x < 256) : val32 xs < 4294967296 := by
  have h : ∀ i, xs.getD i 0 < 256 := by
    intro i
    by_cases hi : i < xs.length
    · have e : xs.getD i 0 = xs[i] := by simp [hi]
      rw [e]; exact hb _ (List.getElem_mem hi)
    · have e : xs.getD i 0 = 0 := by simp; rw [List.getElem?_eq_none (by omega)]; rfl
      rw [e]; decide
  have h0 := h 0; have h1 := h 1; have h2 := h 2; have h3 := h 3
  unfold val32
  omega
theorem hLen_lt {b : List Nat} (hb : ∀ x ∈ b, x < 256) : hLen b < 4294967296 := val32_lt' (fun x hx => hb x (List.mem_of_mem_drop hx))
theorem hCook_lt {b : List Nat} (hb : ∀ x ∈ b, x < 256) : hCook b < 4294967296 := val32_lt' (fun x hx => hb x (List.mem_of_mem_drop hx))
theorem hKey_lt {b : List Nat} (hb : ∀ x ∈ b, x < 256) : hKey b < 18446744073709551616 := by
  unfold hKey
  have h := foldV_lt (b.drop 4 |>.take 8) (fun x hx => hb x (List.mem_of_mem_drop (List.mem_of_mem_take hx))) ((b.drop 4).take 8).length (Nat.le_refl _)
  rw [List.take_length] at h
  refine Nat.lt_of_lt_of_le h ?_
  have : 256 ^ ((b.drop 4).take 8).length ≤ 256 ^ 8 := Nat.pow_le_pow_right (by decide) (by rw [List.length_take]; omega)
  exact this

/-! ### fields that were written are read -/
theorem four {xs : List Nat} (h : 4 ≤ xs.length) : ∃ a b c d r, xs = a :: b :: c :: d :: r := by
  match xs, h with
  | a :: b :: c :: d :: r, _ => exact ⟨a, b, c, d, r, rfl⟩
theorem be32_back {xs : List Nat} (h : 4 ≤ xs.length) (hb : ∀ x ∈ xs, x < 256) : be32 (val32 xs) = xs.take 4 := by
  obtain ⟨a, b, c, d, r, rfl⟩ := four h
  have ha := hb a (by simp); have hb' := hb b (by simp); have hc := hb c (by simp); have hd := hb d (by simp)
  unfold be32 val32
  simp
  omega
theorem val32_app {xs ys : List Nat} (h : 4 ≤ xs.length) : val32 (xs ++ ys) = val32 xs := by
  obtain ⟨a, b, c, d, r, rfl⟩ := four h
  rfl
theorem val32_take {xs : List Nat} (h : 4 ≤ xs.length) : val32 (xs.take 4) = val32 xs := by
  obtain ⟨a, b, c, d, r, rfl⟩ := four h
  rfl
theorem foldV_val {xs : List Nat} (h : 8 ≤ xs.length) : foldV (xs.take 8) = val32 xs * 4294967296 + val32 (xs.drop 4) := by
  obtain ⟨a, b, c, d, r, rfl⟩ := four (Nat.le_trans (by decide) h)
  have h2 : 4 ≤ r.length := by simp at h; omega
  obtain ⟨e, f, g, i, q, rfl⟩ := four h2
  unfold foldV val32
  simp
  omega
theorem be64_back {xs : List Nat} (h : 8 ≤ xs.length) (hb : ∀ x ∈ xs, x < 256) : be64 (foldV (xs.take 8)) = xs.take 8 := by
  have hl := val32_lt' (xs := xs.drop 4) (fun x hx => hb x (List.mem_of_mem_drop hx))
  have e1 : (val32 xs * 4294967296 + val32 (xs.drop 4)) / 4294967296 = val32 xs := by omega
  have e2 : (val32 xs * 4294967296 + val32 (xs.drop 4)) % 4294967296 = val32 (xs.drop 4) := by omega
  rw [foldV_val h]
  unfold be64
  rw [e1, e2, be32_back (by omega) hb, be32_back (by rw [List.length_drop]; omega) (fun x hx => hb x (List.mem_of_mem_drop hx))]
  rw [← List.take_add]
theorem be32_inj {a b : Nat} (ha : a < 4294967296) (hb : b < 4294967296) (h : be32 a = be32 b) : a = b := by
  have := congrArg val32 h
  rw [← List.append_nil (be32 a), ← List.append_nil (be32 b), val32_be a ha, val32_be b hb] at this
  exact this
theorem hLen_head (k c : Nat) (d : Bool) (l : Nat) (h : l < 4294967296) (more : List Nat) : hLen (head24 k c d l ++ more) = l := by
  have e : (head24 k c d l ++ more).drop 16 = be32 l ++ (be32 (sumS (head20 k c d l)) ++ more) := rfl
  unfold hLen
  rw [e, val32_be _ h]
theorem hCook_head (k c : Nat) (d : Bool) (l : Nat) (h : c < 4294967296) (more : List Nat) : hCook (head24 k c d l ++ more) = c := by
  have e : (head24 k c d l ++ more).drop 12 = be32 c ++ (be32 l ++ (be32 (sumS (head20 k c d l)) ++ more)) := rfl
  unfold hCook
  rw [e, val32_be _ h]
theorem hKey_head (k c : Nat) (d : Bool) (l : Nat) (h : k < 18446744073709551616) (more : List Nat) : hKey (head24 k c d l ++ more) = k := by
  have e : (head24 k c d l ++ more).drop 4 = be64 k ++ (be32 c ++ (be32 l ++ (be32 (sumS (head20 k c d l)) ++ more))) := rfl
  unfold hKey
  rw [e, val64_be _ h]
theorem hDead_head (k c : Nat) (d : Bool) (l : Nat) (more : List Nat) : hDead (head24 k c d l ++ more) = d := by
  have e : (head24 k c d l ++ more).getD 2 0 = dbit d := rfl
  unfold hDead
  rw [e]
  cases d <;> rfl
theorem headOk_head (k c : Nat) (d : Bool) (l : Nat) (hk : k < 18446744073709551616) (hc : c < 4294967296) (hl : l ≤ 65536) (hd : ¬ (d = true ∧ 0 < l)) (more : List Nat) : HeadOk (head24 k c d l ++ more) := by
  unfold HeadOk
  rw [hLen_head k c d l (by omega), hCook_head k c d l hc, hKey_head k c d l hk, hDead_head]
  exact ⟨hl, hd, List.take_left' (head24_len k c d l)⟩

/-! ### what was written is read -/
theorem dec_needle (k c : Nat) (d : Bool) (data more : List Nat) (hk : k < 18446744073709551616) (hc : c < 4294967296) (hl : data.length ≤ 65536) (hd : ¬ (d = true ∧ 0 < data.length)) :
    ndDec (needleL k c d data ++ more) = ((k, c, d, data), ndSize data.length, 0) := by
  have hg := ndSize_ge _ hl
  have e : needleL k c d data ++ more = head24 k c d data.length ++ (data ++ (ndTail data ++ more)) := by unfold needleL; simp
  have hlen := needleL_len k c d data hl
  have hok := headOk_head k c d data.length hk hc hl hd (data ++ (ndTail data ++ more))
  have e1 := hLen_head k c d data.length (by omega) (data ++ (ndTail data ++ more))
  have e2 := hCook_head k c d data.length hc (data ++ (ndTail data ++ more))
  have e3 := hKey_head k c d data.length hk (data ++ (ndTail data ++ more))
  have e4 := hDead_head k c d data.length (data ++ (ndTail data ++ more))
  rw [← e] at hok e1 e2 e3 e4
  have d1 : (needleL k c d data ++ more).drop 24 = data ++ (ndTail data ++ more) := by rw [e, List.drop_left' (head24_len k c d _)]
  have d2 : (needleL k c d data ++ more).drop (24 + data.length) = ndTail data ++ more := by rw [← List.drop_drop, d1, List.drop_left]
  unfold ndDec
  rw [if_neg (by rw [List.length_append, hlen]; omega), if_neg (by simpa using hok), e1, e2, e3, e4, if_neg (by rw [List.length_append, hlen]; omega), d1, d2, List.take_left' (ndTail_len data hl), List.take_left, if_neg (by simp)]
theorem dec_cut (k c : Nat) (d : Bool) (data : List Nat) (hk : k < 18446744073709551616) (hc : c < 4294967296) (hl : data.length ≤ 65536) (hd : ¬ (d = true ∧ 0 < data.length)) (j : Nat) (hj : j < (needleL k c d data).length) :
    ndDec ((needleL k c d data).take j) = ((0, 0, false, []), 0, 2) := by
  have hlen := needleL_len k c d data hl
  unfold ndDec
  by_cases h24 : j < 24
  · rw [if_pos (by rw [List.length_take]; omega)]
  · have e : (needleL k c d data).take j = head24 k c d data.length ++ (data ++ ndTail data).take (j - 24) := by
      have e0 : needleL k c d data = head24 k c d data.length ++ (data ++ ndTail data) := by unfold needleL; simp
      rw [e0, List.take_append, List.take_of_length_le (by rw [head24_len]; omega), head24_len]
    have hok := headOk_head k c d data.length hk hc hl hd ((data ++ ndTail data).take (j - 24))
    have e1 := hLen_head k c d data.length (by omega) ((data ++ ndTail data).take (j - 24))
    rw [← e] at hok e1
    rw [if_neg (by rw [List.length_take]; omega), if_neg (by simpa using hok), e1, if_pos (by rw [List.length_take]; omega)]
theorem xor_ne {x y : Nat} (h : y ≠ 0) : x ^^^ y ≠ x := by
  intro e
  have e6 : x ^^^ y = x ^^^ 0 := by rw [e, Nat.xor_zero]
  exact h (xor_lc e6)
theorem set_xor_ne {xs : List Nat} {i y : Nat} (h : i < xs.length) (hy : y ≠ 0) : xs.set i (xs.getD i 0 ^^^ y) ≠ xs := by
  intro e
  have := congrArg (·.getD i 0) e
  simp [h] at this
  exact xor_ne hy this
theorem ndTail_inj {a b : List Nat} (h : ndTail a = ndTail b) : sumS a = sumS b := by
  unfold ndTail at h
  have h2 : (be32 (sumS a) ++ List.replicate (ndSize a.length - 28 - a.length) 0).take 4 = (be32 (sumS b) ++ List.replicate (ndSize b.length - 28 - b.length) 0).take 4 := by rw [h]
  rw [List.take_left' (be32_len _), List.take_left' (be32_len _)] at h2
  exact be32_inj (by unfold sumS; omega) (by unfold sumS; omega) h2
/-- One byte that is turned into another one is seen. -/
theorem dec_wrong (k c : Nat) (d : Bool) (data : List Nat) (hb : ∀ x ∈ data, x < 256) (hk : k < 18446744073709551616) (hc : c < 4294967296) (hl : data.length ≤ 65536) (hd : ¬ (d = true ∧ 0 < data.length)) (i y : Nat) (hi : i < (needleL k c d data).length) (hy : y < 256) (hy0 : y ≠ 0) :
    (ndDec ((needleL k c d data).set i ((needleL k c d data).getD i 0 ^^^ y))).2.2 = 3 ∨ (ndDec ((needleL k c d data).set i ((needleL k c d data).getD i 0 ^^^ y))).2.2 = 4 := by
  have hlen := needleL_len k c d data hl
  have hg := ndSize_ge _ hl
  have e0 : needleL k c d data = head24 k c d data.length ++ (data ++ ndTail data) := by unfold needleL; simp
  by_cases h24 : i < 24
  · left
    have eb : (needleL k c d data).set i ((needleL k c d data).getD i 0 ^^^ y) = (head24 k c d data.length).set i ((head24 k c d data.length).getD i 0 ^^^ y) ++ (data ++ ndTail data) := by
      rw [e0, List.set_append, if_pos (by rw [head24_len]; exact h24)]
      congr 2
      congr 1
      simp [List.getElem?_append, head24_len, h24]
    obtain ⟨b, hbe⟩ : ∃ b, b = (needleL k c d data).set i ((needleL k c d data).getD i 0 ^^^ y) := ⟨_, rfl⟩
    have hbl : b.length = ndSize data.length := by rw [hbe, List.length_set, hlen]
    rw [← hbe] at eb ⊢
    have ht : b.take 24 = (head24 k c d data.length).set i ((head24 k c d data.length).getD i 0 ^^^ y) := by rw [eb, List.take_left' (by rw [List.length_set, head24_len])]
    have hno : ¬ HeadOk b := by
      rintro ⟨_, _, h⟩
      rw [ht] at h
      obtain ⟨H, hH⟩ : ∃ H, H = head20 k c d data.length := ⟨_, rfl⟩
      have hH20 : H.length = 20 := by rw [hH]; exact head20_len _ _ _ _
      have hH24 : head24 k c d data.length = H ++ be32 (sumS H) := by rw [hH]; rfl
      have hHb : ∀ x ∈ H, x < 256 := by rw [hH]; exact head20_byte _ _ _ _
      obtain ⟨G, hG⟩ : ∃ G, G = head20 (hKey b) (hCook b) (hDead b) (hLen b) := ⟨_, rfl⟩
      have hG20 : G.length = 20 := by rw [hG]; exact head20_len _ _ _ _
      have hG24 : head24 (hKey b) (hCook b) (hDead b) (hLen b) = G ++ be32 (sumS G) := by rw [hG]; rfl
      rw [hH24, hG24] at h
      by_cases h20 : i < 20
      · rw [List.set_append, if_pos (by omega)] at h
        have hx : (H ++ be32 (sumS H)).getD i 0 = H.getD i 0 := by simp [List.getElem?_append, hH20, h20]
        rw [hx] at h
        have h1 := List.append_inj h (by rw [List.length_set]; omega)
        have h2 := be32_inj (by unfold sumS; omega) (by unfold sumS; omega) h1.2
        rw [← h1.1] at h2
        exact sum_wrong hHb i y (by omega) hy hy0 h2.symm
      · rw [List.set_append, if_neg (by omega)] at h
        have h1 := List.append_inj h (by omega)
        have h2 := h1.2
        rw [← h1.1] at h2
        have hx : (H ++ be32 (sumS H)).getD i 0 = (be32 (sumS H)).getD (i - 20) 0 := by
          simp [List.getElem?_append, hH20, h20]
        rw [hx, hH20] at h2
        exact set_xor_ne (by rw [be32_len]; omega) hy0 h2
    unfold ndDec
    rw [if_neg (by omega), if_pos hno]
  · right
    have eb : (needleL k c d data).set i ((needleL k c d data).getD i 0 ^^^ y) = head24 k c d data.length ++ (data ++ ndTail data).set (i - 24) ((data ++ ndTail data).getD (i - 24) 0 ^^^ y) := by
      rw [e0, List.set_append, if_neg (by rw [head24_len]; exact h24), head24_len]
      congr 3
      simp [List.getElem?_append, head24_len, h24]
    obtain ⟨R, hR⟩ : ∃ R, R = (data ++ ndTail data).set (i - 24) ((data ++ ndTail data).getD (i - 24) 0 ^^^ y) := ⟨_, rfl⟩
    have hRl : R.length = ndSize data.length - 24 := by rw [hR, List.length_set, List.length_append, ndTail_len _ hl]; omega
    rw [← hR] at eb
    rw [eb]
    have hok := headOk_head k c d data.length hk hc hl hd R
    have e1 := hLen_head k c d data.length (by omega) R
    have hno : (R.drop data.length).take (ndSize data.length - 24 - data.length) ≠ ndTail (R.take data.length) := by
      rw [List.take_of_length_le (by rw [List.length_drop]; omega)]
      intro h
      rw [hR] at h
      by_cases hin : i - 24 < data.length
      · rw [List.set_append, if_pos hin] at h
        have hx : (data ++ ndTail data).getD (i - 24) 0 = data.getD (i - 24) 0 := by simp [List.getElem?_append, hin]
        rw [hx, List.drop_left' (by rw [List.length_set]), List.take_left' (by rw [List.length_set])] at h
        exact sum_wrong hb (i - 24) y hin hy hy0 (ndTail_inj h).symm
      · rw [List.set_append, if_neg hin, List.drop_left, List.take_left] at h
        have hx : (data ++ ndTail data).getD (i - 24) 0 = (ndTail data).getD (i - 24 - data.length) 0 := by simp [List.getElem?_append, hin]
        rw [hx] at h
        exact set_xor_ne (by rw [ndTail_len _ hl]; omega) hy0 h
    have d1 : (head24 k c d data.length ++ R).drop 24 = R := List.drop_left' (head24_len _ _ _ _)
    have d2 : (head24 k c d data.length ++ R).drop (24 + data.length) = R.drop data.length := by rw [← List.drop_drop, d1]
    unfold ndDec
    rw [if_neg (by rw [List.length_append, head24_len]; omega), if_neg (by simpa using hok), e1, if_neg (by rw [List.length_append, head24_len]; omega), d1, d2, if_pos hno]

/-! ### the document's way of asking for the head -/
theorem head_ref {b : List Nat} (h : 24 ≤ b.length) (hb : ∀ x ∈ b, x < 256) :
    (b.take 24 = head24 (hKey b) (hCook b) (hDead b) (hLen b)) ↔ (b.getD 0 0 = 110 ∧ b.getD 1 0 = 100 ∧ b.getD 2 0 ≤ 1 ∧ b.getD 3 0 = 0 ∧ val32 (b.drop 20) = sumS (b.take 20)) := by
  have hbd : ∀ k, ∀ x ∈ b.drop k, x < 256 := fun k x hx => hb x (List.mem_of_mem_drop hx)
  have k1 : be64 (hKey b) = (b.drop 4).take 8 := be64_back (by rw [List.length_drop]; omega) (hbd 4)
  have k2 : be32 (hCook b) = (b.drop 12).take 4 := be32_back (by rw [List.length_drop]; omega) (hbd 12)
  have k3 : be32 (hLen b) = (b.drop 16).take 4 := be32_back (by rw [List.length_drop]; omega) (hbd 16)
  have k4 : be32 (val32 (b.drop 20)) = (b.drop 20).take 4 := be32_back (by rw [List.length_drop]; omega) (hbd 20)
  have t20 : b.take 20 = b.take 4 ++ (b.drop 4).take 8 ++ (b.drop 12).take 4 ++ (b.drop 16).take 4 := by
    have a1 : b.take (4 + 8) = b.take 4 ++ (b.drop 4).take 8 := List.take_add
    have a2 : b.take (12 + 4) = b.take 12 ++ (b.drop 12).take 4 := List.take_add
    have a3 : b.take (16 + 4) = b.take 16 ++ (b.drop 16).take 4 := List.take_add
    rw [a3, a2, a1]
  have t24 : b.take 24 = b.take 20 ++ (b.drop 20).take 4 := List.take_add (i := 20) (j := 4)
  have t4 : b.take 4 = [b.getD 0 0, b.getD 1 0, b.getD 2 0, b.getD 3 0] := by
    obtain ⟨x0, x1, x2, x3, r, rfl⟩ := four (xs := b) (by omega)
    rfl
  have hH : head20 (hKey b) (hCook b) (hDead b) (hLen b) = [110, 100, dbit (hDead b), 0] ++ (b.drop 4).take 8 ++ (b.drop 12).take 4 ++ (b.drop 16).take 4 := by
    unfold head20; rw [k1, k2, k3]
  unfold head24
  constructor
  · intro e
    rw [t24] at e
    have h1 := List.append_inj e (by rw [head20_len, List.length_take]; omega)
    have h2 := h1.1
    rw [hH, t20] at h2
    have h3 := (List.append_inj h2 (by simp only [List.length_append, List.length_take, List.length_drop, List.length_cons, List.length_nil]; omega)).1
    have h4 := (List.append_inj h3 (by simp only [List.length_append, List.length_take, List.length_drop, List.length_cons, List.length_nil]; omega)).1
    have h5 := (List.append_inj h4 (by simp only [List.length_take, List.length_cons, List.length_nil]; omega)).1
    rw [t4] at h5
    simp only [List.cons.injEq] at h5
    obtain ⟨g0, g1, g2, g3, _⟩ := h5
    refine ⟨g0, g1, by rw [g2]; exact dbit_le _, g3, ?_⟩
    have h6 := h1.2
    rw [← h1.1, ← k4] at h6
    exact be32_inj (val32_lt' (hbd 20)) (by unfold sumS; omega) h6
  · rintro ⟨g0, g1, g2, g3, gs⟩
    have gd : dbit (hDead b) = b.getD 2 0 := by
      unfold hDead dbit
      by_cases h2 : b.getD 2 0 = 1
      · rw [h2]; rfl
      · have h0 : b.getD 2 0 = 0 := by omega
        rw [h0]; rfl
    have hH2 : head20 (hKey b) (hCook b) (hDead b) (hLen b) = b.take 20 := by
      rw [hH, t20, t4, gd, g0, g1, g3]
    rw [hH2, t24, ← gs, k4]
end Go.Proofs.Ytkgkhielfodmmaa
