/- Needles as bytes and bytes as needles, without a program. No conditions but the widths. Blocks of the call's own with their cells written out. No condition. What may have been turned: footprints. No condition. The contract of bytes.Clone. Condition: the row is below 2 to the 40. A cell that is none of a thing's stands behind a call of it. No condition. An append of bytes to a slice of the call's own, with where the new slice lies. Condition: the lengths together are below 2 to the 47. The contract of needle.Size. No condition. Slices of bytes: what is left of them, three of them. No condition. What bytes begin with, case by case. It names nothing of the program. The contract of bytes.Equal: whether two rows of bytes are the same. Condition: bytes are below 256. -/
import Derived.Test.YtehgjkckhjggbaaVr6
import Derived.Maps.Range
import Derived.Maps.AppendAt
import Derived.Lib.SliceRun
import Derived.Laws.IdiomStrings
import Derived.Laws.BytesArg
import Derived.Laws.BytesString
namespace Go.Proofs.Ytehgjkckhjggbaa
open Go.RowKit
/-- How many bytes a needle with so many of Data takes. -/
def ndSize (n : Nat) : Nat := (min n 65536 + 35) / 8 * 8
def dbit (d : Bool) : Nat := if d then 1 else 0
def head20 (key cookie : Nat) (d : Bool) (len : Nat) : List Nat := [110, 100, dbit d, 0] ++ be64 key ++ be32 cookie ++ be32 len
def head24 (key cookie : Nat) (d : Bool) (len : Nat) : List Nat := head20 key cookie d len ++ be32 (sumS (head20 key cookie d len))
def ndTail (data : List Nat) : List Nat := be32 (sumS data) ++ List.replicate (ndSize data.length - 28 - data.length) 0
def needleL (key cookie : Nat) (d : Bool) (data : List Nat) : List Nat := head24 key cookie d data.length ++ data ++ ndTail data
/-- What Encode makes of a needle. -/
def encN (key cookie : Nat) (d : Bool) (data : List Nat) : List Nat × Nat :=
  if d = true ∧ 0 < data.length then ([], 1) else if 65536 < data.length then ([], 5) else (needleL key cookie d data, 0)
/-- The fields of a head. -/
def hKey (b : List Nat) : Nat := foldV ((b.drop 4).take 8)
def hCook (b : List Nat) : Nat := val32 (b.drop 12)
def hLen (b : List Nat) : Nat := val32 (b.drop 16)
def hDead (b : List Nat) : Bool := b.getD 2 0 == 1
/-- Does Encode make such a head? -/
def HeadOk (b : List Nat) : Prop := hLen b ≤ 65536 ∧ ¬ (hDead b = true ∧ 0 < hLen b) ∧ b.take 24 = head24 (hKey b) (hCook b) (hDead b) (hLen b)
instance (b : List Nat) : Decidable (HeadOk b) := by unfold HeadOk; infer_instance
/-- What bytes begin with: key, cookie, mark and Data; how many bytes it takes; the error. -/
def ndDec (b : List Nat) : (Nat × Nat × Bool × List Nat) × Nat × Nat :=
  if b.length < 24 then ((0, 0, false, []), 0, 2)
  else if ¬ HeadOk b then ((0, 0, false, []), 0, 3)
  else if b.length < ndSize (hLen b) then ((0, 0, false, []), 0, 2)
  else if (b.drop (24 + hLen b)).take (ndSize (hLen b) - 24 - hLen b) ≠ ndTail ((b.drop 24).take (hLen b)) then ((hKey b, hCook b, hDead b, []), ndSize (hLen b), 4)
  else ((hKey b, hCook b, hDead b, (b.drop 24).take (hLen b)), ndSize (hLen b), 0)

theorem ndSize_ge (n : Nat) (h : n ≤ 65536) : n + 28 ≤ ndSize n ∧ ndSize n < n + 36 := by unfold ndSize; omega
theorem ndSize_le (n : Nat) : ndSize n ≤ 65568 ∧ 32 ≤ ndSize n := by unfold ndSize; omega
theorem ndSize_mono (n m : Nat) (h : n ≤ m) : ndSize n ≤ ndSize m := by unfold ndSize; omega
theorem ndSize_mod (n : Nat) : ndSize n % 8 = 0 := by unfold ndSize; omega
theorem dbit_le (d : Bool) : dbit d ≤ 1 := by cases d <;> decide
theorem head20_len (k c : Nat) (d : Bool) (l : Nat) : (head20 k c d l).length = 20 := rfl
theorem head24_len (k c : Nat) (d : Bool) (l : Nat) : (head24 k c d l).length = 24 := rfl
theorem ndTail_len (data : List Nat) (h : data.length ≤ 65536) : (ndTail data).length = ndSize data.length - 24 - data.length := by
  have := ndSize_ge _ h
  unfold ndTail
  rw [List.length_append, List.length_replicate]
  show 4 + _ = _
  omega
theorem needleL_len (k c : Nat) (d : Bool) (data : List Nat) (h : data.length ≤ 65536) : (needleL k c d data).length = ndSize data.length := by
  have := ndSize_ge _ h
  unfold needleL
  rw [List.length_append, List.length_append, head24_len, ndTail_len _ h]
  omega
theorem head20_byte (k c : Nat) (d : Bool) (l : Nat) : ∀ x ∈ head20 k c d l, x < 256 := by
  unfold head20
  refine byte_app (byte_app (byte_app ?_ (be64_byte k)) (be32_byte c)) (be32_byte l)
  intro x hx
  have := dbit_le d
  simp at hx
  omega
theorem head24_byte (k c : Nat) (d : Bool) (l : Nat) : ∀ x ∈ head24 k c d l, x < 256 := byte_app (head20_byte k c d l) (be32_byte _)
theorem ndTail_byte (data : List Nat) : ∀ x ∈ ndTail data, x < 256 := by
  unfold ndTail
  refine byte_app (be32_byte _) ?_
  intro x hx
  have := List.eq_of_mem_replicate hx
  omega
theorem needleL_byte (k c : Nat) (d : Bool) (data : List Nat) (hb : ∀ x ∈ data, x < 256) : ∀ x ∈ needleL k c d data, x < 256 :=
  byte_app (byte_app (head24_byte k c d _) hb) (ndTail_byte data)
theorem val32_lt' {xs : List Nat} (hb : ∀ x ∈ xs, x < 256) : val32 xs < 4294967296 := by
  have h : ∀ i, xs.getD i 0 < 256 := by
    intro i
    by_cases hi : i < xs.length
    · have e : xs.getD i 0 = xs[i] := by simp [hi]
      rw [e]; exact hb _ (List.getElem_mem hi)
    · have e : xs.getD i 0 = 0 := by simp; rw [List.getElem?_eq_none (by omega)]; rfl
      rw [e]; decide
  have h0 := h 0; have h1 := h 1; have h2 := h 2; have h3 := h 3
  unfold val32
  omega
theorem hLen_lt {b : List Nat} (hb : ∀ x ∈ b, x < 256) : hLen b < 4294967296 := val32_lt' (fun x hx => hb x (List.mem_of_mem_drop hx))
theorem hCook_lt {b : List Nat} (hb : ∀ x ∈ b, x < 256) : hCook b < 4294967296 := val32_lt' (fun x hx => hb x (List.mem_of_mem_drop hx))
theorem hKey_lt {b : List Nat} (hb : ∀ x ∈ b, x < 256) : hKey b < 18446744073709551616 := by
  unfold hKey
  have h := foldV_lt (b.drop 4 |>.take 8) (fun x hx => hb x (List.mem_of_mem_drop (List.mem_of_mem_take hx))) ((b.drop 4).take 8).length (Nat.le_refl _)
  rw [List.take_length] at h
  refine Nat.lt_of_lt_of_le h ?_
  have : 256 ^ ((b.drop 4).take 8).length ≤ 256 ^ 8 := Nat.pow_le_pow_right (by decide) (by rw [List.length_take]; omega)
  exact this

/-! ### fields that were written are read -/
theorem four {xs : List Nat} (h : 4 ≤ xs.length) : ∃ a b c d r, xs = a :: b :: c :: d :: r := by
  match xs, h with
  | a :: b :: c :: d :: r, _ => exact ⟨a, b, c, d, r, rfl⟩
theorem be32_back {xs : List Nat} (h : 4 ≤ xs.length) (hb : ∀ x ∈ xs, x < 256) : be32 (val32 xs) = xs.take 4 := by
  obtain ⟨a, b, c, d, r, rfl⟩ := four h
  have ha := hb a (by simp); have hb' := hb b (by simp); have hc := hb c (by simp); have hd := hb d (by simp)
  unfold be32 val32
  simp
  omega
theorem val32_app {xs ys : List Nat} (h : 4 ≤ xs.length) : val32 (xs ++ ys) = val32 xs := by
  obtain ⟨a, b, c, d, r, rfl⟩ := four h
  rfl
theorem val32_take {xs : List Nat} (h : 4 ≤ xs.length) : val32 (xs.take 4) = val32 xs := by
  obtain ⟨a, b, c, d, r, rfl⟩ := four h
  rfl
theorem foldV_val {xs : List Nat} (h : 8 ≤ xs.length) : foldV (xs.take 8) = val32 xs * 4294967296 + val32 (xs.drop 4) := by
  obtain ⟨a, b, c, d, r, rfl⟩ := four (Nat.le_trans (by decide) h)
  have h2 : 4 ≤ r.length := by simp at h; omega
  obtain ⟨e, f, g, i, q, rfl⟩ := four h2
  unfold foldV val32
  simp
  omega
theorem be64_back {xs : List Nat} (h : 8 ≤ xs.length) (hb : ∀ x ∈ xs, x < 256) : be64 (foldV (xs.take 8)) = xs.take 8 := by
  have hl := val32_lt' (xs := xs.drop 4) (fun x hx => hb x (List.mem_of_mem_drop hx))
  have e1 : (val32 xs * 4294967296 + val32 (xs.drop 4)) / 4294967296 = val32 xs := by omega
  have e2 : (val32 xs * 4294967296 + val32 (xs.drop 4)) % 4294967296 = val32 (xs.drop 4) := by omega
  rw [foldV_val h]
  unfold be64
  rw [e1, e2, be32_back (by omega) hb, be32_back (by rw [List.length_drop]; omega) (fun x hx => hb x (List.mem_of_mem_drop hx))]
  rw [← List.take_add]
theorem be32_inj {a b : Nat} (ha : a < 4294967296) (hb : b < 4294967296) (h : be32 a = be32 b) : a = b := by
  have := congrArg val32 h
  rw [← List.append_nil (be32 a), ← List.append_nil (be32 b), val32_be a ha, val32_be b hb] at this
  exact this
theorem hLen_head (k c : Nat) (d : Bool) (l : Nat) (h : l < 4294967296) (more : List Nat) : hLen (head24 k c d l ++ more) = l := by
  have e : (head24 k c d l ++ more).drop 16 = be32 l ++ (be32 (sumS (head20 k c d l)) ++ more) := rfl
  unfold hLen
  rw [e, val32_be _ h]
theorem hCook_head (k c : Nat) (d : Bool) (l : Nat) (h : c < 4294967296) (more : List Nat) : hCook (head24 k c d l ++ more) = c := by
  have e : (head24 k c d l ++ more).drop 12 = be32 c ++ (be32 l ++ (be32 (sumS (head20 k c d l)) ++ more)) := rfl
  unfold hCook
  rw [e, val32_be _ h]
theorem hKey_head (k c : Nat) (d : Bool) (l : Nat) (h : k < 18446744073709551616) (more : List Nat) : hKey (head24 k c d l ++ more) = k := by
  have e : (head24 k c d l ++ more).drop 4 = be64 k ++ (be32 c ++ (be32 l ++ (be32 (sumS (head20 k c d l)) ++ more))) := rfl
  unfold hKey
  rw [e, val64_be _ h]
theorem hDead_head (k c : Nat) (d : Bool) (l : Nat) (more : List Nat) : hDead (head24 k c d l ++ more) = d := by
  have e : (head24 k c d l ++ more).getD 2 0 = dbit d := rfl
  unfold hDead
  rw [e]
  cases d <;> rfl
theorem headOk_head (k c : Nat) (d : Bool) (l : Nat) (hk : k < 18446744073709551616) (hc : c < 4294967296) (hl : l ≤ 65536) (hd : ¬ (d = true ∧ 0 < l)) (more : List Nat) : HeadOk (head24 k c d l ++ more) := by
  unfold HeadOk
  rw [hLen_head k c d l (by omega), hCook_head k c d l hc, hKey_head k c d l hk, hDead_head]
  exact ⟨hl, hd, List.take_left' (head24_len k c d l)⟩

/-! ### what was written is read -/
theorem dec_needle (k c : Nat) (d : Bool) (data more : List Nat) (hk : k < 18446744073709551616) (hc : c < 4294967296) (hl : data.length ≤ 65536) (hd : ¬ (d = true ∧ 0 < data.length)) :
    ndDec (needleL k c d data ++ more) = ((k, c, d, data), ndSize data.length, 0) := by
  have hg := ndSize_ge _ hl
  have e : needleL k c d data ++ more = head24 k c d data.length ++ (data ++ (ndTail data ++ more)) := by unfold needleL; simp
  have hlen := needleL_len k c d data hl
  have hok := headOk_head k c d data.length hk hc hl hd (data ++ (ndTail data ++ more))
  have e1 := hLen_head k c d data.length (by omega) (data ++ (ndTail data ++ more))
  have e2 := hCook_head k c d data.length hc (data ++ (ndTail data ++ more))
  have e3 := hKey_head k c d data.length hk (data ++ (ndTail data ++ more))
  have e4 := hDead_head k c d data.length (data ++ (ndTail data ++ more))
  rw [← e] at hok e1 e2 e3 e4
  have d1 : (needleL k c d data ++ more).drop 24 = data ++ (ndTail data ++ more) := by rw [e, List.drop_left' (head24_len k c d _)]
  have d2 : (needleL k c d data ++ more).drop (24 + data.length) = ndTail data ++ more := by rw [← List.drop_drop, d1, List.drop_left]
  unfold ndDec
  rw [if_neg (by rw [List.length_append, hlen]; omega), if_neg (by simpa using hok), e1, e2, e3, e4, if_neg (by rw [List.length_append, hlen]; omega), d1, d2, List.take_left' (ndTail_len data hl), List.take_left, if_neg (by simp)]
theorem dec_cut (k c : Nat) (d : Bool) (data : List Nat) (hk : k < 18446744073709551616) (hc : c < 4294967296) (hl : data.length ≤ 65536) (hd : ¬ (d = true ∧ 0 < data.length)) (j : Nat) (hj : j < (needleL k c d data).length) :
    ndDec ((needleL k c d data).take j) = ((0, 0, false, []), 0, 2) := by
  have hlen := needleL_len k c d data hl
  unfold ndDec
  by_cases h24 : j < 24
  · rw [if_pos (by rw [List.length_take]; omega)]
  · have e : (needleL k c d data).take j = head24 k c d data.length ++ (data ++ ndTail data).take (j - 24) := by
      have e0 : needleL k c d data = head24 k c d data.length ++ (data ++ ndTail data) := by unfold needleL; simp
      rw [e0, List.take_append, List.take_of_length_le (by rw [head24_len]; omega), head24_len]
    have hok := headOk_head k c d data.length hk hc hl hd ((data ++ ndTail data).take (j - 24))
    have e1 := hLen_head k c d data.length (by omega) ((data ++ ndTail data).take (j - 24))
    rw [← e] at hok e1
    rw [if_neg (by rw [List.length_take]; omega), if_neg (by simpa using hok), e1, if_pos (by rw [List.length_take]; omega)]
theorem xor_ne {x y : Nat} (h : y ≠ 0) : x ^^^ y ≠ x := by
  intro e
  have e6 : x ^^^ y = x ^^^ 0 := by rw [e, Nat.xor_zero]
  exact h (xor_lc e6)
theorem set_xor_ne {xs : List Nat} {i y : Nat} (h : i < xs.length) (hy : y ≠ 0) : xs.set i (xs.getD i 0 ^^^ y) ≠ xs := by
  intro e
  have := congrArg (·.getD i 0) e
  simp [h] at this
  exact xor_ne hy this
theorem ndTail_inj {a b : List Nat} (h : ndTail a = ndTail b) : sumS a = sumS b := by
  unfold ndTail at h
  have h2 : (be32 (sumS a) ++ List.replicate (ndSize a.length - 28 - a.length) 0).take 4 = (be32 (sumS b) ++ List.replicate (ndSize b.length - 28 - b.length) 0).take 4 := by rw [h]
  rw [List.take_left' (be32_len _), List.take_left' (be32_len _)] at h2
  exact be32_inj (by unfold sumS; omega) (by unfold sumS; omega) h2
/-- One byte that is turned into another one is seen. -/
theorem dec_wrong (k c : Nat) (d : Bool) (data : List Nat) (hb : ∀ x ∈ data, x < 256) (hk : k < 18446744073709551616) (hc : c < 4294967296) (hl : data.length ≤ 65536) (hd : ¬ (d = true ∧ 0 < data.length)) (i y : Nat) (hi : i < (needleL k c d data).length) (hy : y < 256) (hy0 : y ≠ 0) :
    (ndDec ((needleL k c d data).set i ((needleL k c d data).getD i 0 ^^^ y))).2.2 = 3 ∨ (ndDec ((needleL k c d data).set i ((needleL k c d data).getD i 0 ^^^ y))).2.2 = 4 := by
  have hlen := needleL_len k c d data hl
  have hg := ndSize_ge _ hl
  have e0 : needleL k c d data = head24 k c d data.length ++ (data ++ ndTail data) := by unfold needleL; simp
  by_cases h24 : i < 24
  · left
    have eb : (needleL k c d data).set i ((needleL k c d data).getD i 0 ^^^ y) = (head24 k c d data.length).set i ((head24 k c d data.length).getD i 0 ^^^ y) ++ (data ++ ndTail data) := by
      rw [e0, List.set_append, if_pos (by rw [head24_len]; exact h24)]
      congr 2
      congr 1
      simp [List.getElem?_append, head24_len, h24]
    obtain ⟨b, hbe⟩ : ∃ b, b = (needleL k c d data).set i ((needleL k c d data).getD i 0 ^^^ y) := ⟨_, rfl⟩
    have hbl : b.length = ndSize data.length := by rw [hbe, List.length_set, hlen]
    rw [← hbe] at eb ⊢
    have ht : b.take 24 = (head24 k c d data.length).set i ((head24 k c d data.length).getD i 0 ^^^ y) := by rw [eb, List.take_left' (by rw [List.length_set, head24_len])]
    have hno : ¬ HeadOk b := by
      rintro ⟨_, _, h⟩
      rw [ht] at h
      obtain ⟨H, hH⟩ : ∃ H, H = head20 k c d data.length := ⟨_, rfl⟩
      have hH20 : H.length = 20 := by rw [hH]; exact head20_len _ _ _ _
      have hH24 : head24 k c d data.length = H ++ be32 (sumS H) := by rw [hH]; rfl
      have hHb : ∀ x ∈ H, x < 256 := by rw [hH]; exact head20_byte _ _ _ _
      obtain ⟨G, hG⟩ : ∃ G, G = head20 (hKey b) (hCook b) (hDead b) (hLen b) := ⟨_, rfl⟩
      have hG20 : G.length = 20 := by rw [hG]; exact head20_len _ _ _ _
      have hG24 : head24 (hKey b) (hCook b) (hDead b) (hLen b) = G ++ be32 (sumS G) := by rw [hG]; rfl
      rw [hH24, hG24] at h
      by_cases h20 : i < 20
      · rw [List.set_append, if_pos (by omega)] at h
        have hx : (H ++ be32 (sumS H)).getD i 0 = H.getD i 0 := by simp [List.getElem?_append, hH20, h20]
        rw [hx] at h
        have h1 := List.append_inj h (by rw [List.length_set]; omega)
        have h2 := be32_inj (by unfold sumS; omega) (by unfold sumS; omega) h1.2
        rw [← h1.1] at h2
        exact sum_wrong hHb i y (by omega) hy hy0 h2.symm
      · rw [List.set_append, if_neg (by omega)] at h
        have h1 := List.append_inj h (by omega)
        have h2 := h1.2
        rw [← h1.1] at h2
        have hx : (H ++ be32 (sumS H)).getD i 0 = (be32 (sumS H)).getD (i - 20) 0 := by
          simp [List.getElem?_append, hH20, h20]
        rw [hx, hH20] at h2
        exact set_xor_ne (by rw [be32_len]; omega) hy0 h2
    unfold ndDec
    rw [if_neg (by omega), if_pos hno]
  · right
    have eb : (needleL k c d data).set i ((needleL k c d data).getD i 0 ^^^ y) = head24 k c d data.length ++ (data ++ ndTail data).set (i - 24) ((data ++ ndTail data).getD (i - 24) 0 ^^^ y) := by
      rw [e0, List.set_append, if_neg (by rw [head24_len]; exact h24), head24_len]
      congr 3
      simp [List.getElem?_append, head24_len, h24]
    obtain ⟨R, hR⟩ : ∃ R, R = (data ++ ndTail data).set (i - 24) ((data ++ ndTail data).getD (i - 24) 0 ^^^ y) := ⟨_, rfl⟩
    have hRl : R.length = ndSize data.length - 24 := by rw [hR, List.length_set, List.length_append, ndTail_len _ hl]; omega
    rw [← hR] at eb
    rw [eb]
    have hok := headOk_head k c d data.length hk hc hl hd R
    have e1 := hLen_head k c d data.length (by omega) R
    have hno : (R.drop data.length).take (ndSize data.length - 24 - data.length) ≠ ndTail (R.take data.length) := by
      rw [List.take_of_length_le (by rw [List.length_drop]; omega)]
      intro h
      rw [hR] at h
      by_cases hin : i - 24 < data.length
      · rw [List.set_append, if_pos hin] at h
        have hx : (data ++ ndTail data).getD (i - 24) 0 = data.getD (i - 24) 0 := by simp [List.getElem?_append, hin]
        rw [hx, List.drop_left' (by rw [List.length_set]), List.take_left' (by rw [List.length_set])] at h
        exact sum_wrong hb (i - 24) y hin hy hy0 (ndTail_inj h).symm
      · rw [List.set_append, if_neg hin, List.drop_left, List.take_left] at h
        have hx : (data ++ ndTail data).getD (i - 24) 0 = (ndTail data).getD (i - 24 - data.length) 0 := by simp [List.getElem?_append, hin]
        rw [hx] at h
        exact set_xor_ne (by rw [ndTail_len _ hl]; omega) hy0 h
    have d1 : (head24 k c d data.length ++ R).drop 24 = R := List.drop_left' (head24_len _ _ _ _)
    have d2 : (head24 k c d data.length ++ R).drop (24 + data.length) = R.drop data.length := by rw [← List.drop_drop, d1]
    unfold ndDec
    rw [if_neg (by rw [List.length_append, head24_len]; omega), if_neg (by simpa using hok), e1, if_neg (by rw [List.length_append, head24_len]; omega), d1, d2, if_pos hno]

/-! ### the document's way of asking for the head -/
theorem head_ref {b : List Nat} (h : 24 ≤ b.length) (hb : ∀ x ∈ b, x < 256) :
    (b.take 24 = head24 (hKey b) (hCook b) (hDead b) (hLen b)) ↔ (b.getD 0 0 = 110 ∧ b.getD 1 0 = 100 ∧ b.getD 2 0 ≤ 1 ∧ b.getD 3 0 = 0 ∧ val32 (b.drop 20) = sumS (b.take 20)) := by
  have hbd : ∀ k, ∀ x ∈ b.drop k, x < 256 := fun k x hx => hb x (List.mem_of_mem_drop hx)
  have k1 : be64 (hKey b) = (b.drop 4).take 8 := be64_back (by rw [List.length_drop]; omega) (hbd 4)
  have k2 : be32 (hCook b) = (b.drop 12).take 4 := be32_back (by rw [List.length_drop]; omega) (hbd 12)
  have k3 : be32 (hLen b) = (b.drop 16).take 4 := be32_back (by rw [List.length_drop]; omega) (hbd 16)
  have k4 : be32 (val32 (b.drop 20)) = (b.drop 20).take 4 := be32_back (by rw [List.length_drop]; omega) (hbd 20)
  have t20 : b.take 20 = b.take 4 ++ (b.drop 4).take 8 ++ (b.drop 12).take 4 ++ (b.drop 16).take 4 := by
    have a1 : b.take (4 + 8) = b.take 4 ++ (b.drop 4).take 8 := List.take_add
    have a2 : b.take (12 + 4) = b.take 12 ++ (b.drop 12).take 4 := List.take_add
    have a3 : b.take (16 + 4) = b.take 16 ++ (b.drop 16).take 4 := List.take_add
    rw [a3, a2, a1]
  have t24 : b.take 24 = b.take 20 ++ (b.drop 20).take 4 := List.take_add (i := 20) (j := 4)
  have t4 : b.take 4 = [b.getD 0 0, b.getD 1 0, b.getD 2 0, b.getD 3 0] := by
    obtain ⟨x0, x1, x2, x3, r, rfl⟩ := four (xs := b) (by omega)
    rfl
  have hH : head20 (hKey b) (hCook b) (hDead b) (hLen b) = [110, 100, dbit (hDead b), 0] ++ (b.drop 4).take 8 ++ (b.drop 12).take 4 ++ (b.drop 16).take 4 := by
    unfold head20; rw [k1, k2, k3]
  unfold head24
  constructor
  · intro e
    rw [t24] at e
    have h1 := List.append_inj e (by rw [head20_len, List.length_take]; omega)
    have h2 := h1.1
    rw [hH, t20] at h2
    have h3 := (List.append_inj h2 (by simp only [List.length_append, List.length_take, List.length_drop, List.length_cons, List.length_nil]; omega)).1
    have h4 := (List.append_inj h3 (by simp only [List.length_append, List.length_take, List.length_drop, List.length_cons, List.length_nil]; omega)).1
    have h5 := (List.append_inj h4 (by simp only [List.length_take, List.length_cons, List.length_nil]; omega)).1
    rw [t4] at h5
    simp only [List.cons.injEq] at h5
    obtain ⟨g0, g1, g2, g3, _⟩ := h5
    refine ⟨g0, g1, by rw [g2]; exact dbit_le _, g3, ?_⟩
    have h6 := h1.2
    rw [← h1.1, ← k4] at h6
    exact be32_inj (val32_lt' (hbd 20)) (by unfold sumS; omega) h6
  · rintro ⟨g0, g1, g2, g3, gs⟩
    have gd : dbit (hDead b) = b.getD 2 0 := by
      unfold hDead dbit
      by_cases h2 : b.getD 2 0 = 1
      · rw [h2]; rfl
      · have h0 : b.getD 2 0 = 0 := by omega
        rw [h0]; rfl
    have hH2 : head20 (hKey b) (hCook b) (hDead b) (hLen b) = b.take 20 := by
      rw [hH, t20, t4, gd, g0, g1, g3]
    rw [hH2, t24, ← gs, k4]
end Go.Proofs.Ytehgjkckhjggbaa
namespace Go.Proofs.Ytehgjkckhjggbaa
open Go.RowKit
theorem below_alloc (w : World) (o : Obj) : Below w.heap.size w (w.alloc o) := (Below.refl _ _).alloc (Nat.le_refl _) _
/-- A block of the call's own that holds these cells. -/
def Blk (w : World) (B : Nat) (e : TypeId) (g : Nat) (cs : List Value) : Prop := B ≤ g ∧ ∃ cur : Array Value, w.heap[g]? = some (.cells cur e (0, 0)) ∧ cur.toList = cs
theorem heap_lt {w : World} {g : Nat} {o : Obj} (h : w.heap[g]? = some o) : g < w.heap.size := (Array.getElem?_eq_some_iff.1 h).1
theorem Blk.lt {w : World} {B : Nat} {e : TypeId} {g : Nat} {cs : List Value} (h : Blk w B e g cs) : g < w.heap.size := by
  obtain ⟨_, cur, hg, _⟩ := h
  exact heap_lt hg
theorem Blk.cell {w : World} {B : Nat} {e : TypeId} {g : Nat} {cs : List Value} (h : Blk w B e g cs) (i : Nat) : w.cell? ⟨g, i, none⟩ = cs[i]? := by
  obtain ⟨_, cur, hg, rfl⟩ := h
  rw [cell_of_row w g i cur e (0, 0) hg]
  simp
theorem Blk.frozen {w : World} {B : Nat} {e : TypeId} {g : Nat} {cs : List Value} (h : Blk w B e g cs) (i : Nat) : w.frozen? ⟨g, i, none⟩ = false := by
  obtain ⟨_, cur, hg, rfl⟩ := h
  exact frozen_of_row w g i cur e hg
theorem Blk.stored {w : World} {B : Nat} {e : TypeId} {g : Nat} {cs : List Value} (h : Blk w B e g cs) (i : Nat) (u : Value) : Blk (w.setCell ⟨g, i, none⟩ u) B e g (cs.set i u) := by
  obtain ⟨hb, cur, hg, rfl⟩ := h
  exact ⟨hb, _, heap_setCell_same w g i cur e u hg, Array.toList_setIfInBounds ..⟩
theorem grown_set (w : World) (g i : Nat) (u : Value) : w.grownBy (w.setCell ⟨g, i, none⟩ u) (some g) :=
  ⟨rfl, rfl, rfl, by simp, fun k _ hk => heap_setCell_other w ⟨g, i, none⟩ k u (fun e => hk (by simp [e]))⟩
theorem Blk.new (w : World) {B : Nat} (e : TypeId) (cs : Array Value) (hB : B ≤ w.heap.size) : Blk (w.alloc (.cells cs e)) B e w.heap.size cs.toList := ⟨hB, cs, heap_alloc_new w _, rfl⟩
theorem Blk.kept {w w' : World} {B : Nat} {e : TypeId} {g : Nat} {cs : List Value} {row : Option Nat} (h : Blk w B e g cs) (hg : w.grownBy w' row) (hne : row ≠ some g) : Blk w' B e g cs := by
  have hl := h.lt
  obtain ⟨hb, cur, hh, rfl⟩ := h
  exact ⟨hb, cur, by rw [hg.block g hl (fun e => hne e.symm)]; exact hh, rfl⟩
theorem Blk.keep {w w' : World} {B : Nat} {e : TypeId} {g : Nat} {cs : List Value} (h : Blk w B e g cs) (hb : Below w.heap.size w w') : Blk w' B e g cs := by
  have hl := h.lt
  obtain ⟨hB, cur, hh, rfl⟩ := h
  exact ⟨hB, cur, by rw [hb.block g hl]; exact hh, rfl⟩
theorem Blk.more {w : World} {B B' : Nat} {e : TypeId} {g : Nat} {cs : List Value} (h : Blk w B e g cs) (hB : B' ≤ B) : Blk w B' e g cs := ⟨Nat.le_trans hB h.1, h.2⟩
theorem Blk.drewN {w : World} {B : Nat} {e : TypeId} {g : Nat} {cs : List Value} (h : Blk w B e g cs) (n : Nat) : Blk (w.drewN n) B e g cs := h
/-- Blocks of unlike types lie apart. -/
theorem Blk.ne {w : World} {B B' : Nat} {e e' : TypeId} {g g' : Nat} {cs cs' : List Value} (h : Blk w B e g cs) (h' : Blk w B' e' g' cs') (hne : e ≠ e') : g ≠ g' := by
  obtain ⟨_, cur, hh, _⟩ := h
  obtain ⟨_, cur', hh', _⟩ := h'
  rintro rfl
  rw [hh] at hh'
  simp only [Option.some.injEq, Obj.cells.injEq] at hh'
  exact hne hh'.2.1
end Go.Proofs.Ytehgjkckhjggbaa
namespace Go.Proofs.Ytehgjkckhjggbaa
open Go.RowKit
/-- Nothing but what lies in S, and new blocks, has been turned. -/
structure Turn (S : Nat → Prop) (w w' : World) : Prop where
  os : w'.os = w.os
  tape : w'.tape = w.tape
  output : w'.output = w.output
  size : w.heap.size ≤ w'.heap.size
  block : ∀ k, k < w.heap.size → ¬ S k → w'.heap[k]? = w.heap[k]?
/-- .. and what belongs to the thing is what did, or is new. -/
structure Next (F : Nat → Prop) (w : World) (F' : Nat → Prop) (w' : World) : Prop where
  turn : Turn F w w'
  foot : ∀ k, F' k → F k ∨ w.heap.size ≤ k
theorem Turn.refl (S : Nat → Prop) (w : World) : Turn S w w := ⟨rfl, rfl, rfl, Nat.le_refl _, fun _ _ _ => rfl⟩
theorem Turn.then {S S' : Nat → Prop} {a b c : World} (h : Turn S a b) (k : Turn S' b c) (hs : ∀ i, S' i → S i ∨ a.heap.size ≤ i) : Turn S a c :=
  ⟨k.os.trans h.os, k.tape.trans h.tape, k.output.trans h.output, Nat.le_trans h.size k.size, fun i hi hn => by
    rw [k.block i (Nat.lt_of_lt_of_le hi h.size) (fun e => (hs i e).elim hn (fun q => by omega))]
    exact h.block i hi hn⟩
theorem Turn.trans {S : Nat → Prop} {a b c : World} (h : Turn S a b) (k : Turn S b c) : Turn S a c := h.then k fun _ => .inl
theorem Turn.mono {S S' : Nat → Prop} {a b : World} (h : Turn S a b) (hs : ∀ i, S i → S' i) : Turn S' a b := ⟨h.os, h.tape, h.output, h.size, fun i hi hn => h.block i hi (fun e => hn (hs i e))⟩
theorem Turn.of_below {w w' : World} (S : Nat → Prop) (h : Below w.heap.size w w') : Turn S w w' := ⟨h.os, h.tape, h.output, h.size, fun k hk _ => h.block k hk⟩
theorem Turn.of_grown {w w' : World} {row : Option Nat} (h : w.grownBy w' row) : Turn (fun k => some k = row) w w' := ⟨h.os, h.tape, h.output, h.size, fun k hk hn => h.block k hk hn⟩
theorem Turn.below {S : Nat → Prop} {w w' : World} {B : Nat} (h : Turn S w w') (hB : B ≤ w.heap.size) (hs : ∀ k, S k → B ≤ k) : Below B w w' :=
  ⟨h.os, h.tape, h.output, h.size, fun k hk => h.block k (by omega) (fun e => by have := hs k e; omega)⟩
theorem Turn.drewN {S : Nat → Prop} {w w' : World} (h : Turn S w w') (n : Nat) : Turn S w (w'.drewN n) := ⟨h.os, h.tape, h.output, h.size, h.block⟩
theorem Next.refl (F : Nat → Prop) (w : World) : Next F w F w := ⟨Turn.refl _ _, fun _ => .inl⟩
theorem Next.of_below {w w' : World} (F : Nat → Prop) (h : Below w.heap.size w w') : Next F w F w' := ⟨Turn.of_below _ h, fun _ => .inl⟩
theorem Next.trans {F F' F'' : Nat → Prop} {a b c : World} (h : Next F a F' b) (k : Next F' b F'' c) : Next F a F'' c :=
  ⟨h.turn.then k.turn h.foot, fun i hi => by
    rcases k.foot i hi with h1 | h1
    · exact h.foot i h1
    · exact .inr (Nat.le_trans h.turn.size h1)⟩
theorem Next.drewN {F F' : Nat → Prop} {w w' : World} (h : Next F w F' w') (n : Nat) : Next F w F' (w'.drewN n) := ⟨h.turn.drewN n, h.foot⟩
theorem Next.below {F F' : Nat → Prop} {w w' : World} {B : Nat} (h : Next F w F' w') (hB : B ≤ w.heap.size) (hs : ∀ k, F k → B ≤ k) : Below B w w' := h.turn.below hB hs
theorem Next.up {F F' : Nat → Prop} {w w' : World} {B : Nat} (h : Next F w F' w') (hB : B ≤ w.heap.size) (hs : ∀ k, F k → B ≤ k) : ∀ k, F' k → B ≤ k := fun k hk => by
  rcases h.foot k hk with h1 | h1
  · exact hs k h1
  · omega
/-- A slice lies outside of what may be turned. -/
def Off (S : Nat → Prop) (v : Value) : Prop := ∀ g, v.ownBlock = some g → ¬ S g
theorem Off.nil (S : Nat → Prop) : Off S (.slice none 0 0) := fun _ h => by simp [Value.ownBlock] at h
theorem IsB.turn {S : Nat → Prop} {w w' : World} {v : Value} {xs : List Nat} (h : IsB w v xs) (t : Turn S w w') (ho : Off S v) : IsB w' v xs := by
  obtain ⟨A, c, rfl, hr, hn⟩ := h
  refine ⟨A, c, rfl, fun hne => ?_, hn⟩
  obtain ⟨b, off, rfl, hc⟩ := hr hne
  refine ⟨b, off, rfl, fun i hi => ?_⟩
  have h1 := hc i hi
  have hb := t.block b (cell_lt h1) (ho b rfl)
  rw [← h1]
  exact World.cell?_of_block hb
theorem Own.turn {S : Nat → Prop} {w w' : World} {B : Nat} {v : Value} {xs : List Nat} (h : Own w B v xs) (t : Turn S w w') (ho : Off S v) : Own w' B v xs := by
  unfold Own at h ⊢
  refine ⟨h.1, ?_⟩
  rcases h.2 with hn | ⟨g, cap, cur, hv, h1, h2, r⟩
  · exact .inl hn
  · refine .inr ⟨g, cap, cur, hv, h1, ?_, r⟩
    rw [t.block g (heap_lt h2) (ho g (by rw [hv]; rfl))]
    exact h2
theorem Own.lt {w : World} {B : Nat} {v : Value} {xs : List Nat} (h : Own w B v xs) : ∀ g, v.ownBlock = some g → B ≤ g ∧ g < w.heap.size := World.ownsRow.lt h
theorem Blk.turn {S : Nat → Prop} {w w' : World} {B : Nat} {e : TypeId} {g : Nat} {cs : List Value} (h : Blk w B e g cs) (t : Turn S w w') (ho : ¬ S g) : Blk w' B e g cs := by
  have hl := h.lt
  obtain ⟨hB, cur, hh, rfl⟩ := h
  exact ⟨hB, cur, by rw [t.block g hl ho]; exact hh, rfl⟩
/-- What was made behind a thing lies outside of it. -/
theorem off_new {F : Nat → Prop} {w : World} {v : Value} {xs : List Nat} {w1 : World} (h : Own w1 w.heap.size v xs) (hF : ∀ k, F k → k < w.heap.size) : Off F v := fun g hg hf => by
  have h1 := (h.lt g hg).1
  have h2 := hF g hf
  omega
theorem off_old {F : Nat → Prop} {B : Nat} {v : Value} (hF : ∀ k, F k → B ≤ k) (hv : ∀ g, v.ownBlock = some g → g < B) : Off F v := fun g hg hf => by
  have h1 := hv g hg
  have h2 := hF g hf
  omega
end Go.Proofs.Ytehgjkckhjggbaa
namespace Go.Proofs.Ytehgjkckhjggbaa
open Go.RowKit
set_option maxHeartbeats 400000 in
theorem clone_any (A : Option Addr) (n c : Nat) (xs : List Nat) (w : World) (hA : IsB w (.slice A n c) xs) (hn : xs.length = n) (h3 : n ≤ 1099511627776) :
    Calls Try.prog 78 #[.slice A n c] w fun e w' => ∃ s, e = .returned s ∧ Own w' w.heap.size s xs ∧ Below w.heap.size w w' := by
  have HA := hide hA
  have HN := hide hn
  have q22 : ∀ (w : World) (a : Option Addr) (n c n' c' : Nat), (binOp .eql 23 (.slice a n c) (.slice none n' c')).run Try.prog w = .ok (.bool a.isNone) w := fun w a n c n' c' => Lib.run_eql_slice_nil w _ _ a n c n' c' Try.underlying23
  rcases A with _ | a
  · have e0 : xs = [] := by
      rcases xs with _ | ⟨y, ys⟩
      · rfl
      · obtain ⟨_, _, e, _⟩ := hA.rd (by simp)
        cases e
    subst e0
    have h0 : n = 0 := by simpa using hn.symm
    subst h0
    clear hA hn
    go_enter Try.func78, Try.ntmps78
    go_wp2_with fail
    go_ret
    exact ⟨_, rfl, World.ownsRow_nil _ _ _ _, Below.refl _ _⟩
  · clear hA hn
    have nb : Below w.heap.size w (w.alloc (.cells #[] 5)) := (Below.refl _ _).alloc (Nat.le_refl _) _
    go_enter Try.func78, Try.ntmps78
    go_wp2_with (at_builtin; refine halt ?_)
    refine ⟨?_⟩
    refine wpList_append_bytes rfl (.tmp 5) (.tmp 6) rfl w.heap.size _ [] rfl (own_lit w #[] [] rfl (by decide)) _ xs rfl (HA.out.keep nb) (by rw [HN.out, List.length_nil]; omega) nb.size ?_
    intro s1 w1 o1 k1
    rw [List.nil_append] at o1
    have O1 := hide o1
    have K1 := hide (nb.trans k1)
    clear nb o1 k1
    go_wp2_with fail
    go_ret
    exact ⟨_, rfl, O1.out, K1.out⟩
end Go.Proofs.Ytehgjkckhjggbaa
namespace Go.Proofs.Ytehgjkckhjggbaa
open Go.RowKit
/-- A cell that is none of a disk's stands behind a call of it. -/
theorem Next.far {F F' : Nat → Prop} {w w' : World} (n : Next F w F' w') {b i : Nat} (hb : b < w.heap.size) (hn : ¬ F b) : w'.cell? ⟨b, i, none⟩ = w.cell? ⟨b, i, none⟩ := by
  have := n.turn.block b hb hn
  unfold World.cell?
  simp only [this]
theorem below_drew (w : World) : Below w.heap.size w w.drew := ⟨rfl, rfl, rfl, Nat.le_refl _, fun _ _ => rfl⟩
end Go.Proofs.Ytehgjkckhjggbaa
namespace Go.Proofs.Ytehgjkckhjggbaa
open Go.RowKit
theorem wpList_append_at {w : World} {ops : Array Oper} {rest : List Oper} {o : Oper} {a : Act} {Q : Exit → Act → World → Prop} (hgd : o.guard = none) (s x : Operand)
    (ho : o.op = .call { callee := .builtin .append, args := #[s, x], argTypes := #[23, 23] })
    (B : Nat) (v : Value) (xs : List Nat) (hs : a.eval s = v) (hown : Own w B v xs)
    (u : Value) (ys : List Nat) (hx : a.eval x = u) (hr : IsB w u ys)
    (hlen : xs.length + ys.length ≤ 140737488355328) (hbase : B ≤ w.heap.size)
    (h : ∀ v' w', Own w' B v' (xs ++ ys) → w.grownBy w' v.ownBlock → (v'.ownBlock = v.ownBlock ∨ v'.ownBlock = some w.heap.size) → wpList Try.prog ops Q rest (a.put o.dst v') w') : wpList Try.prog ops Q (o :: rest) a w := by
  obtain ⟨i0, hi, hz0, hz1, hz2⟩ := info_parts Try.info_u8'
  obtain ⟨A, c, rfl, hr, hn, _⟩ := hr
  have fin : ∀ v' w', w'.ownsRow B 5 1 v' (xs.length + ys.length) ((xs.map fun x : Nat => Value.int .u8 (x : Int)) ++ (ys.map fun x : Nat => Value.int .u8 (x : Int))) → w.grownBy w' v.ownBlock → (v'.ownBlock = v.ownBlock ∨ v'.ownBlock = some w.heap.size) → wpList Try.prog ops Q rest (a.put o.dst v') w' := by
    intro v' w' hown' hg hl
    exact h v' w' (by unfold Own; simpa using hown') hg hl
  rcases A with _ | ad
  · have h0 := hn rfl
    subst h0
    have hys : ys = [] := by
      rcases ys with _ | ⟨y, ys⟩
      · rfl
      · obtain ⟨_, _, e, _⟩ := hr (by simp)
        cases e
    subst hys
    exact wpList_append_own_none hgd s x _ ho B 5 i0 1 Try.underlying23 hi v _ _ hs hown hx (fin v w (by simpa [Own] using hown) (World.grownBy.refl w _) (.inl rfl))
  · refine wpList_append_own_at w hgd s x _ ho B 5 i0 (.int .u8 0) 1 1 Try.underlying23 hi hz0 hz1 hz2 rfl (by decide) v _ _ hs hown ad ys.length c (ys.map fun x : Nat => Value.int .u8 (x : Int)) hx (by simp) ?_ ?_ (by unfold maxLen; omega) (by omega) hbase (fun v' w' h1 h2 _ h4 => fin v' w' h1 h2 h4)
    · intro j u hu
      have hj : j < ys.length := by
        rcases Nat.lt_or_ge j ys.length with h | h
        · exact h
        · simp [h] at hu
      obtain ⟨b, off, e, hc⟩ := hr (by intro e; rw [e] at hj; simp at hj)
      cases e
      have := hc j hj
      simp [hj] at hu
      subst hu
      simpa [add_off, hj] using this
    · intro u hu
      simp at hu
      obtain ⟨y, _, rfl⟩ := hu
      rfl
end Go.Proofs.Ytehgjkckhjggbaa
namespace Go.Proofs.Ytehgjkckhjggbaa
open Go.RowKit
set_option maxHeartbeats 400000 in
theorem ndsize_any (z : Int) (w : World) (h0 : -9223372036854775808 ≤ z) (h1 : z ≤ 9223372036854775807) :
    Calls Try.prog 115 #[.int .i64 z] w fun e w' => e = .returned (.int .i64 (ndSize z.toNat : Nat)) ∧ w = w' := by
  by_cases hn : z < 0
  · have e : ndSize z.toNat = 32 := by unfold ndSize; omega
    rw [e]
    clear e
    go_enter Try.func115, Try.ntmps115
    go_wp2
    go_ret
    exact ⟨rfl, rfl⟩
  · by_cases hb : 65536 < z
    · have e : ndSize z.toNat = 65568 := by unfold ndSize; omega
      rw [e]
      clear e
      go_enter Try.func115, Try.ntmps115
      go_wp2
      go_ret
      exact ⟨rfl, rfl⟩
    · obtain ⟨n, rfl⟩ : ∃ n : Nat, z = (n : Int) := ⟨z.toNat, by omega⟩
      have e : ((ndSize (n : Int).toNat : Nat) : Int) = (24 + (n : Int) + 4 + 8 - 1) / 8 * 8 := by unfold ndSize; omega
      rw [e]
      clear e
      go_enter Try.func115, Try.ntmps115
      go_wp2
      go_ret
      exact ⟨rfl, rfl⟩
end Go.Proofs.Ytehgjkckhjggbaa
namespace Go.Proofs.Ytehgjkckhjggbaa
open Go.RowKit
theorem isB_drop {w : World} {b off n c : Nat} {xs : List Nat} (h : IsB w (.slice (some ⟨b, off, none⟩) n c) xs) (k m d : Nat) (hm : m = n - k) (hd : d = c - k) (hk : k ≤ n) : IsB w (.slice (some ⟨b, off + k, none⟩) m d) (xs.drop k) := by
  subst hm; subst hd
  obtain ⟨A', c', e, r, h1, h2, h3⟩ := h
  cases e
  refine ⟨_, _, by rw [List.length_drop], ?_, (fun h => by cases h), by rw [List.length_drop]; omega, by omega⟩
  intro hne
  have hl : 0 < (xs.drop k).length := by
    rcases e : xs.drop k with _ | ⟨y, ys⟩
    · exact absurd e hne
    · simp
  obtain ⟨b', off', e, hc⟩ := r (by intro e; rw [e] at hl; simp at hl)
  cases e
  refine ⟨b, off + k, rfl, fun i hi => ?_⟩
  rw [List.length_drop] at hi
  have := hc (k + i) (by omega)
  rw [Nat.add_assoc, this]
  congr 2
  simp
/-- What is left of a slice behind k bytes, wherever the walk lays it. -/
theorem isB_tail {w : World} {b off n c : Nat} {xs : List Nat} (h : IsB w (.slice (some ⟨b, off, none⟩) n c) xs) (k : Nat) (hk : k ≤ n) : IsB w (.slice (some ⟨b, if c = k then off else off + k, none⟩) (n - k) (c - k)) (xs.drop k) := by
  by_cases hc : c = k
  · obtain ⟨A', c', e, r, h1, h2, h3⟩ := h
    cases e
    have h0 : xs.drop k = [] := List.eq_nil_of_length_eq_zero (by rw [List.length_drop]; omega)
    rw [if_pos hc, h0]
    have hn : xs.length - k = 0 := by omega
    rw [hn]
    exact ⟨_, _, rfl, fun h => absurd rfl h, (fun h => by cases h), Nat.zero_le _, by omega⟩
  · rw [if_neg hc]
    exact isB_drop h k _ _ rfl rfl hk
theorem isBs3 {w : World} {u v z : Value} {xs ys zs : List Nat} (h1 : IsB w u xs) (h2 : IsB w v ys) (h3 : IsB w z zs) : IsBs w [u, v, z] [xs, ys, zs] := by
  refine ⟨rfl, fun i hi => ?_⟩
  match i, hi with
  | 0, _ => exact h1
  | 1, _ => exact h2
  | 2, _ => exact h3
theorem isB_len {w : World} {A : Option Addr} {n c : Nat} {xs : List Nat} (h : IsB w (.slice A n c) xs) : xs.length = n ∧ n ≤ c ∧ c ≤ 9223372036854775807 := by
  obtain ⟨_, _, e, _, _, h2, h3⟩ := h
  cases e
  exact ⟨rfl, h2, h3⟩
theorem isB_at {w : World} {A : Option Addr} {n c : Nat} {xs : List Nat} (h : IsB w (.slice A n c) xs) (h1 : 1 ≤ n) : ∃ b off, A = some ⟨b, off, none⟩ := by
  have hl := (isB_len h).1
  obtain ⟨b, off, e, _⟩ := h.rd (by intro e; rw [e] at hl; simp at hl; omega)
  exact ⟨b, off, e⟩
theorem isB_nilw (w : World) : IsB w (.slice none 0 0) [] := ⟨none, 0, rfl, fun h => absurd rfl h, fun _ => rfl, Nat.zero_le _, by decide⟩
end Go.Proofs.Ytehgjkckhjggbaa
namespace Go.Proofs.Ytehgjkckhjggbaa
open Go.RowKit
/-- Are the bytes behind Data what Encode lays there? -/
def TailOk (b : List Nat) : Prop := (b.drop (24 + hLen b)).take (ndSize (hLen b) - 24 - hLen b) = ndTail ((b.drop 24).take (hLen b))
instance (b : List Nat) : Decidable (TailOk b) := by unfold TailOk; infer_instance
theorem ndDec_short {b : List Nat} (h : b.length < 24) : ndDec b = ((0, 0, false, []), 0, 2) := by unfold ndDec; rw [if_pos h]
theorem ndDec_form {b : List Nat} (h : 24 ≤ b.length) (hno : ¬ HeadOk b) : ndDec b = ((0, 0, false, []), 0, 3) := by unfold ndDec; rw [if_neg (by omega), if_pos hno]
theorem ndDec_short2 {b : List Nat} (h : 24 ≤ b.length) (hok : HeadOk b) (hs : b.length < ndSize (hLen b)) : ndDec b = ((0, 0, false, []), 0, 2) := by unfold ndDec; rw [if_neg (by omega), if_neg (fun h => h hok), if_pos hs]
theorem ndDec_sum {b : List Nat} (h : 24 ≤ b.length) (hok : HeadOk b) (hs : ndSize (hLen b) ≤ b.length) (ht : ¬ TailOk b) : ndDec b = ((hKey b, hCook b, hDead b, []), ndSize (hLen b), 4) := by unfold ndDec; rw [if_neg (by omega), if_neg (fun h => h hok), if_neg (by omega)]; exact if_pos (fun e => ht e)
theorem ndDec_ok {b : List Nat} (h : 24 ≤ b.length) (hok : HeadOk b) (hs : ndSize (hLen b) ≤ b.length) (ht : TailOk b) : ndDec b = ((hKey b, hCook b, hDead b, (b.drop 24).take (hLen b)), ndSize (hLen b), 0) := by unfold ndDec; rw [if_neg (by omega), if_neg (fun h => h hok), if_neg (by omega), if_neg (fun h => h ht)]
end Go.Proofs.Ytehgjkckhjggbaa
namespace Go.Proofs.Ytehgjkckhjggbaa
open Go.RowKit
/-- Bytes as a text. -/
def txt (xs : List Nat) : ByteArray := ⟨(xs.map UInt8.ofNat).toArray⟩
theorem txt_inj {xs ys : List Nat} (hx : ∀ x ∈ xs, x < 256) (hy : ∀ y ∈ ys, y < 256) (h : txt xs = txt ys) : xs = ys := by
  have h1 : xs.map UInt8.ofNat = ys.map UInt8.ofNat := by
    have := congrArg (fun s : ByteArray => s.data.toList) h
    simpa [txt] using this
  refine List.ext_getElem ?_ fun i a b => ?_
  · have := congrArg List.length h1
    simpa using this
  · have h2 := congrArg (fun l => (l[i]?).map UInt8.toNat) h1
    simp [a, b] at h2
    have h3 := hx xs[i] (List.getElem_mem a)
    have h4 := hy ys[i] (List.getElem_mem b)
    omega
theorem convert_txt (w : World) (A : Option Addr) (n c : Nat) (xs : List Nat) (hA : IsB w (.slice A n c) xs) (hb : ∀ x ∈ xs, x < 256) :
    (convert 23 9 (.slice A n c)).run Try.prog w = .ok (.string (txt xs)) w := by
  obtain ⟨hl, h1, h2⟩ := isB_len hA
  rcases A with _ | ad
  · obtain ⟨A', c', e, r, h0, _⟩ := hA
    cases e
    have hc := h0 rfl
    obtain rfl : xs = [] := List.eq_nil_of_length_eq_zero (by omega)
    have e0 : (convert 23 9 (.slice none 0 0)).run Try.prog w = .ok (.string (txt [])) w := by
      rw [run_convert_bytes_string w _ _ 5 none _ _ Try.underlying23 Try.underlying5 Try.underlying9]
      rfl
    rw [hc]
    exact e0
  · by_cases h0 : xs = []
    · subst h0
      have hn : n = 0 := by simpa using hl.symm
      subst hn
      have h := run_convert_bytes_back (P := Try.prog) w 23 9 5 ad c [] Try.underlying23 Try.underlying5 Try.underlying9 (fun j hj => by simp at hj)
      exact h
    · obtain ⟨g, off, e, hc⟩ := hA.rd h0
      cases e
      have h := run_convert_bytes_back (P := Try.prog) w 23 9 5 ⟨g, off, none⟩ c (xs.map UInt8.ofNat) Try.underlying23 Try.underlying5 Try.underlying9 (fun j hj => by
        have hj' : j < xs.length := by simpa using hj
        rw [add_off, hc j hj']
        have h3 := hb xs[j] (List.getElem_mem hj')
        simp [hj']
        omega)
      rw [List.length_map, hl] at h
      exact h
set_option maxHeartbeats 800000 in
theorem bytesEqual_any (A B : Option Addr) (n m ca cb : Nat) (xs ys : List Nat) (w : World) (hA : IsB w (.slice A n ca) xs) (hB : IsB w (.slice B m cb) ys) (hx : ∀ x ∈ xs, x < 256) (hy : ∀ y ∈ ys, y < 256) :
    Calls Try.prog 121 #[.slice A n ca, .slice B m cb] w fun e w' => e = .returned (.bool (decide (xs = ys))) ∧ w = w' := by
  have c1 := convert_txt w A n ca xs hA hx
  have c2 := convert_txt w B m cb ys hB hy
  have hq : ((txt xs).toList == (txt ys).toList) = decide (xs = ys) := by
    rw [Bool.eq_iff_iff, decide_eq_true_iff, beq_iff_eq, ByteArray.toList_eq, ByteArray.toList_eq]
    refine ⟨fun h => txt_inj hx hy ?_, fun h => by rw [h]⟩
    exact congrArg (fun l : List UInt8 => (⟨l.toArray⟩ : ByteArray)) h
  obtain ⟨u, hu⟩ : ∃ u, u = txt xs := ⟨_, rfl⟩
  obtain ⟨v, hv⟩ : ∃ v, v = txt ys := ⟨_, rfl⟩
  rw [← hu] at c1 hq
  rw [← hv] at c2 hq
  have HQ := hide hq
  clear hu hv hq hA hB hx hy
  go_enter Try.func121, Try.ntmps121
  go_wp2_with fail
  go_ret
  exact ⟨ret_bool HQ.out, rfl⟩
end Go.Proofs.Ytehgjkckhjggbaa
