/- The contract of strings.Cut at a comma: what stands ahead of the first one, and behind it. Condition: no more than 2 to the 40 bytes. -/
import Derived.Test.YtdchgjniepdhfaaFdL
import Derived.Test.YtdchgjniepdhfaaApp
import Derived.Lib.Bytealg
import Derived.Lib.Strings
import Derived.BigCall
import Derived.BigGuard
import Derived.Deep.Draws
import Derived.WalkSpells
import Derived.WalkLawsBesides
import Derived.Laws.Strings3
namespace Go.Proofs.Ytdchgjniepdhfaa
open Go.RowKit
/-- The string of these bytes. -/
def mkS (l : List UInt8) : ByteArray := ⟨l.toArray⟩
theorem mkS_data (l : List UInt8) : (mkS l).data.toList = l := rfl
theorem mkS_size (l : List UInt8) : (mkS l).size = l.length := rfl
theorem mkS_app (a b : List UInt8) : mkS a ++ mkS b = mkS (a ++ b) := by
  apply ByteArray.ext
  apply Array.ext'
  rw [ByteArray.data_append, Array.toList_append]
  rfl
theorem mkS_ext {s : ByteArray} {l : List UInt8} (h : s.data.toList = l) : s = mkS l := by
  apply ByteArray.ext
  apply Array.ext'
  rw [h]
  rfl
theorem mkS_inj {a b : List UInt8} : mkS a = mkS b ↔ a = b := ⟨fun h => by rw [← mkS_data a, h, mkS_data], fun h => by rw [h]⟩
theorem comma_at (l : List UInt8) : (Lib.indexByte l 44 = -1 ∧ cutA l = l ∧ cutZ l = []) ∨ (∃ i : Nat, Lib.indexByte l 44 = (i : Int) ∧ i < l.length ∧ cutA l = l.take i ∧ cutZ l = l.drop (i + 1)) := by
  induction l with
  | nil => exact .inl ⟨rfl, rfl, rfl⟩
  | cons x l ih =>
    by_cases hx : x = 44
    · subst hx
      refine .inr ⟨0, ?_, by simp, ?_, ?_⟩
      · simp [Lib.indexByte]
      · simp [cutA]
      · simp [cutZ]
    · have h1 : (x != 44) = true := by simpa using hx
      have h2 : (x == 44) = false := by simpa using hx
      have ea : cutA (x :: l) = x :: cutA l := by unfold cutA; rw [List.takeWhile_cons, h1]; rfl
      have ez : cutZ (x :: l) = cutZ l := by unfold cutZ; rw [List.dropWhile_cons, h1]; rfl
      have ei : Lib.indexByte (x :: l) 44 = if Lib.indexByte l 44 == -1 then -1 else Lib.indexByte l 44 + 1 := by
        rw [Lib.indexByte, h2]
        rfl
      rcases ih with ⟨i1, i2, i3⟩ | ⟨i, i1, i2, i3, i4⟩
      · exact .inl ⟨by rw [ei, i1]; rfl, by rw [ea, i2], by rw [ez, i3]⟩
      · refine .inr ⟨i + 1, ?_, by simp; omega, by rw [ea, i3]; rfl, by rw [ez, i4]; rfl⟩
        rw [ei, i1]
        have : (((i : Nat) : Int) == -1) = false := by rw [beq_eq_false_iff_ne]; omega
        rw [this]
        simp
set_option maxHeartbeats 1000000 in
theorem indexByte_at (s : ByteArray) (w : World) :
    Calls Try.prog 26 #[.string s, .int .u8 44] w fun e w' => e = .returned (.int .i64 (Lib.indexByte s.data.toList 44)) ∧ w' = w := by
  go_enter Try.func26, Try.ntmps26
  go_wp2
  rw [run_callFunc_extern Try.func30 (by kernel_rfl) (by kernel_rfl) (by kernel_rfl) (e := Extern.BytealgIndexByte.indexByte) (by kernel_rfl), Lib.run_indexByteString]
  simp only [Result.andThen]
  rw [Oper.upon_value]
  go_wp2
  go_ret
  exact ⟨rfl, rfl⟩
set_option maxHeartbeats 1000000 in
theorem index_at (s : ByteArray) (w : World) :
    Calls Try.prog 25 #[.string s, .string ⟨#[44]⟩] w fun e w' => e = .returned (.int .i64 (Lib.indexByte s.data.toList 44)) ∧ w' = w := by
  cases h : ([44] == s.toList)
  · have h1 : (⟨#[44]⟩ : ByteArray).toList = [44] := by rw [ByteArray.toList_eq]
    go_enter Try.func25, Try.ntmps25
    go_wp2_with fail
    refine (indexByte_at _ _).mono ?_
    rintro e w' ⟨rfl, rfl⟩
    go_wp2_with fail
    go_ret
    exact ⟨rfl, rfl⟩
  · have h1 : (⟨#[44]⟩ : ByteArray).toList = [44] := by rw [ByteArray.toList_eq]
    have H := hide h
    go_enter Try.func25, Try.ntmps25
    go_wp2_with fail
    go_ret
    refine ⟨?_, rfl⟩
    have e : s.data.toList = [44] := by rw [← Lib.toList_data]; exact (beq_iff_eq.1 H.out).symm
    rw [e]
    simp [Lib.indexByte]
set_option maxHeartbeats 2000000 in
theorem litecut_any (l : List UInt8) (w : World) (hs : l.length < 1099511627776) :
    Calls Try.prog 23 #[.string (mkS l), .string ⟨#[44]⟩] w fun e w' => (∃ t, e = .returned (.tuple #[.string (mkS (cutA l)), .string (mkS (cutZ l)), .bool t])) ∧ ∃ n, w' = w.drewN n := by
  have h0 : (mkS l).size < 1099511627776 := by rw [mkS_size]; exact hs
  rcases comma_at l with ⟨i1, i2, i3⟩ | ⟨i, i1, i2, i3, i4⟩
  · rw [i2, i3]
    obtain ⟨s, hS⟩ : ∃ s, s = mkS l := ⟨_, rfl⟩
    have hd : s.data.toList = l := by rw [hS]; rfl
    rw [← hS] at h0 ⊢
    rw [← hd] at i1
    have e : mkS [] = ⟨#[]⟩ := rfl
    rw [e]
    clear hS hd e
    go_enter Try.func23, Try.ntmps23
    go_wp2_with fail
    refine (index_at _ _).mono ?_
    rintro e w' ⟨rfl, rfl⟩
    rw [i1]
    go_wp2_with fail
    go_ret3
    exact ⟨⟨_, rfl⟩, 0, rfl⟩
  · rw [i3, i4]
    obtain ⟨s, hS⟩ : ∃ s, s = mkS l := ⟨_, rfl⟩
    have hd : s.data.toList = l := by rw [hS]; rfl
    have hn : l.length = s.size := by rw [hS]; rfl
    have h1 : mkS (l.take i) = s.extract 0 i := by
      apply ByteArray.ext
      apply Array.ext'
      rw [Lib.extract_data, hd]
      simp [mkS]
    have h2 : mkS (l.drop (i + 1)) = s.extract (i + 1) s.size := by
      apply ByteArray.ext
      apply Array.ext'
      rw [Lib.extract_data, hd, ← hn]
      simp [mkS, List.take_of_length_le]
    rw [← hS] at h0 ⊢
    rw [← hd] at i1
    rw [h1, h2]
    rw [hn] at i2
    clear h1 h2 hS hd hn i3 i4
    have c1 : (0 : Int) ≤ (i : Int) := by omega
    have c2 : (i : Int) ≤ (s.size : Int) := by omega
    have c3 : (0 : Int) ≤ (i : Int) + 1 := by omega
    have c4 : ((i : Int) + 1) ≤ (s.size : Int) := by omega
    have h44 : (⟨#[44]⟩ : ByteArray).size = 1 := rfl
    go_enter Try.func23, Try.ntmps23
    go_wp2_with fail
    refine (index_at _ _).mono ?_
    rintro e w' ⟨rfl, rfl⟩
    rw [i1]
    go_wp2_with fail
    go_region
    go_wp2_with fail
    go_ret3
    exact ⟨⟨_, rfl⟩, 1, rfl⟩
set_option maxHeartbeats 1000000 in
theorem cut_any (l : List UInt8) (w : World) (hs : l.length < 1099511627776) :
    Calls Try.prog 18 #[.string (mkS l), .string ⟨#[44]⟩] w fun e w' => (∃ t, e = .returned (.tuple #[.string (mkS (cutA l)), .string (mkS (cutZ l)), .bool t])) ∧ ∃ n, w' = w.drewN n := by
  go_enter Try.func18, Try.ntmps18
  go_wp2_with fail
  refine (litecut_any _ _ hs).mono ?_
  rintro e w' ⟨⟨t, rfl⟩, n, rfl⟩
  go_wp2_with fail
  go_ret3
  exact ⟨⟨_, rfl⟩, n, rfl⟩
end Go.Proofs.Ytdchgjniepdhfaa
