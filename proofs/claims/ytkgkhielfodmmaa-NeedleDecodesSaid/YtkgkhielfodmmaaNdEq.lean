/- The contract of bytes.Equal: whether two rows of bytes are the same. Condition: bytes are below 256. -/
import Derived.Test.YtkgkhielfodmmaaNdB
import Derived.Laws.IdiomStrings
import Derived.Laws.BytesArg
import Derived.Laws.BytesString
namespace Go.Proofs.Ytkgkhielfodmmaa
open Go.RowKit
/-- Bytes as a text. -/
def txt (xs : List Nat) : ByteArray := ⟨(xs.map UInt8.ofNat).toArray⟩
theorem txt_inj {xs ys : List Nat} (hx : ∀ x ∈ xs, x < 256) (hy : ∀ y ∈ ys, y < 256) (h : txt xs = txt ys) : xs = ys := by
  have h1 : xs.map UInt8.ofNat = ys.map UInt8.ofNat := by
    have := congrArg (fun s : ByteArray => s.data.toList) h
    simpa [txt] using this
  refine List.ext_getElem ?_ fun i a b => ?_
  · have := congrArg List.length h1
    simpa using this
  · have h2 := congrArg (fun l => (l[i]?).map UInt8.toNat) h1
    simp [a, b] at h2
    have h3 := hx xs[i] (List.getElem_mem a)
    have h4 := hy ys[i] (List.getElem_mem b)
    omega
theorem convert_txt (w : World) (A : Option Addr) (n c : Nat) (xs : List Nat) (hA : IsB w (.slice A n c) xs) (hb : ∀ x ∈ xs, x < 256) :
    (convert 24 9 (.slice A n c)).run Try.prog w = .ok (.string (txt xs)) w := by
  obtain ⟨hl, h1, h2⟩ := isB_len hA
  rcases A with _ | ad
  · obtain ⟨A', c', e, r, h0, _⟩ := hA
    cases e
    have hc := h0 rfl
    obtain rfl : xs = [] := List.eq_nil_of_length_eq_zero (by omega)
    have e0 : (convert 24 9 (.slice none 0 0)).run Try.prog w = .ok (.string (txt [])) w := by
      rw [run_convert_bytes_string w _ _ 5 none _ _ Try.underlying24 Try.underlying5 Try.underlying9]
      rfl
    rw [hc]
    exact e0
  · by_cases h0 : xs = []
    · subst h0
      have hn : n = 0 := by simpa using hl.symm
      subst hn
      have h := run_convert_bytes_back (P := Try.prog) w 24 9 5 ad c [] Try.underlying24 Try.underlying5 Try.underlying9 (fun j hj => by simp at hj)
      exact h
    · obtain ⟨g, off, e, hc⟩ := hA.rd h0
      cases e
      have h := run_convert_bytes_back (P := Try.prog) w 24 9 5 ⟨g, off, none⟩ c (xs.map UInt8.ofNat) Try.underlying24 Try.underlying5 Try.underlying9 (fun j hj => by
        have hj' : j < xs.length := by simpa using hj
        rw [add_off, hc j hj']
        have h3 := hb xs[j] (List.getElem_mem hj')
        simp [hj']
        omega)
      rw [List.length_map, hl] at h
      exact h
set_option maxHeartbeats 800000 in
theorem bytesEqual_any (A B : Option Addr) (n m ca cb : Nat) (xs ys : List Nat) (w : World) (hA : IsB w (.slice A n ca) xs) (hB : IsB w (.slice B m cb) ys) (hx : ∀ x ∈ xs, x < 256) (hy : ∀ y ∈ ys, y < 256) :
    Calls Try.prog 27 #[.slice A n ca, .slice B m cb] w fun e w' => e = .returned (.bool (decide (xs = ys))) ∧ w = w' := by
  have c1 := convert_txt w A n ca xs hA hx
  have c2 := convert_txt w B m cb ys hB hy
  have hq : ((txt xs).toList == (txt ys).toList) = decide (xs = ys) := by
    rw [Bool.eq_iff_iff, decide_eq_true_iff, beq_iff_eq, ByteArray.toList_eq, ByteArray.toList_eq]
    refine ⟨fun h => txt_inj hx hy ?_, fun h => by rw [h]⟩
    exact congrArg (fun l : List UInt8 => (⟨l.toArray⟩ : ByteArray)) h
  obtain ⟨u, hu⟩ : ∃ u, u = txt xs := ⟨_, rfl⟩
  obtain ⟨v, hv⟩ : ∃ v, v = txt ys := ⟨_, rfl⟩
  rw [← hu] at c1 hq
  rw [← hv] at c2 hq
  have HQ := hide hq
  clear hu hv hq hA hB hx hy
  go_enter Try.func27, Try.ntmps27
  go_wp2_with fail
  go_ret
  exact ⟨ret_bool HQ.out, rfl⟩
end Go.Proofs.Ytkgkhielfodmmaa
