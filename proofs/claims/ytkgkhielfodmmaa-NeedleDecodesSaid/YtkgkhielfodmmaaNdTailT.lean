/- The test behind a needle's Data, byte for byte, without a program. -/
import Derived.Test.YtkgkhielfodmmaaNdDecL
namespace Go.Proofs.Ytkgkhielfodmmaa
open Go.RowKit
theorem tailOk_iff {b : List Nat} {ln m : Nat} (hl : hLen b = ln) (hle : ln ≤ 65536) (hm : m = ndSize ln) (hs : m ≤ b.length) (hb : ∀ x ∈ b, x < 256) :
    TailOk b ↔ (val32 (b.drop (24 + ln)) = sumS ((b.drop 24).take ln) ∧ ∀ x ∈ (b.drop (28 + ln)).take (m - (28 + ln)), x = 0) := by
  have hg := ndSize_ge ln hle
  rw [← hm] at hg
  have hd : ((b.drop 24).take ln).length = ln := by rw [List.length_take, List.length_drop]; omega
  have h1 : (b.drop (24 + ln)).take (4 + (m - (28 + ln))) = (b.drop (24 + ln)).take 4 ++ ((b.drop (24 + ln)).drop 4).take (m - (28 + ln)) := List.take_add
  rw [List.drop_drop, show 24 + ln + 4 = 28 + ln by omega] at h1
  have h2 : be32 (val32 (b.drop (24 + ln))) = (b.drop (24 + ln)).take 4 := be32_back (by rw [List.length_drop]; omega) (fun x hx => hb x (List.mem_of_mem_drop hx))
  have h3 : val32 (b.drop (24 + ln)) < 4294967296 := val32_lt' (fun x hx => hb x (List.mem_of_mem_drop hx))
  have h4 : sumS ((b.drop 24).take ln) < 4294967296 := by unfold sumS; omega
  have h5 : ((b.drop (28 + ln)).take (m - (28 + ln))).length = m - (28 + ln) := by rw [List.length_take, List.length_drop]; omega
  have l4 : ∀ x, (be32 x).length = 4 := fun x => rfl
  unfold TailOk ndTail
  rw [hl, hd, ← hm, show m - 24 - ln = 4 + (m - (28 + ln)) by omega, h1, ← h2, show m - 28 - ln = m - (28 + ln) by omega]
  constructor
  · intro e
    obtain ⟨a1, a2⟩ := List.append_inj e (by rw [l4, l4])
    refine ⟨be32_inj h3 h4 a1, fun x hx => ?_⟩
    rw [a2] at hx
    exact (List.mem_replicate.1 hx).2
  · rintro ⟨e1, e2⟩
    rw [e1]
    congr 1
    rw [List.eq_replicate_iff]
    exact ⟨h5, e2⟩
theorem tail_test {b : List Nat} {ln m p q : Nat} (hl : hLen b = ln) (hle : ln ≤ 65536) (hm : m = ndSize ln) (hs : m ≤ b.length) (hb : ∀ x ∈ b, x < 256) (hp : p = 24 + ln) (hq : q = 28 + ln) :
    ∃ bz : Nat → Bool, bz q = (((val32 (b.drop p) : Nat) : Int) != ((sumS ((b.drop 24).take ln) : Nat) : Int)) ∧ (∀ k, q ≤ k → k < m → bz (k + 1) = (bz k || (((b.getD k 0 : Nat) : Int) != 0))) ∧ bz m = !decide (TailOk b) := by
  have key := tailOk_iff hl hle hm hs hb
  have hg := ndSize_ge ln hle
  rw [← hm] at hg
  rw [← hp, ← hq] at key
  have cast : ∀ x y : Nat, ((x : Int) != (y : Int)) = (x != y) := fun x y => by
    rw [Bool.eq_iff_iff, bne_iff_ne, bne_iff_ne]
    omega
  have cast0 : ∀ x : Nat, ((x : Int) != 0) = (x != 0) := fun x => cast x 0
  refine ⟨fun k => (val32 (b.drop p) != sumS ((b.drop 24).take ln)) || ((b.drop q).take (k - q)).any (fun x => x != 0), ?_, ?_, ?_⟩
  · simp only [Nat.sub_self, List.take_zero, List.any_nil, Bool.or_false]
    exact (cast _ _).symm
  · intro k hk hkm
    simp only
    have hx : k - q < (b.drop q).length := by rw [List.length_drop]; omega
    have e1 : (b.drop q).take (k + 1 - q) = (b.drop q).take (k - q) ++ [b.getD k 0] := by
      rw [show k + 1 - q = (k - q) + 1 by omega, List.take_succ_eq_append_getElem hx]
      congr 2
      rw [List.getElem_drop]
      have : q + (k - q) = k := by omega
      simp [this, show k < b.length by omega]
    rw [e1, List.any_append, cast0]
    simp [Bool.or_assoc]
  · simp only
    by_cases hT : TailOk b
    · obtain ⟨e1, e2⟩ := key.1 hT
      have a1 : (val32 (b.drop p) != sumS ((b.drop 24).take ln)) = false := by rw [bne_eq_false_iff_eq]; exact e1
      have a2 : ((b.drop q).take (m - q)).any (fun x => x != 0) = false := by
        rw [List.any_eq_false]
        intro x hx
        rw [e2 x hx]
        decide
      rw [a1, a2, decide_eq_true hT]
      rfl
    · rw [decide_eq_false hT]
      by_cases e1 : val32 (b.drop p) = sumS ((b.drop 24).take ln)
      · have a2 : ((b.drop q).take (m - q)).any (fun x => x != 0) = true := by
          rw [List.any_eq_true]
          refine Classical.byContradiction fun h => hT (key.2 ⟨e1, fun x hx => Classical.byContradiction fun hx0 => h ⟨x, hx, ?_⟩⟩)
          rw [bne_iff_ne]
          exact hx0
        rw [a2, Bool.or_true]
        rfl
      · have a1 : (val32 (b.drop p) != sumS ((b.drop 24).take ln)) = true := by rw [bne_iff_ne]; exact e1
        rw [a1, Bool.true_or]
        rfl
theorem hDead_int (b : List Nat) : hDead b = (((b.getD 2 0 : Nat) : Int) == 1) := by
  unfold hDead
  rw [Bool.eq_iff_iff, beq_iff_eq, beq_iff_eq]
  omega
end Go.Proofs.Ytkgkhielfodmmaa
