/- The contract of the document's own Decode of needles, all ways joined. Condition: fewer than 2 to the 39 bytes. -/
import Derived.Test.YtkgkhielfodmmaaRNdFA
import Derived.Test.YtkgkhielfodmmaaRNdFB
import Derived.Test.YtkgkhielfodmmaaRNdFC
import Derived.Test.YtkgkhielfodmmaaRNdFD
import Derived.Test.YtkgkhielfodmmaaRNdFE
import Derived.Test.YtkgkhielfodmmaaRNdFF
import Derived.Test.YtkgkhielfodmmaaRNdFG
import Derived.Test.YtkgkhielfodmmaaRNdFH
import Derived.Test.YtkgkhielfodmmaaRNdFI
namespace Go.Proofs.Ytkgkhielfodmmaa
open Go.RowKit
theorem headOk_of {b : List Nat} (h : 24 ≤ b.length) (hb : ∀ x ∈ b, x < 256) (h0 : (((b.getD 0 0 : Nat) : Int) != 110) = false) (h1 : (((b.getD 1 0 : Nat) : Int) != 100) = false) (h2 : decide ((1 : Int) < ((b.getD 2 0 : Nat) : Int)) = false) (h3 : (((b.getD 3 0 : Nat) : Int) != 0) = false)
    (h4 : (((val32 (b.drop 20) : Nat) : Int) != ((sumS (b.take 20) : Nat) : Int)) = false) (h5 : decide ((65536 : Int) < ((hLen b : Nat) : Int)) = false) (hg : (((b.getD 2 0 : Nat) : Int) == 1) = true ∧ decide ((0 : Int) < ((hLen b : Nat) : Int)) = false ∨ (((b.getD 2 0 : Nat) : Int) == 1) = false) : HeadOk b := by
  rw [bne_eq_false_iff_eq] at h0 h1 h3 h4
  rw [decide_eq_false_iff_not] at h2 h5
  refine ⟨by omega, ?_, (head_ref h hb).2 ⟨by omega, by omega, by omega, by omega, by omega⟩⟩
  rintro ⟨e1, e2⟩
  rw [hDead_int] at e1
  rcases hg with ⟨_, g2⟩ | g1
  · rw [decide_eq_false_iff_not] at g2
    omega
  · rw [e1] at g1
    cases g1
theorem headOk_tests {b : List Nat} (h : 24 ≤ b.length) (hb : ∀ x ∈ b, x < 256) (ok : HeadOk b) : (((b.getD 0 0 : Nat) : Int) != 110) = false ∧ (((b.getD 1 0 : Nat) : Int) != 100) = false ∧ decide ((1 : Int) < ((b.getD 2 0 : Nat) : Int)) = false ∧ (((b.getD 3 0 : Nat) : Int) != 0) = false
    ∧ (((val32 (b.drop 20) : Nat) : Int) != ((sumS (b.take 20) : Nat) : Int)) = false ∧ decide ((65536 : Int) < ((hLen b : Nat) : Int)) = false ∧ ((((b.getD 2 0 : Nat) : Int) == 1) = true ∧ decide ((0 : Int) < ((hLen b : Nat) : Int)) = false ∨ (((b.getD 2 0 : Nat) : Int) == 1) = false) := by
  obtain ⟨k1, k2, k3⟩ := ok
  obtain ⟨e0, e1, e2, e3, e4⟩ := (head_ref h hb).1 k3
  refine ⟨by rw [bne_eq_false_iff_eq]; omega, by rw [bne_eq_false_iff_eq]; omega, by rw [decide_eq_false_iff_not]; omega, by rw [bne_eq_false_iff_eq]; omega, by rw [bne_eq_false_iff_eq]; omega, by rw [decide_eq_false_iff_not]; omega, ?_⟩
  rcases hd : (((b.getD 2 0 : Nat) : Int) == 1)
  · exact Or.inr rfl
  · refine Or.inl ⟨rfl, ?_⟩
    rw [decide_eq_false_iff_not]
    intro hz
    exact k2 ⟨by rw [hDead_int]; exact hd, by omega⟩
theorem rnddec_any (A : Option Addr) (n c : Nat) (b : List Nat) (w : World) (hA : IsB w (.slice A n c) b) (hb : ∀ x ∈ b, x < 256) (hlim : n ≤ 549755813888) :
    Calls Try.prog 16 #[.slice A n c] w fun e w' => DecAns w (ndDec b) e w' := by
  obtain ⟨hn, h1, h2⟩ := isB_len hA
  have form : ∀ {e : Ending} {w' : World}, 24 ≤ b.length → ¬ HeadOk b → (e = .returned (.tuple #[.agg #[.int .u64 0, .int .u32 0, .bool false, .slice none 0 0], .int .i64 0, .int .i64 3]) ∧ Below w.heap.size w w') → DecAns w (ndDec b) e w' := by
    rintro e w' hl hno ⟨rfl, k⟩
    rw [ndDec_form hl hno]
    exact decAns_mk 0 0 false [] 0 3 _ (World.ownsRow_nil _ _ _ _) k
  by_cases h24 : n < 24
  · rw [ndDec_short (by omega)]
    refine (rnddec_short A n c w h24).mono ?_
    rintro e w' ⟨rfl, k⟩
    exact decAns_mk 0 0 false [] 0 2 _ (World.ownsRow_nil _ _ _ _) k
  have hl : 24 ≤ b.length := by omega
  have h24 : 24 ≤ n := by omega
  rcases t0 : (((b.getD 0 0 : Nat) : Int) != 110)
  case true => exact (rnddec_formA A n c b w hA hb h24 t0).mono fun e w' k => form hl (fun ok => by have := (headOk_tests hl hb ok).1; rw [t0] at this; cases this) k
  rcases t1 : (((b.getD 1 0 : Nat) : Int) != 100)
  case true => exact (rnddec_formB A n c b w hA hb h24 t0 t1).mono fun e w' k => form hl (fun ok => by have := (headOk_tests hl hb ok).2.1; rw [t1] at this; cases this) k
  by_cases t2 : (1 : Int) < ((b.getD 2 0 : Nat) : Int)
  · exact (rnddec_formC A n c b w hA hb h24 t0 t1 t2).mono fun e w' k => form hl (fun ok => by have := (headOk_tests hl hb ok).2.2.1; rw [decide_eq_false_iff_not] at this; exact this t2) k
  have t2 := decide_eq_false t2
  rcases t3 : (((b.getD 3 0 : Nat) : Int) != 0)
  case true => exact (rnddec_formD A n c b w hA hb h24 t0 t1 t2 t3).mono fun e w' k => form hl (fun ok => by have := (headOk_tests hl hb ok).2.2.2.1; rw [t3] at this; cases this) k
  rcases t4 : (((val32 (b.drop 20) : Nat) : Int) != ((sumS (b.take 20) : Nat) : Int))
  case true => exact (rnddec_formE A n c b w hA hb h24 t0 t1 t2 t3 t4).mono fun e w' k => form hl (fun ok => by have := (headOk_tests hl hb ok).2.2.2.2.1; rw [t4] at this; cases this) k
  by_cases t5 : (65536 : Int) < ((hLen b : Nat) : Int)
  · exact (rnddec_formF A n c b w hA hb h24 t0 t1 t2 t3 t4 t5).mono fun e w' k => form hl (fun ok => by have := (headOk_tests hl hb ok).2.2.2.2.2.1; rw [decide_eq_false_iff_not] at this; exact this t5) k
  have t5 := decide_eq_false t5
  have tg : ((((b.getD 2 0 : Nat) : Int) == 1) = true ∧ (0 : Int) < ((hLen b : Nat) : Int)) ∨ ((((b.getD 2 0 : Nat) : Int) == 1) = true ∧ decide ((0 : Int) < ((hLen b : Nat) : Int)) = false ∨ (((b.getD 2 0 : Nat) : Int) == 1) = false) := by
    rcases (((b.getD 2 0 : Nat) : Int) == 1)
    · exact Or.inr (Or.inr rfl)
    · by_cases hz : (0 : Int) < ((hLen b : Nat) : Int)
      · exact Or.inl ⟨rfl, hz⟩
      · exact Or.inr (Or.inl ⟨rfl, decide_eq_false hz⟩)
  rcases tg with ⟨t6, t7⟩ | hg
  · refine (rnddec_formG A n c b w hA hb h24 t0 t1 t2 t3 t4 t5 t6 t7).mono fun e w' k => form hl (fun ok => ?_) k
    rcases (headOk_tests hl hb ok).2.2.2.2.2.2 with ⟨_, g2⟩ | g1
    · rw [decide_eq_false_iff_not] at g2
      exact g2 t7
    · rw [t6] at g1
      cases g1
  have hok := headOk_of hl hb t0 t1 t2 t3 t4 t5 hg
  by_cases hs : n < ndSize (hLen b)
  · rw [ndDec_short2 hl hok (by omega)]
    refine (rnddec_short2 A n c b w hA hb h24 t0 t1 t2 t3 t4 t5 hg hs).mono ?_
    rintro e w' ⟨rfl, k⟩
    exact decAns_mk 0 0 false [] 0 2 _ (World.ownsRow_nil _ _ _ _) k
  · by_cases ht : TailOk b
    · rw [ndDec_ok hl hok (by omega) ht]
      refine (rnddec_rest A n c b w hA hb h24 t0 t1 t2 t3 t4 t5 hg (by omega) hlim true (decide_eq_true ht).symm).mono ?_
      rintro e w' ⟨s, rfl, o, k⟩
      rw [if_pos rfl] at o ⊢
      exact decAns_mk _ _ _ _ _ 0 s o k
    · rw [ndDec_sum hl hok (by omega) ht]
      refine (rnddec_rest A n c b w hA hb h24 t0 t1 t2 t3 t4 t5 hg (by omega) hlim false (decide_eq_false ht).symm).mono ?_
      rintro e w' ⟨s, rfl, o, k⟩
      rw [if_neg (by decide)] at o ⊢
      exact decAns_mk _ _ _ _ _ 4 s o k
end Go.Proofs.Ytkgkhielfodmmaa
