/- The contract of needle.Decode, all ways joined: any bytes begin with a needle, or are refused. Condition: fewer than 2 to the 39 bytes. -/
import Derived.Test.YtkgkhielfodmmaaNdDec
namespace Go.Proofs.Ytkgkhielfodmmaa
open Go.RowKit
/-- What Decode answers. -/
def DecAns (w : World) (r : (Nat × Nat × Bool × List Nat) × Nat × Nat) (e : Ending) (w' : World) : Prop :=
  ∃ s, e = .returned (.tuple #[.agg #[.int .u64 (r.1.1 : Int), .int .u32 (r.1.2.1 : Int), .bool r.1.2.2.1, s], .int .i64 (r.2.1 : Int), .int .i64 (r.2.2 : Int)]) ∧ Own w' w.heap.size s r.1.2.2.2 ∧ Below w.heap.size w w'
theorem decAns_mk {w w' : World} (k c : Nat) (d : Bool) (xs : List Nat) (n er : Nat) (s : Value) (o : Own w' w.heap.size s xs) (h : Below w.heap.size w w') : DecAns w ((k, c, d, xs), n, er) (.returned (.tuple #[.agg #[.int .u64 (k : Int), .int .u32 (c : Int), .bool d, s], .int .i64 (n : Int), .int .i64 (er : Int)])) w' := ⟨s, rfl, o, h⟩
theorem nddec_any (A : Option Addr) (n c : Nat) (b : List Nat) (w : World) (hA : IsB w (.slice A n c) b) (hb : ∀ x ∈ b, x < 256) (hlim : n ≤ 549755813888) :
    Calls Try.prog 15 #[.slice A n c] w fun e w' => DecAns w (ndDec b) e w' := by
  obtain ⟨hn, h1, h2⟩ := isB_len hA
  by_cases h24 : n < 24
  · rw [ndDec_short (by omega)]
    refine (nddec_short A n c w h24).mono ?_
    rintro e w' ⟨rfl, k⟩
    exact decAns_mk 0 0 false [] 0 2 _ (World.ownsRow_nil _ _ _ _) k
  · by_cases hok : HeadOk b
    · by_cases hs : n < ndSize (hLen b)
      · rw [ndDec_short2 (by omega) hok (by omega)]
        refine (nddec_short2 A n c b w hA hb (by omega) hok hs).mono ?_
        rintro e w' ⟨rfl, k⟩
        exact decAns_mk 0 0 false [] 0 2 _ (World.ownsRow_nil _ _ _ _) k
      · by_cases ht : TailOk b
        · rw [ndDec_ok (by omega) hok (by omega) ht]
          refine (nddec_rest A n c b w hA hb (by omega) hok (by omega) hlim true (decide_eq_true ht).symm).mono ?_
          rintro e w' ⟨s, rfl, o, k⟩
          rw [if_pos rfl] at o ⊢
          exact decAns_mk _ _ _ _ _ 0 s o k
        · rw [ndDec_sum (by omega) hok (by omega) ht]
          refine (nddec_rest A n c b w hA hb (by omega) hok (by omega) hlim false (decide_eq_false ht).symm).mono ?_
          rintro e w' ⟨s, rfl, o, k⟩
          rw [if_neg (by decide)] at o ⊢
          exact decAns_mk _ _ _ _ _ 4 s o k
    · rw [ndDec_form (by omega) hok]
      refine (nddec_form A n c b w hA hb (by omega) hok).mono ?_
      rintro e w' ⟨rfl, k⟩
      exact decAns_mk 0 0 false [] 0 3 _ (World.ownsRow_nil _ _ _ _) k
end Go.Proofs.Ytkgkhielfodmmaa
