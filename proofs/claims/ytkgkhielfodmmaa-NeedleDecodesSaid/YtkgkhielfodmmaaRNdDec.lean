/- The contract of the document's own Decode of needles: any bytes begin with a needle, or are refused. Condition: fewer than 2 to the 39 bytes. -/
import Derived.Test.YtkgkhielfodmmaaNdDecA
import Derived.Test.YtkgkhielfodmmaaRSum
import Derived.Test.YtkgkhielfodmmaaRGetA
import Derived.Test.YtkgkhielfodmmaaRNdSize
import Derived.Deep.RegionLaw
namespace Go.Proofs.Ytkgkhielfodmmaa
open Go.RowKit
set_option maxRecDepth 100000 in
set_option maxHeartbeats 3200000 in
theorem rnddec_short (A : Option Addr) (n c : Nat) (w : World) (h : n < 24) :
    Calls Try.prog 16 #[.slice A n c] w fun e w' => e = .returned (.tuple #[.agg #[.int .u64 0, .int .u32 0, .bool false, .slice none 0 0], .int .i64 0, .int .i64 2]) ∧ Below w.heap.size w w' := by
  go_enter Try.func16, Try.ntmps16
  go_wp2_with fail
  refine bodyPost_ret (v := .tuple #[.agg #[.int .u64 0, .int .u32 0, .bool false, .slice none 0 0], .int .i64 0, .int .i64 2]) (by simp [results, Try.results16, go_sem]) rfl ⟨rfl, below_alloc _ _⟩
/-- What is known ahead of the great test: the bytes, the answer's block. -/
structure RDec (w W : World) (g off n c : Nat) (b : List Nat) : Prop where
  slice : IsB W (.slice (some ⟨g, off, none⟩) n c) b
  byte : ∀ x ∈ b, x < 256
  len : b.length = n
  lt : g < w.heap.size
  below : Below w.heap.size w W
  ans : Blk W w.heap.size 26 w.heap.size [.int .u64 0, .int .u32 0, .bool false, .slice none 0 0]
theorem rdec_new {w : World} {A : Option Addr} {n c : Nat} {b : List Nat} (hA : IsB w (.slice A n c) b) (hb : ∀ x ∈ b, x < 256) (h : 24 ≤ n) : ∃ g off, A = some ⟨g, off, none⟩ ∧ RDec w (w.alloc (.cells #[.int .u64 0, .int .u32 0, .bool false, .slice none 0 0] 26)) g off n c b := by
  obtain ⟨hn, h1, h2⟩ := isB_len hA
  obtain ⟨g, off, rfl⟩ := isB_at hA (by omega)
  refine ⟨g, off, rfl, hA.keep (below_alloc _ _), hb, hn, ?_, below_alloc _ _, ans_new w⟩
  obtain ⟨b', o', e, hc⟩ := hA.rd (by intro e; rw [e] at hn; simp at hn; omega)
  cases e
  exact cell_lt (hc 0 (by omega))
theorem RDec.keep {w W W' : World} {g off n c : Nat} {b : List Nat} (h : RDec w W g off n c b) (k : Below W.heap.size W W') : RDec w W' g off n c b :=
  ⟨h.slice.keep k, h.byte, h.len, h.lt, below_step h.below k, h.ans.keep k⟩
theorem RDec.drawn {w W : World} {g off n c : Nat} {b : List Nat} (h : RDec w W g off n c b) (d : Nat) : RDec w (W.drewN d) g off n c b := h.keep (below_drewN (Below.refl _ _) d)
theorem RDec.cell {w W : World} {g off n c : Nat} {b : List Nat} (h : RDec w W g off n c b) (i : Nat) (hi : i < n) : W.cell? ⟨g, off + i, none⟩ = some (.int .u8 ((b.getD i 0 : Nat) : Int)) ∧ b.getD i 0 < 256 := by
  have hl := h.len
  obtain ⟨b', o', e, hc⟩ := h.slice.rd (by intro e; rw [e] at hl; simp at hl; omega)
  cases e
  refine ⟨hc i (by omega), ?_⟩
  have e : b.getD i 0 = b[i]'(by omega) := by simp [show i < b.length by omega]
  rw [e]
  exact h.byte _ (List.getElem_mem _)
theorem RDec.part {w W : World} {g off n c : Nat} {b : List Nat} (h : RDec w W g off n c b) (k : Nat) (hk : k ≤ n) : IsB W (.slice (some ⟨g, off + k, none⟩) (n - k) (c - k)) (b.drop k) ∧ (∀ x ∈ b.drop k, x < 256) ∧ n - k = (b.drop k).length :=
  ⟨isB_drop h.slice k _ _ rfl rfl hk, fun x hx => h.byte x (List.mem_of_mem_drop hx), by rw [List.length_drop, h.len]⟩
end Go.Proofs.Ytkgkhielfodmmaa
