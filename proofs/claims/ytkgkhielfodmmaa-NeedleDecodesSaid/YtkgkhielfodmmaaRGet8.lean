/- The contract of the document's own Get64, of eight bytes that are there. Condition: no row is longer than a slice may be. -/
import Derived.Test.YtkgkhielfodmmaaRGetA
import Derived.Test.YtkgkhielfodmmaaNdL
import Derived.Test.YtkgkhielfodmmaaNdB
import Derived.Deep.RegionLaw
namespace Go.Proofs.Ytkgkhielfodmmaa
open Go.RowKit
theorem or64_32 (x y : Nat) (hx : x < 4294967296) (hy : y < 4294967296) : bits .or .u64 ((x : Int) * 4294967296) (y : Int) = ((x * 4294967296 + y : Nat) : Int) := by
  have e0 : (x : Int) * 4294967296 = ((x * 4294967296 : Nat) : Int) := by simp
  rw [e0, u64_or_nat _ _ (by omega) (by omega), nat_join 32 _ _ (by omega) (by omega)]
set_option maxHeartbeats 800000 in
theorem rget64_any (g off n c : Nat) (xs : List Nat) (w : World) (hA : IsB w (.slice (some ⟨g, off, none⟩) n c) xs) (hb : ∀ x ∈ xs, x < 256) (h8 : 8 ≤ n) :
    Calls Try.prog 29 #[.slice (some ⟨g, off, none⟩) n c] w fun e w' => e = .returned (.int .u64 (foldV (xs.take 8) : Nat)) ∧ ∃ d, w' = w.drewN d := by
  obtain ⟨hn, h1, h2⟩ := isB_len hA
  have hv := val32_lt' hb
  have hv4 := val32_lt' (xs := xs.drop 4) (fun x hx => hb x (List.mem_of_mem_drop hx))
  have hf : foldV (xs.take 8) = val32 xs * 4294967296 + val32 (xs.drop 4) := foldV_val (by omega)
  have I0 := hide hA
  have I4 := hide (isB_drop hA 4 (n - 4) (c - 4) rfl rfl (by omega))
  obtain ⟨x, hx⟩ : ∃ x, x = val32 xs := ⟨_, rfl⟩
  obtain ⟨y, hy⟩ : ∃ y, y = val32 (xs.drop 4) := ⟨_, rfl⟩
  rw [← hx] at hv hf
  rw [← hy] at hv4 hf
  have hor := or64_32 x y hv hv4
  obtain ⟨v, hve⟩ : ∃ v, v = foldV (xs.take 8) := ⟨_, rfl⟩
  rw [← hf, ← hve] at hor
  rw [← hve]
  clear hf
  have hw1 : IntKind.u64.wrap (x : Int) = (x : Int) := by rw [IntKind.wrap_u64]; omega
  have hw2 : IntKind.u64.wrap (y : Int) = (y : Int) := by rw [IntKind.wrap_u64]; omega
  have hw3 : IntKind.u64.wrap ((x : Int) * 4294967296) = (x : Int) * 4294967296 := by rw [IntKind.wrap_u64]; omega
  have hc4 : ¬ (c = 4) := by omega
  have hn4 : (4 : Int) ≤ (n : Int) := by omega
  have hk4 : (4 : Int) ≤ (c : Int) := by omega
  have h4n : 4 ≤ n := by omega
  have h4m : 4 ≤ n - 4 := by omega
  have lnn : n ≤ 9223372036854775807 := by omega
  have lnm : n - 4 ≤ 9223372036854775807 := by omega
  have HE := hide (And.intro hx (And.intro hy (And.intro hve hn)))
  have HB := hide hb
  have B4 : Hid (∀ x ∈ xs.drop 4, x < 256) := hide (fun x hx => hb x (List.mem_of_mem_drop hx))
  clear hA hx hy hve hn hb
  go_enter Try.func29, Try.ntmps29
  go_wp2
  go_region_law (first
    | (have _t := d1; go_simp; go_at_call 28; refine (rget32_any (some ⟨g, off + 4, none⟩) (n - 4) (c - 4) (xs.drop 4) _ (by exact I4.out.rd) (by rw [List.length_drop, HE.out.2.2.2]) B4.out h4m lnm).mono ?_; rintro e w2 ⟨rfl, d2, rfl⟩; rw [← HE.out.2.1])
    | (go_simp; go_at_call 28; refine (rget32_any (some ⟨g, off, none⟩) n c xs _ (by exact I0.out.rd) HE.out.2.2.2.symm HB.out h4n lnn).mono ?_; rintro e w1 ⟨rfl, d1, rfl⟩; rw [← HE.out.1]))
  all_goals
    go_wp2
    go_ret
    exact ⟨rfl, _, rfl⟩
end Go.Proofs.Ytkgkhielfodmmaa
