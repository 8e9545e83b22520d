/- The contracts of frame.Encode and frame.Decode and of what they call. Condition: rows below 2 to the 39. -/
import Derived.Test.YtmledochidefeaaCat
import Derived.Test.YtmledochidefeaaSum
import Derived.Test.YtmledochidefeaaFixA
namespace Go.Proofs.Ytmledochidefeaa
open Go.RowKit
def frameL (p : List Nat) : List Nat := be32 p.length ++ be32 (sumS (be32 p.length ++ p)) ++ p
theorem sumS_lt (xs : List Nat) : sumS xs < 4294967296 := by unfold sumS; omega
theorem IsB.drop {w : World} {b off n c : Nat} {xs : List Nat} (h : IsB w (.slice (some ⟨b, off, none⟩) n c) xs) (k m d : Nat) (hm : m = n - k) (hd : d = c - k) (hk : k ≤ n) : IsB w (.slice (some ⟨b, off + k, none⟩) m d) (xs.drop k) := by
  subst hm; subst hd
  obtain ⟨A', c', e, r, h1, h2, h3⟩ := h
  cases e
  refine ⟨_, _, by rw [List.length_drop], ?_, (fun h => by cases h), by rw [List.length_drop]; omega, by omega⟩
  intro hne
  have hl : 0 < (xs.drop k).length := by
    rcases e : xs.drop k with _ | ⟨y, ys⟩
    · exact absurd e hne
    · simp
  obtain ⟨b', off', e, hc⟩ := r (by intro e; rw [e] at hl; simp at hl)
  cases e
  refine ⟨b, off + k, rfl, fun i hi => ?_⟩
  rw [List.length_drop] at hi
  have := hc (k + i) (by omega)
  rw [Nat.add_assoc, this]
  congr 2
  simp
theorem IsBs.two {w : World} {u v : Value} {xs ys : List Nat} (h1 : IsB w u xs) (h2 : IsB w v ys) : IsBs w [u, v] [xs, ys] := by
  refine ⟨rfl, fun i hi => ?_⟩
  match i, hi with
  | 0, _ => exact h1
  | 1, _ => exact h2
theorem IsBs.three {w : World} {u v z : Value} {xs ys zs : List Nat} (h1 : IsB w u xs) (h2 : IsB w v ys) (h3 : IsB w z zs) : IsBs w [u, v, z] [xs, ys, zs] := by
  refine ⟨rfl, fun i hi => ?_⟩
  match i, hi with
  | 0, _ => exact h1
  | 1, _ => exact h2
  | 2, _ => exact h3
set_option maxHeartbeats 400000 in
theorem sumOf_any (A B : Option Addr) (n m c d : Nat) (xs ys : List Nat) (w : World) (hA : IsB w (.slice A n c) xs) (hB : IsB w (.slice B m d) ys) (hn : xs.length = n) (hm : ys.length = m)
    (hx : ∀ x ∈ xs, x < 256) (hy : ∀ x ∈ ys, x < 256) (ln : n + m ≤ 1099511627776) :
    Calls Try.prog 56 #[.slice A n c, .slice B m d] w fun e w' => e = .returned (.int .u32 (sumS (xs ++ ys) : Nat)) ∧ Below w.heap.size w w' := by
  have HA := hide hA
  have HB := hide hB
  have HL : Hid ((xs ++ ys).length = n + m) := by unfold Hid; rw [List.length_append, hn, hm]
  have HY := hide (byte_app hx hy)
  clear hA hB hn hm hx hy
  go_enter Try.func56, Try.ntmps56
  go_wp2_with fail
  have nb : Below w.heap.size w (w.alloc (.cells #[.slice A n c, .slice B m d] 33)) := (Below.refl _ _).alloc (Nat.le_refl _) _
  refine (concat_any _ 2 2 [.slice A n c, .slice B m d] [xs, ys] _ (rdV_new w _ _ _ _ rfl rfl) rfl (IsBs.two (HA.out.keep nb) (HB.out.keep nb)) (by simp only [List.flatten_cons, List.flatten_nil, List.append_nil]; rw [HL.out]; omega) (by decide)).mono ?_
  rintro e w1 ⟨s1, rfl, o1, k1⟩
  simp only [List.flatten_cons, List.flatten_nil, List.append_nil] at o1
  obtain ⟨A1, c1, rfl, i1, l1, m1⟩ := o1.isB.form (n := n + m) HL.out
  have I1 := hide i1
  have K1 := hide (below_step nb k1)
  clear nb o1 i1 k1
  go_wp2_with fail
  refine (sum_any A1 (n + m) c1 (xs ++ ys) _ I1.out.rd HL.out.symm HY.out (by omega)).mono ?_
  rintro e w2 ⟨rfl, rfl⟩
  go_wp2_with fail
  go_ret
  exact ⟨rfl, K1.out⟩
set_option maxHeartbeats 800000 in
theorem encode_any (A : Option Addr) (n c : Nat) (p : List Nat) (w : World) (hA : IsB w (.slice A n c) p) (hn : p.length = n) (hb : ∀ x ∈ p, x < 256) (h : n ≤ 1048576) :
    Calls Try.prog 32 #[.slice A n c] w fun e w' => ∃ s, e = .returned (.tuple #[s, .int .i64 0]) ∧ Own w' w.heap.size s (frameL p) ∧ Below w.heap.size w w' := by
  have HA := hide hA
  have HN := hide hn
  have HB := hide hb
  clear hA hn hb
  go_enter Try.func32, Try.ntmps32
  go_wp2_with fail
  refine (put32_any _ n (by omega) _ (by omega)).mono ?_
  rintro e w1 ⟨s1, rfl, o1, k1⟩
  obtain ⟨A1, c1, rfl, i1, l1, m1⟩ := o1.isB.form (n := 4) rfl
  have I1 := hide i1
  have IP := hide (HA.out.keep k1)
  have K1 := hide k1
  clear o1 i1 k1 HA
  go_wp2_with fail
  refine (sumOf_any A1 A 4 n c1 c (be32 n) p _ I1.out IP.out rfl HN.out (be32_byte n) HB.out (by omega)).mono ?_
  rintro e w2 ⟨rfl, k2⟩
  have I2 := hide (I1.out.keep k2)
  have IP2 := hide (IP.out.keep k2)
  have K2 := hide (below_step K1.out k2)
  clear k2 I1 IP K1
  have HS := hide (sumS_lt (be32 n ++ p))
  have HF : Hid (frameL p = be32 n ++ be32 (sumS (be32 n ++ p)) ++ p) := by unfold Hid frameL; rw [HN.out]
  obtain ⟨t, ht⟩ : ∃ t, t = sumS (be32 n ++ p) := ⟨_, rfl⟩
  rw [← ht] at HS HF ⊢
  clear ht
  go_wp2_with fail
  refine (put32_any _ t rfl _ HS.out).mono ?_
  rintro e w3 ⟨s3, rfl, o3, k3⟩
  obtain ⟨A3, c3, rfl, i3, l3, m3⟩ := o3.isB.form (n := 4) rfl
  have I3 := hide i3
  have I2 := hide (I2.out.keep k3)
  have IP2 := hide (IP2.out.keep k3)
  have K3 := hide (below_step K2.out k3)
  clear o3 i3 k3 K2
  have nb : Below w3.heap.size w3 (w3.alloc (.cells #[.slice A1 4 c1, .slice A3 4 c3, .slice A n c] 33)) := (Below.refl _ _).alloc (Nat.le_refl _) _
  have NB := hide nb
  clear nb
  go_wp2_with fail
  refine (concat_any _ 3 3 [.slice A1 4 c1, .slice A3 4 c3, .slice A n c] [be32 n, be32 t, p] _ (rdV_new w3 _ _ _ _ rfl rfl) rfl (IsBs.three (I2.out.keep NB.out) (I3.out.keep NB.out) (IP2.out.keep NB.out)) (by simp only [List.flatten_cons, List.flatten_nil, List.append_nil, List.length_append, be32_len, HN.out]; omega) (by decide)).mono ?_
  rintro e w4 ⟨s4, rfl, o4, k4⟩
  simp only [List.flatten_cons, List.flatten_nil, List.append_nil] at o4
  rw [← List.append_assoc, ← HF.out] at o4
  have K4 := hide (below_step K3.out (below_step NB.out k4))
  have O4 : Hid (Own w4 w.heap.size s4 (frameL p)) := by
    unfold Hid
    have hle : w.heap.size ≤ (w3.alloc (.cells #[.slice A1 4 c1, .slice A3 4 c3, .slice A n c] 33)).heap.size := Nat.le_trans K3.out.size NB.out.size
    exact o4.more hle
  clear o4 k4
  go_wp2_with fail
  go_ret2
  exact ⟨_, rfl, O4.out, K4.out⟩
set_option maxHeartbeats 400000 in
theorem encode_long (A : Option Addr) (n c : Nat) (w : World) (h : 1048576 < n) (hl : n ≤ 9223372036854775807) :
    Calls Try.prog 32 #[.slice A n c] w fun e w' => e = .returned (.tuple #[.slice none 0 0, .int .i64 5]) ∧ w = w' := by
  go_enter Try.func32, Try.ntmps32
  go_wp2_with fail
  go_ret2
  exact ⟨rfl, rfl⟩
end Go.Proofs.Ytmledochidefeaa
