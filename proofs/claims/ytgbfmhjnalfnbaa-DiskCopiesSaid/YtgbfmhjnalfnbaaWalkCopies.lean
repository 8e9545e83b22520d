/- The walk of the law DiskCopies. No conditions but the widths. -/
import Derived.Test.YtgbfmhjnalfnbaaOne
import Derived.Test.YtgbfmhjnalfnbaaKnown
import Derived.Test.YtgbfmhjnalfnbaaDCopy
import Derived.Test.YtgbfmhjnalfnbaaDRot
namespace Go.Proofs.Ytgbfmhjnalfnbaa
open Go.RowKit Go.Maps
theorem and_65535 (z : Int) : bits .and .i64 z 65535 = z % 65536 := by
  have h2 : (BitVec.ofInt 64 65535).toNat = 2 ^ 16 - 1 := by decide
  have e : (BitVec.ofInt 64 z &&& BitVec.ofInt 64 65535).toNat = (BitVec.ofInt 64 z).toNat % 65536 := by
    rw [BitVec.toNat_and, h2, Nat.and_two_pow_sub_one_eq_mod]
  show IntKind.i64.wrap (((BitVec.ofInt 64 z &&& BitVec.ofInt 64 65535).toNat : Nat) : Int) = z % 65536
  rw [e, BitVec.toNat_ofInt, IntKind.wrap_i64]
  omega
def Dis (F G : Nat → Prop) : Prop := ∀ k, F k → ¬ G k
theorem dis_next {F G F' : Nat → Prop} {w w' : World} (h : Dis F G) (hG : ∀ k, G k → k < w.heap.size) (n : Next F w F' w') : Dis F' G := fun k hk hg => by
  rcases n.foot k hk with h1 | h1
  · exact h k h1 hg
  · have := hG k hg
    omega
theorem Dis.symm {F G : Nat → Prop} (h : Dis F G) : Dis G F := fun k hg hf => h k hf hg
theorem appL_z {room : Nat} {ys : List Nat} (h : ys.length ≤ room) : appL room [122] ys [] = ([([122], (ys, 0))], 0) := appL_new (by decide) h
theorem getK_mine {α : Type} (a : α) : getK [120] ([([120], a)] : List (Str × α)) = some a := getK_one _ _
set_option maxRecDepth 100000 in
set_option maxHeartbeats 3200000 in
theorem diskCopies_core (A1 A2 : Option Addr) (n1 c1 n2 c2 y k : Nat) (xs ys : List Nat) (z m : Int) (w : World) (h1 : IsB w (.slice A1 n1 c1) xs) (h2 : IsB w (.slice A2 n2 c2) ys) (l1 : xs.length = n1) (l2 : ys.length = n2)
    (b1 : ∀ x ∈ xs, x < 256) (b2 : ∀ x ∈ ys, x < 256) (hm : n1 + n2 ≤ 8000) (hn : n1 ≠ 0) (hy : y < 256) (hand : bits .and .i64 z 65535 = m) (hmb : 0 ≤ m ∧ m < 65536) (hrem : m.tmod (n1 : Int) = (k : Int)) (hk : k < n1) :
    Calls Try.prog 9 #[.slice A1 n1 c1, .slice A2 n2 c2, .int .i64 z, .int .u8 (y : Int)] w fun e w' => e = .returned (.bool true) ∧ Below w.heap.size w w' := by
  have H1 := hide h1
  have H2 := hide h2
  have L1 := hide l1
  have L2 := hide l2
  have B1 := hide b1
  have B2 := hide b2
  obtain ⟨hm1, hm2⟩ := hmb
  have hnz : ¬ ((n1 : Int) = 0) := by omega
  have hnb : ((n1 : Int) == 0) = false := by simp; omega
  have LA : Hid ((xs ++ ys).length = n1 + n2) := by unfold Hid; rw [List.length_append, l1, l2]
  have HX1 : Hid (appL 1048576 [120] xs [] = ([([120], (xs, 0))], 0)) := appL_new (by decide) (by omega)
  have HX2 : Hid (appL 1048576 [120] ys [([120], (xs, 0))] = ([([120], (xs ++ ys, 0))], 0)) := appL_more (by decide) (by omega)
  have HX3 : Hid (appL 1048576 [122] ys [] = ([([122], (ys, 0))], 0)) := appL_z (by omega)
  clear h1 h2 l1 l2 b1 b2
  go_enter Try.func9, Try.ntmps9
  go_wp2_with fail
  refine (new_any 1048576 w (by decide)).mono ?_
  rintro e w1 ⟨d, F1, rfl, d1, u1, k1⟩
  have D1 := hide d1
  have K1 := hide k1
  have U1 := hide u1
  clear d1 u1 k1
  go_wp2_with fail
  refine (append_any F1 d 1048576 [] ⟨#[120]⟩ A1 n1 c1 xs _ D1.out (by decide) (H1.out.keep K1.out) L1.out B1.out (by omega)).mono ?_
  rintro e w2 ⟨rfl, F2, d2, n2'⟩
  rw [show appL 1048576 (⟨#[120]⟩ : ByteArray).data.toList xs [] = _ from HX1.out] at d2 ⊢
  have K2 := hide (K1.out.trans (n2'.below K1.out.size U1.out))
  have U2 := hide (n2'.up K1.out.size U1.out)
  have D2 := hide d2
  clear d2 n2'
  go_wp2_with fail
  refine (copy_any F2 d 1048576 _ _ D2.out).mono ?_
  rintro e w3 ⟨c, G3, rfl, g3, v3, k3⟩
  have D3 := hide (D2.out.below k3)
  have C3 := hide g3
  have DD3 : Hid (Dis F2 G3) := fun i hf hg => by
    have h1 := D2.out.low i hf
    have h2 := v3 i hg
    omega
  have V3 : Hid (∀ i, G3 i → w.heap.size ≤ i) := fun i hg => by
    have h2 := v3 i hg
    have := K2.out.size
    omega
  have K3 := hide (K2.out.trans (k3.mono K2.out.size))
  clear g3 v3 k3
  go_wp2_with fail
  refine (append_any F2 d 1048576 _ ⟨#[120]⟩ A2 n2 c2 ys _ D3.out (by decide) (H2.out.keep K3.out) L2.out B2.out (by omega)).mono ?_
  rintro e w4 ⟨rfl, F4, d4, n4'⟩
  rw [show appL 1048576 (⟨#[120]⟩ : ByteArray).data.toList ys [([120], (xs, 0))] = _ from HX2.out] at d4 ⊢
  have C4 := hide (C3.out.turn n4'.turn (fun i hg hf => DD3.out i hf hg))
  have DD4 := hide (dis_next DD3.out C3.out.low n4')
  have K4 := hide (K3.out.trans (n4'.below K3.out.size U2.out))
  have U4 := hide (n4'.up K3.out.size U2.out)
  have D4 := hide d4
  clear d4 n4'
  go_wp2_with fail
  refine (rot_ok F4 d 1048576 _ ⟨#[120]⟩ (xs ++ ys) 0 k y _ D4.out (by decide) rfl (by rw [LA.out]; omega) hy).mono ?_
  rintro e w5 ⟨rfl, F5, d5, n5'⟩
  have C5 := hide (C4.out.turn n5'.turn (fun i hg hf => DD4.out i hf hg))
  have DD5 := hide (dis_next DD4.out C4.out.low n5')
  have K5 := hide (K4.out.trans (n5'.below K4.out.size U4.out))
  have U5 := hide (n5'.up K4.out.size U4.out)
  obtain ⟨qs, hqs⟩ : ∃ qs, qs = (xs ++ ys).set k ((xs ++ ys).getD k 0 ^^^ y) := ⟨_, rfl⟩
  rw [← hqs] at d5
  have LQ : Hid (qs.length = n1 + n2) := by unfold Hid; rw [hqs, List.length_set]; exact LA.out
  have D5 := hide (show DiskAt w5 F5 d 1048576 [([120], (qs, 0))] from d5)
  clear d5 n5' hqs hand hrem
  go_wp2_with fail
  refine (read_some G3 c 1048576 _ ⟨#[120]⟩ xs 0 _ C5.out (by decide) rfl).mono ?_
  rintro e w6 ⟨v6, rfl, o6, k6⟩
  obtain ⟨A6, c6, rfl, _, l6, m6⟩ := o6.isB.form (n := n1) L1.out
  have D6 := hide (D5.out.below k6)
  have C6 := hide (C5.out.below k6)
  have OF6 : Hid (Off G3 (.slice A6 n1 c6)) := fun g hg hf => by
    have h1 := (o6.lt g hg).1
    have h2 := C5.out.low g hf
    omega
  have O6 := hide o6
  have K6 := hide (K5.out.trans (k6.mono K5.out.size))
  clear o6 k6
  go_wp2_with fail
  refine (remove_some G3 c 1048576 _ ⟨#[120]⟩ (xs, 0) _ C6.out (by decide) rfl).mono ?_
  rintro e w7 ⟨rfl, g7, n7'⟩
  have D7 := hide (D6.out.turn n7'.turn DD5.out)
  have O7 := hide (O6.out.turn n7'.turn OF6.out)
  have C7 := hide (show DiskAt w7 G3 c 1048576 [] from g7)
  have K7 := hide (K6.out.trans (n7'.below K6.out.size V3.out))
  clear g7 n7'
  go_wp2_with fail
  refine (append_any G3 c 1048576 [] ⟨#[122]⟩ A2 n2 c2 ys _ C7.out (by decide) (H2.out.keep K7.out) L2.out B2.out (by omega)).mono ?_
  rintro e w8 ⟨rfl, G8, g8, n8'⟩
  rw [show appL 1048576 (⟨#[122]⟩ : ByteArray).data.toList ys [] = _ from HX3.out]
  have D8 := hide (D7.out.turn n8'.turn DD5.out)
  have O8 := hide (O7.out.turn n8'.turn OF6.out).isB
  have K8 := hide (K7.out.trans (n8'.below K7.out.size V3.out))
  clear g8 n8'
  go_wp2_with fail
  refine (read_none F5 d 1048576 _ ⟨#[122]⟩ _ D8.out (by decide) rfl).mono ?_
  rintro e w9 ⟨rfl, k9⟩
  have D9 := hide (D8.out.below k9)
  have O9 := hide (O8.out.keep k9)
  have K9 := hide (K8.out.trans (k9.mono K8.out.size))
  clear k9
  go_wp2_with fail
  refine (read_some F5 d 1048576 _ ⟨#[120]⟩ qs 0 _ D9.out (by decide) rfl).mono ?_
  rintro e w10 ⟨v10, rfl, o10, k10⟩
  obtain ⟨A10, c10, rfl, _, l10, m10⟩ := o10.isB.form (n := n1 + n2) LQ.out
  have O10 := hide (O9.out.keep k10)
  have K10 := hide (K9.out.trans (k10.mono K9.out.size))
  clear o10 k10
  go_wp2_with fail
  refine (same_any A6 A1 n1 n1 c6 c1 xs xs _ O10.out.rd (H1.out.keep K10.out).rd L1.out.symm L1.out.symm (by omega) (by omega)).mono ?_
  rintro e w11 ⟨rfl, d11, rfl⟩
  rw [decide_eq_true rfl]
  have K11 := hide (below_drewN K10.out d11)
  go_wp2_with fail
  refine (known_any _).mono ?_
  rintro e w12 ⟨rfl, k12⟩
  go_wp2_with fail
  go_ret
  exact ⟨rfl, below_step K11.out k12⟩
theorem diskCopies_out (A1 A2 : Option Addr) (n1 c1 n2 c2 : Nat) (z y : Int) (w : World) (h1 : n1 ≤ 140737488351232) (h2 : n2 ≤ 140737488351232) (h : 8000 < n1 + n2 ∨ ¬ 8000 < n1 + n2 ∧ n1 = 0) :
    Calls Try.prog 9 #[.slice A1 n1 c1, .slice A2 n2 c2, .int .i64 z, .int .u8 y] w fun e w' => e = .returned (.bool true) ∧ Below w.heap.size w w' := by
  rcases h with h | ⟨h, rfl⟩
  all_goals
    go_enter Try.func9, Try.ntmps9
    go_wp2_with fail
    go_ret
    exact ⟨rfl, Below.refl _ _⟩
theorem diskCopies_walk (a0 : Option Addr) (len0 cap0 : Nat) (z0 : List Int) (a1 : Option Addr) (len1 cap1 : Nat) (z1 : List Int) (a2 a3 : Int) (w : World) (w0 : IsRow .u8 w a0 len0 cap0 z0) (w1 : IsRow .u8 w a1 len1 cap1 z1) (_w2 : (Lit.int .i64 a2).wf = true) (w3 : (Lit.int .u8 a3).wf = true)
    (b0 : len0 ≤ 140737488351232) (b1 : len1 ≤ 140737488351232) :
    Calls Try.prog 9 #[.slice a0 len0 cap0, .slice a1 len1 cap1, .int .i64 a2, .int .u8 a3] w fun e w' => e = .returned (.bool true) ∧ Below w.heap.size w w' := by
  obtain ⟨xs, hl0, hb0, hM0, _⟩ := w0.isB
  obtain ⟨ys, hl1, hb1, hM1, _⟩ := w1.isB
  by_cases h : 8000 < len0 + len1 ∨ ¬ 8000 < len0 + len1 ∧ len0 = 0
  · exact diskCopies_out a0 a1 len0 cap0 len1 cap1 a2 a3 w b0 b1 h
  · have hb := bounds_u8 w3
    obtain ⟨y, rfl⟩ : ∃ y : Nat, a3 = (y : Int) := ⟨a3.toNat, by omega⟩
    have hm0 : 0 ≤ a2 % 65536 := by omega
    have hm1 : a2 % 65536 < 65536 := by omega
    refine diskCopies_core a0 a1 len0 cap0 len1 cap1 y ((a2 % 65536).toNat % len0) xs ys a2 (a2 % 65536) w hM0 hM1 hl0 hl1 hb0 hb1 (by omega) (by omega) (by omega) (and_65535 a2) ⟨hm0, hm1⟩ ?_ (Nat.mod_lt _ (by omega))
    rw [Int.tmod_eq_emod_of_nonneg hm0]
    have e : a2 % 65536 = (((a2 % 65536).toNat : Nat) : Int) := by omega
    rw [e]
    simp
end Go.Proofs.Ytgbfmhjnalfnbaa
