/- The contract of needle.tailOf: what stands behind Data. Condition: at most 65536 bytes. -/
import Derived.Test.YtkgkhielfodmmaaNdSize
import Derived.Test.YtkgkhielfodmmaaBlk
import Derived.Laws.CopyOwn
namespace Go.Proofs.Ytkgkhielfodmmaa
open Go.RowKit
theorem made_bytesN {w : World} {B g n : Nat} (h : w.ownsRow B 5 1 (.slice (some ⟨g, 0, none⟩) n n) n (madeCells (Value.int .u8 0).cells (n * 1)).toList) : Own w B (.slice (some ⟨g, 0, none⟩) n n) (List.replicate n 0) := by
  have e : (madeCells (Value.int .u8 0).cells (n * 1)).toList = List.replicate n (Value.int .u8 0) := by
    rw [Nat.mul_one]; exact toList_madeCells_one (Value.int .u8 0) n
  rw [e] at h
  unfold Own
  simpa using h
def u8s (xs : List Nat) : List Value := xs.map fun x : Nat => Value.int .u8 (x : Int)
theorem u8s_len (xs : List Nat) : (u8s xs).length = xs.length := by simp [u8s]
theorem u8s_one (xs : List Nat) : ∀ v ∈ u8s xs, v.oneCell' = true := fun v hv => by obtain ⟨x, _, rfl⟩ := List.mem_map.1 hv; rfl
/-- The walk stops at a copy. -/
theorem halt_copyN {P : Program} {ops : Array Oper} {Q : Exit → Act → World → Prop} {rest : List Oper} {o : Oper} {a : Act} {w : World} (d s : Operand) (dT sT : TypeId)
    (_ho : o.op = .call { callee := .builtin .copy, args := #[d, s], argTypes := #[dT, sT] }) (h : Halt (wpList P ops Q (o :: rest) a w)) : wpList P ops Q (o :: rest) a w := h.out
/-- A row of the call's own without room behind it is its block. -/
theorem Own.whole {w : World} {B g n : Nat} {xs : List Nat} (h : Own w B (.slice (some ⟨g, 0, none⟩) n n) xs) (hn : xs.length = n) : B ≤ g ∧ w.heap[g]? = some (.cells (u8s xs).toArray 5 (0, 0)) := by
  subst hn
  unfold Own at h
  rcases h.2 with ⟨h1, _⟩ | ⟨g', cap, cur, e, hb, hg, h1, h2, h3, ht⟩
  · cases h1
  · cases e
    refine ⟨hb, ?_⟩
    rw [hg]
    have e1 : cur.toList = u8s xs := by
      have : cur.toList.take (xs.length * 1) = u8s xs := by simpa [u8s] using ht
      rwa [List.take_of_length_le (by rw [Array.length_toList]; omega)] at this
    rw [← e1]
theorem own_whole {w : World} {B g n : Nat} {xs : List Nat} (hb : B ≤ g) (hg : w.heap[g]? = some (.cells (u8s xs).toArray 5 (0, 0))) (hn : xs.length = n) (hm : n ≤ 140737488355328) : Own w B (.slice (some ⟨g, 0, none⟩) n n) xs := by
  subst hn
  unfold Own
  refine ⟨by simp, .inr ⟨g, xs.length, (u8s xs).toArray, rfl, hb, hg, Nat.le_refl _, by unfold maxLen; omega, by simp [u8s], ?_⟩⟩
  show (u8s xs).take (xs.length * 1) = u8s xs
  exact List.take_of_length_le (by rw [u8s_len]; omega)
/-- The cells of bytes that are read, as a copy asks for them. -/
theorem IsB.src {w : World} {A : Option Addr} {n c : Nat} {xs : List Nat} (h : IsB w (.slice A n c) xs) (h0 : 0 < (u8s xs).length) : ∃ ad, A = some ad ∧ ∀ j v, (u8s xs)[j]? = some v → w.cell? (ad.add j) = some v := by
  obtain ⟨b, off, rfl, hc⟩ := h.rd (by intro e; rw [e] at h0; simp [u8s] at h0)
  refine ⟨_, rfl, fun j v hv => ?_⟩
  have hj : j < xs.length := by
    rcases Nat.lt_or_ge j xs.length with h | h
    · exact h
    · simp [u8s, h] at hv
  have := hc j hj
  rw [add_off, this, ← hv]
  simp [u8s, hj]
theorem splice_u8s (L xs : List Nat) (off : Nat) : splice (u8s L) off (u8s xs) = u8s (splice L off xs) := by simp [splice, u8s]
theorem Try.one_u8 : (Try.prog.info? 5).map (·.size) = some 1 := by kernel_rfl
set_option maxHeartbeats 800000 in
theorem tail_any (A : Option Addr) (n c : Nat) (data : List Nat) (w : World) (hA : IsB w (.slice A n c) data) (hn : data.length = n) (hb : ∀ x ∈ data, x < 256) (h : n ≤ 65536) :
    Calls Try.prog 22 #[.slice A n c] w fun e w' => ∃ s, e = .returned s ∧ Own w' w.heap.size s (ndTail data) ∧ Below w.heap.size w w' := by
  obtain ⟨i0, hi, hz0, hz1, hz2⟩ := info_parts Try.info_u8'
  have hg := ndSize_ge n h
  obtain ⟨m, hm⟩ : ∃ m, m = ndSize n := ⟨_, rfl⟩
  rw [← hm] at hg
  have HM := hide hm
  obtain ⟨k, hk⟩ : ∃ k, k = m - 24 - n := ⟨_, rfl⟩
  have hkz : (m : Int) - 24 - (n : Int) = (k : Int) := by omega
  have HK := hide hk
  have h4 : 4 ≤ k ∧ k < 12 := by omega
  have HA := hide hA
  have HN := hide hn
  have HB := hide hb
  clear hA hn hb hm hk
  go_enter Try.func22, Try.ntmps22
  go_wp2_with fail
  refine (ndsize_any _ _ (by omega) (by omega)).mono ?_
  rintro e w1 ⟨rfl, rfl⟩
  rw [Int.toNat_natCast, ← HM.out]
  go_wp2_with (at_make; refine halt ?_)
  refine ⟨?_⟩
  refine wpList_make_full _ rfl (.tmp 10) (.tmp 10) 24 rfl w.heap.size 5 i0 (.int .u8 0) 1 Try.underlying24 hi hz0 hz1 .i64 .i64 k k k rfl rfl rfl rfl (by rw [hz2]; omega) (by unfold maxLen; omega) (Nat.le_refl _) ?_
  intro w2 h2 g2
  have o2 := made_bytesN h2
  have b2 : Below w.heap.size w w2 := (Below.refl _ _).grown g2 (Nat.le_refl _) (by simp)
  have O2 := hide o2
  have K2 := hide b2
  have I2 := hide (HA.out.keep b2)
  clear h2 g2 hi hz0 hz1 hz2 i0 o2 b2
  obtain ⟨g, hg⟩ : ∃ g, g = w.heap.size := ⟨_, rfl⟩
  rw [← hg] at O2 K2 ⊢
  have HG := hide hg
  clear hg
  go_wp2_with fail
  refine (sum_any A n c data _ I2.out.rd HN.out.symm HB.out (by omega)).mono ?_
  rintro e w3 ⟨rfl, rfl⟩
  obtain ⟨t, ht⟩ : ∃ t, t = sumS data := ⟨_, rfl⟩
  have hl : t < 4294967296 := by rw [ht]; unfold sumS; omega
  rw [← ht]
  have HT := hide ht
  clear ht
  go_wp2_with fail
  refine (put32_any _ t rfl _ hl).mono ?_
  rintro e w4 ⟨s4, rfl, o4, k4⟩
  obtain ⟨A4, c4, rfl, i4, l4, m4⟩ := o4.isB.form (n := 4) rfl
  have O3 := hide (O2.out.keep k4)
  have I4 := hide i4
  have K4 := hide (K2.out.trans (k4.mono (by rw [HG.out]; exact K2.out.size)))
  clear o4 i4 k4
  have HW := hide (O3.out.whole (List.length_replicate ..))
  go_wp2_with (with_reducible refine halt_copyN _ _ _ _ rfl ?_)
  refine ⟨?_⟩
  refine wpList_copy_splice rfl (.tmp 12) (.tmp 15) 24 24 rfl 5 Try.underlying24 Try.one_u8 _ _ k k 4 c4 rfl rfl g 0 (u8s (List.replicate k 0)) 5 HW.out.2 (u8s (be32 t)) (by rw [u8s_len, be32_len]; show (4 : Nat) = min 4 k; omega) (fun h => ⟨rfl, I4.out.src h⟩) (by rw [u8s_len, u8s_len, be32_len, List.length_replicate]; omega) (u8s_one _) g w K4.out HW.out.1 ?_
  intro w5 h5 k5
  have e5 : splice (List.replicate k 0) 0 (be32 t) = ndTail data := by
    unfold splice ndTail
    rw [be32_len, ← HT.out, HN.out, ← HM.out]
    simp
    omega
  rw [splice_u8s, e5] at h5
  have O5 := hide (own_whole (n := k) HW.out.1 h5.out (by rw [ndTail_len _ (by rw [HN.out]; exact h), HN.out, ← HM.out, ← HK.out]) (by omega))
  have K5 := hide k5
  clear h5 k5 e5
  go_wp2_with fail
  go_ret
  rw [← HG.out]
  exact ⟨_, rfl, O5.out, K5.out⟩
end Go.Proofs.Ytkgkhielfodmmaa
