/- The contracts of strip's blocksOf, heightOf, spotOf and noughts. Conditions: at most 2 to the 32 bytes, at most 1000 shards; noughts at most 1000000 bytes a shard. The contract of strip's noughts. Condition: at most 128 rows of at most 62500 blocks. The contract of strip's lay: a block, or the beginning of one, is laid into a shard. Condition: at least one byte. -/
import Derived.Test.YtehgjkckhjggbaaSp10
import Derived.Test.YtehgjkckhjggbaaSp14
namespace Go.Proofs.Ytehgjkckhjggbaa
open Go.RowKit
theorem blocks_any (n : Nat) (w : World) (hn : n ≤ 4294967296) : Calls Try.prog 62 #[.int .i64 (n : Int)] w fun e w' => e = .returned (.int .i64 (blks n : Nat)) ∧ w = w' := by
  have e : ((blks n : Nat) : Int) = ((n : Int) + 16 - 1) / 16 := by unfold blks; omega
  rw [e]
  clear e
  go_enter Try.func62, Try.ntmps62
  go_wp2
  go_ret
  exact ⟨rfl, rfl⟩
theorem height_any (n k : Nat) (w : World) (hn : n ≤ 4294967296) (hk : 1 ≤ k) (hk2 : k ≤ 1000) : Calls Try.prog 61 #[.int .i64 (n : Int), .int .i64 (k : Int)] w fun e w' => e = .returned (.int .i64 (hgt n k : Nat)) ∧ w = w' := by
  obtain ⟨B, hB⟩ : ∃ B, B = blks n := ⟨_, rfl⟩
  have hb2 : B ≤ 4294967296 := by rw [hB]; unfold blks; omega
  have e : ((hgt n k : Nat) : Int) = ((B : Int) + (k : Int) - 1) / (k : Int) := by
    unfold hgt
    rw [← hB, Int.natCast_ediv, show ((B + k - 1 : Nat) : Int) = (B : Int) + (k : Int) - 1 by omega]
  have HC := blocks_any n w hn
  rw [← hB] at HC
  have HC := hide HC
  have E := hide e
  clear e hB
  go_enter Try.func61, Try.ntmps61
  go_wp2_with fail
  refine HC.out.mono ?_
  rintro e w1 ⟨rfl, rfl⟩
  go_wp2_with fail
  rw [E.out]
  go_ret
  exact ⟨rfl, rfl⟩
theorem spot_any (j k : Nat) (w : World) (hj : j ≤ 4294967296) (hk : 1 ≤ k) (hk2 : k ≤ 1000) : Calls Try.prog 64 #[.int .i64 (j : Int), .int .i64 (k : Int)] w fun e w' => e = .returned (.agg #[.int .i64 ((j % k : Nat) : Int), .int .i64 ((j / k : Nat) : Int)]) ∧ Below w.heap.size w w' := by
  have e1 : ((j % k : Nat) : Int) = (j : Int) % (k : Int) := Int.natCast_emod _ _
  have e2 : ((j / k : Nat) : Int) = (j : Int) / (k : Int) := Int.natCast_ediv _ _
  rw [e1, e2]
  clear e1 e2
  go_enter Try.func64, Try.ntmps64
  have hk0 : ¬ (k : Int) = 0 := by omega
  have hk1 : ((k : Int) == 0) = false := by simp; omega
  have k1 := below_alloc w (.cells #[.int .i64 0, .int .i64 0] 119)
  have b1 := Blk.new w (B := 0) 119 #[.int .i64 0, .int .i64 0] (Nat.zero_le _)
  go_wp2_with fail
  obtain ⟨g, hg⟩ : ∃ g, g = w.heap.size := ⟨_, rfl⟩
  obtain ⟨Z, hZ⟩ : ∃ Z, Z = w.alloc (.cells #[.int .i64 0, .int .i64 0] 119) := ⟨_, rfl⟩
  rw [← hZ] at k1 b1 ⊢
  rw [← hg] at b1 k1 ⊢
  have q0 := b1.cell 0
  have q1 := b1.cell 1
  have f0 := b1.frozen 0
  have f1 := b1.frozen 1
  dsimp only [Array.toList, List.getElem?_cons_succ, List.getElem?_cons_zero] at q0 q1
  have HG := hide hg
  clear hZ hg
  go_region
  have hw : wrap64 ((j : Int) / (k : Int)) = (j : Int) / (k : Int) := by
    obtain ⟨D, hD⟩ : ∃ D, D = j / k := ⟨_, rfl⟩
    have hD2 : D ≤ j := by rw [hD]; exact Nat.div_le_self j k
    rw [← Int.natCast_ediv, ← hD]
    unfold wrap64
    omega
  rw [hw]
  obtain ⟨x, hx⟩ : ∃ x, x = (j : Int) % (k : Int) := ⟨_, rfl⟩
  obtain ⟨y, hy⟩ : ∃ y, y = (j : Int) / (k : Int) := ⟨_, rfl⟩
  rw [← hx, ← hy]
  have HX := hide hx
  have HY := hide hy
  clear hx hy hw
  have b2 := ((b1.stored 0 (.int .i64 x)).stored 1 (.int .i64 y)).drewN 1
  have k2 : Below g w (((Z.setCell ⟨g, 0, none⟩ (.int .i64 x)).setCell ⟨g, 1, none⟩ (.int .i64 y)).drewN 1) := below_drewN ((k1.setCell (p := ⟨g, 0, none⟩) (Nat.le_refl _) _).setCell (p := ⟨g, 1, none⟩) (Nat.le_refl _) _) 1
  change Exit.then _ _ _ _ (((Z.setCell ⟨g, 0, none⟩ (.int .i64 x)).setCell ⟨g, 1, none⟩ (.int .i64 y)).drewN 1)
  generalize ((Z.setCell ⟨g, 0, none⟩ (.int .i64 x)).setCell ⟨g, 1, none⟩ (.int .i64 y)).drewN 1 = Y at *
  have p0 := b2.cell 0
  have p1 := b2.cell 1
  dsimp only [List.set_cons_zero, List.set_cons_succ, Array.toList, List.getElem?_cons_succ, List.getElem?_cons_zero] at p0 p1
  clear q0 q1 f0 f1 b1 k1 b2
  go_wp2_with fail
  refine bodyPost_ret (v := .agg #[.int .i64 x, .int .i64 y]) (by simp [results, Try.results64, go_sem, p0, p1]) rfl ⟨by rw [HX.out, HY.out], by rw [← HG.out]; exact k2⟩
end Go.Proofs.Ytehgjkckhjggbaa
namespace Go.Proofs.Ytehgjkckhjggbaa
open Go.RowKit
set_option maxHeartbeats 1600000 in
theorem spnoughts_any (n h : Nat) (w : World) (h1 : n ≤ 128) (h2 : h ≤ 62500) :
    Calls Try.prog 60 #[.int .i64 (n : Int), .int .i64 (h : Int)] w fun e w' => ∃ g R, e = .returned (.slice (some ⟨g, 0, none⟩) n n) ∧ Grid w' w.heap.size g n (h * 16) R (fun _ _ => G.zero) ∧ Below w.heap.size w w' := by
  obtain ⟨m, hm⟩ : ∃ m, m = h * 16 := ⟨_, rfl⟩
  have hmz : (h : Int) * 16 = (m : Int) := by omega
  have hm2 : m ≤ 1000000 := by omega
  rw [← hm]
  clear hm
  obtain ⟨i0, hi, hz0, hz1, hz2⟩ := info_parts Try.info_rows
  obtain ⟨i1, hj, hy0, hy1, hy2⟩ := info_parts Try.info_u8'
  have HJ := hide (And.intro hj (And.intro hy0 (And.intro hy1 hy2)))
  clear hj hy0 hy1 hy2
  go_enter Try.func60, Try.ntmps60
  go_wp2_with (at_make; refine halt ?_)
  refine ⟨?_⟩
  refine wpList_make_full _ rfl (.tmp 7) (.tmp 7) 42 rfl w.heap.size 23 i0 (.slice none 0 0) 1 Try.underlying42 hi hz0 hz1 .i64 .i64 n n n rfl rfl rfl rfl (by rw [hz2]; omega) (by unfold maxLen; omega) (Nat.le_refl _) ?_
  intro w2 h2' g2
  have o2 := made_nils h2'
  have b2 : Below w.heap.size w w2 := (Below.refl _ _).grown g2 (Nat.le_refl _) (by simp)
  clear h2' g2 hi hz0 hz1 hz2 i0
  obtain ⟨g, hg⟩ : ∃ g, g = w.heap.size := ⟨_, rfl⟩
  rw [← hg] at o2 b2 ⊢
  have HG := hide hg
  have O2 := hide o2
  have B2 := hide b2
  clear hg o2 b2
  go_wp2_with fail
  go_loopw [11] (fun i wr => ∃ k : Nat, k ≤ n ∧ i = .int .i64 (k : Int) ∧ Hid (∃ R, Begun wr g g n m k R) ∧ Hid (Below g w wr)) (fun i _ => n - (intOf i).toNat)
  case atStart =>
    refine ⟨0, Nat.zero_le _, rfl, hide ⟨fun _ => 0, ⟨?_, fun i hi => absurd hi (Nat.not_lt_zero i), fun i j hi => absurd hi (Nat.not_lt_zero i)⟩⟩, hide B2.out⟩
    have e : ((List.range n).map fun i => if i < 0 then rowV 0 m else .slice none 0 0) = List.replicate n (.slice none 0 0) := by
      apply List.ext_getElem
      · simp
      · intro i h1 h2
        simp
    rw [e]
    exact O2.out
  case round =>
    obtain ⟨k, hk, rfl, hbeg, hbel⟩ := hrel
    by_cases hlt : k < n
    · obtain ⟨hj, hy0, hy1, hy2⟩ := HJ.out
      go_wp2_with (at_make; refine halt ?_)
      refine ⟨?_⟩
      refine wpList_make_full _ rfl (.tmp 17) (.tmp 17) 23 rfl wr.heap.size 5 i1 (.int .u8 0) 1 Try.underlying23 hj hy0 hy1 .i64 .i64 m m m rfl rfl rfl rfl (by rw [hy2]; omega) (by unfold maxLen; omega) (Nat.le_refl _) ?_
      intro w3 h3 g3
      clear hj hy0 hy1 hy2
      obtain ⟨R, hR⟩ := hbeg.out
      have hgs : g ≤ wr.heap.size := by rw [HG.out]; exact hbel.out.size
      have z3 := made_zeros h3 k
      have k3 : Below wr.heap.size wr w3 := (Below.refl _ _).grown g3 (Nat.le_refl _) (by simp)
      have nx := hR.next hlt (z3.more hgs) k3 (Nat.le_refl _)
      have f3 := (hR.outer.keep k3).frozen k
      have c3 : w3.cell? ⟨g, k, none⟩ = some (.slice none 0 0) := by
        rw [(hR.outer.keep k3).cell]
        simp [hlt]
      have NX := hide (show ∃ R, Begun (w3.setCell ⟨g, k, none⟩ (.slice (some ⟨wr.heap.size, 0, none⟩) m m)) g g n m (k + 1) R from ⟨_, nx⟩)
      have BL := hide (show Below g w (w3.setCell ⟨g, k, none⟩ (.slice (some ⟨wr.heap.size, 0, none⟩) m m)) from (hbel.out.trans (k3.mono hgs)).setCell (Nat.le_refl _) _)
      clear hgs h3 g3 z3 k3 nx hR hbeg hbel
      go_wp2_with fail
      go_roundw
      case rel => exact ⟨k + 1, by omega, by go_num, NX, BL⟩
      case measure => simp [intOf]; omega
    · obtain rfl : k = n := by omega
      go_wp2_with fail
      go_ret
      obtain ⟨R, hR⟩ := hbeg.out
      exact ⟨g, R, rfl, by rw [← HG.out]; exact hR.done, by rw [← HG.out]; exact hbel.out⟩
end Go.Proofs.Ytehgjkckhjggbaa
namespace Go.Proofs.Ytehgjkckhjggbaa
open Go.RowKit
set_option maxHeartbeats 1600000 in
theorem splay_any {w : World} {B g n m : Nat} {R : Nat → Nat} {f : Mat} (hg : Grid w B g n m R f) (i r : Nat) (hi : i < n) (A : Option Addr) (k c : Nat) (xs : List Nat) (hx : Rd w A xs) (hk : xs.length = k) (h0 : 1 ≤ k) (hkm : r * 16 + k ≤ m) (hm : m ≤ 1000000) (h8 : ∀ x ∈ xs, x < 256) :
    Calls Try.prog 63 #[.slice (some ⟨g, 0, none⟩) n n, .agg #[.int .i64 (i : Int), .int .i64 (r : Int)], .slice A k c] w fun e w' => e = .returned (.tuple #[]) ∧ Grid w' B g n m R (updAt f i (r * 16) k (fun j => G.of (xs.getD j 0))) ∧ (∀ a0, Below B a0 w → Below B a0 w') ∧ Turn (fun b => b = R i) w w' := by
  have kz := below_alloc w (.cells #[.int .i64 (i : Int), .int .i64 (r : Int)] 119)
  have bz := Blk.new w (B := 0) 119 #[.int .i64 (i : Int), .int .i64 (r : Int)] (Nat.zero_le _)
  obtain ⟨Z, hZ⟩ : ∃ Z, Z = w.alloc (.cells #[.int .i64 (i : Int), .int .i64 (r : Int)] 119) := ⟨_, rfl⟩
  obtain ⟨g0, hg0⟩ : ∃ g, g = w.heap.size := ⟨_, rfl⟩
  rw [← hZ, ← hg0] at bz
  rw [← hZ] at kz
  have q0 := bz.cell 0
  have q1 := bz.cell 1
  dsimp only [Array.toList, List.getElem?_cons_succ, List.getElem?_cons_zero] at q0 q1
  have GZ := hide (hg.keep kz)
  have KZ := hide kz
  have XZ := hide (hx.below kz)
  have c0 := GZ.out.cell i hi
  obtain ⟨off, hoff⟩ : ∃ off, off = r * 16 := ⟨_, rfl⟩
  have hoz : (r : Int) * 16 = (off : Int) := by omega
  rw [← hoff] at hkm ⊢
  have HK := hide hk
  have H8 := hide h8
  have h1 : (off : Int) ≤ (m : Int) := by omega
  have h2 : ¬ m = off := by omega
  have h3 : ¬ off = m := by omega
  have hii : (i : Int) < (n : Int) := by omega
  have HBW := hide (Nat.le_of_lt (Nat.lt_of_le_of_lt hg.outer.1 hg.outer.lt))
  have KD : Hid (Below w.heap.size w Z.drew) := hide (below_drewN kz 1)
  clear hg kz bz hx hoff hk h8
  go_enter Try.func63, Try.ntmps63
  go_wp2_with fail
  rw [← hZ, ← hg0]
  clear hZ hg0
  have HOM := hide hkm
  have hw : IntKind.i64.wrap (off : Int) = (off : Int) := by rw [IntKind.wrap_i64]; omega
  have hon : (off : Int).toNat = off := Int.toNat_natCast off
  go_region_law (refine step_copy_grid rfl (.tmp 14) (.tmp 15) rfl (GZ.out.drewN 1) i hi off _ _ A k c xs rfl rfl XZ.out HK.out h0 (by have := HOM.out; omega) HOM.out H8.out ?_; intro w5 g5 b5 t5)
  all_goals
    go_end0
    exact ⟨rfl, g5, fun a0 hb => b5 a0 (hb.trans (KD.out.mono HBW.out)), (Turn.of_below _ KD.out).trans t5⟩
end Go.Proofs.Ytehgjkckhjggbaa
