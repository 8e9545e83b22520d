/- Bytes are copied into a row of the call's own, from a place on. No condition. The contracts of strip's blocksOf, heightOf, spotOf and noughts. Conditions: at most 2 to the 32 bytes, at most 1000 shards; noughts at most 1000000 bytes a shard. The contract of strip's noughts. Condition: at most 128 rows of at most 62500 blocks. The contract of strip's lay: a block, or the beginning of one, is laid into a shard. Condition: at least one byte. -/
import Derived.Test.YtdbngchbhoanpaaSr8
import Derived.Test.YtdbngchbhoanpaaSr15
import Derived.Laws.CopyOwn
import Derived.Test.YtdbngchbhoanpaaSr9
namespace Go.Proofs.Ytdbngchbhoanpaa
open Go.RowKit
def updAt (f : Mat) (i off k : Nat) (h : Nat → G) : Mat := fun a b => if a = i ∧ off ≤ b ∧ b < off + k then h (b - off) else f a b
theorem Grid.setAt {w : World} {B g n m : Nat} {R : Nat → Nat} {f : Mat} (hg : Grid w B g n m R f) (i off k : Nat) (hi : i < n) (h : Nat → G) :
    Grid (w.setRow (R i) ((List.range m).map fun j => Value.int .u8 (((updAt f i off k h) i j).n : Int)).toArray) B g n m R (updAt f i off k h) := by
  obtain ⟨hb, cur, hh, hc⟩ := hg.row i hi
  have hgr : w.grownBy (w.setRow (R i) ((List.range m).map fun j => Value.int .u8 (((updAt f i off k h) i j).n : Int)).toArray) (some (R i)) :=
    ⟨rfl, rfl, rfl, by simp [World.setRow], fun k _ hk => setRow_other w (R i) k _ (fun e => hk (by rw [e]))⟩
  refine ⟨hg.outer.kept hgr (fun e => hg.ne i hi (by simpa using e)), fun a ha => ?_, hg.apart⟩
  by_cases e : a = i
  · subst e
    refine ⟨hb, _, setRow_heap w (R a) cur _ _ _ hh, ?_⟩
    unfold cellsG
    simp
  · rw [show cellsG (updAt f i off k h) a m = cellsG f a m from List.map_congr_left (fun b _ => by unfold updAt; rw [if_neg (fun q => e q.1)])]
    exact (hg.row a ha).kept hgr (fun q => e (hg.apart a i ha hi (by simpa using q.symm)))
theorem step_copy_grid {w : World} {ops : Array Oper} {o : Oper} {a : Act} {K : Act → World → Prop} {Q : Exit → Act → World → Prop} {E : Prop} (hgd : o.guard = none) (d s : Operand)
    (ho : o.op = .call { callee := .builtin .copy, args := #[d, s], argTypes := #[24, 24] })
    {B g n m : Nat} {R : Nat → Nat} {f : Mat} (hg : Grid w B g n m R f) (i : Nat) (hi : i < n) (off dl dc : Nat) (A : Option Addr) (k c : Nat) (xs : List Nat) (hd : a.eval d = .slice (some ⟨R i, off, none⟩) dl dc) (hs : a.eval s = .slice A k c)
    (hx : Rd w A xs) (hk : xs.length = k) (h0 : 1 ≤ k) (hkd : k ≤ dl) (hkm : off + k ≤ m) (h8 : ∀ x ∈ xs, x < 256)
    (h : ∀ w', Grid w' B g n m R (updAt f i off k (fun j => G.of (xs.getD j 0))) → (∀ a0, Below B a0 w → Below B a0 w') → Turn (fun b => b = R i) w w' → K (a.put o.dst (goInt k)) w') : if Region.wanted o (yielded ops a.tmps) = true then Oper.wp Try.prog o a w K Q else E := by
  have hw : Region.wanted o (yielded ops a.tmps) = true := by simp [Region.wanted, hgd]
  rw [if_pos hw]
  obtain ⟨i0, hi0, hz0, hz1, hz2⟩ := info_parts Try.info_u8'
  obtain ⟨hBr, cur, hh, hc⟩ := hg.row i hi
  obtain ⟨b, bo, rfl, hcell⟩ := hx (by intro e; rw [e] at hk; simp at hk; omega)
  have hsz : cur.size = m := by rw [← Array.length_toList, hc]; simp [cellsG]
  have hmin : (xs.map fun x : Nat => Value.int .u8 (x : Int)).length = Nat.min k dl := by rw [List.length_map, hk]; exact (Nat.min_eq_left hkd).symm
  have hsrc : ∀ j v, (xs.map fun x : Nat => Value.int .u8 (x : Int))[j]? = some v → w.cell? ((⟨b, bo, none⟩ : Addr).add j) = some v := by
    intro j v hv
    have hj : j < xs.length := by
      rcases Nat.lt_or_ge j xs.length with h | h
      · exact h
      · simp [h] at hv
    have := hcell j hj
    simp [hj] at hv
    subst hv
    simpa [add_off, hj] using this
  have hrun := run_copy_row (P := Try.prog) w 24 24 o.type 5 (R i) off dl dc ⟨b, bo, none⟩ k c cur 5 (xs.map fun x : Nat => Value.int .u8 (x : Int)) Try.underlying24 (by rw [hi0, Option.map_some, hz1]) hh hmin hsrc (by rw [List.length_map]; omega) (fun v hv => by obtain ⟨x, _, rfl⟩ := List.mem_map.1 hv; rfl)
  have hl : cur.toList.take off ++ ((xs.map fun x : Nat => Value.int .u8 (x : Int)) ++ cur.toList.drop (off + (xs.map fun x : Nat => Value.int .u8 (x : Int)).length)) = (List.range m).map fun j => Value.int .u8 (((updAt f i off k (fun j => G.of (xs.getD j 0))) i j).n : Int) := by
    rw [hc]
    apply List.ext_getElem
    · simp [cellsG, hk]; omega
    · intro j h1 h2
      have hjm : j < m := by simpa using h2
      simp only [List.getElem_map, List.getElem_range]
      by_cases e1 : j < off
      · rw [List.getElem_append_left (by simp [cellsG]; omega)]
        simp only [List.getElem_take, cellsG, List.getElem_map, List.getElem_range]
        unfold updAt
        rw [if_neg (by omega)]
      · rw [List.getElem_append_right (by simp [cellsG]; omega)]
        have hlt : ((cellsG f i m).take off).length = off := by simp [cellsG]; omega
        by_cases e2 : j < off + k
        · rw [List.getElem_append_left (by rw [List.length_map, hlt]; omega)]
          unfold updAt
          rw [if_pos ⟨rfl, by omega, e2⟩]
          simp only [List.getElem_map, hlt]
          rw [G.of_n (getD_lt h8 _)]
          have hj : j - off < xs.length := by omega
          simp [hj]
        · rw [List.getElem_append_right (by rw [List.length_map, hlt]; omega)]
          unfold updAt
          rw [if_neg (by omega)]
          simp only [hlt, List.length_map, List.getElem_drop]
          simp only [cellsG, List.getElem_map, List.getElem_range]
          rw [show off + xs.length + (j - off - xs.length) = j by omega]
  have hgr : w.grownBy (w.setRow (R i) ((List.range m).map fun j => Value.int .u8 (((updAt f i off k (fun j => G.of (xs.getD j 0))) i j).n : Int)).toArray) (some (R i)) :=
    ⟨rfl, rfl, rfl, by simp [World.setRow], fun k _ hk => setRow_other w (R i) k _ (fun e => hk (by rw [e]))⟩
  have hk' : ((xs.map fun x : Nat => Value.int .u8 (x : Int)).length : Int) = (k : Int) := by rw [List.length_map, hk]
  have hfin := h _ (hg.setAt i off k hi (fun j => G.of (xs.getD j 0))) (fun a0 hb => below_setRow hb hBr _) ((Turn.of_grown hgr).mono (S' := fun b => b = R i) (fun i e => Option.some.inj e))
  unfold Oper.wp
  simp [execOp, ho, resolve, invoke, builtin, hd, hs, hrun, Result.andThen]
  simp only [List.length_map, hk] at hl ⊢
  rw [hl]
  exact hfin
end Go.Proofs.Ytdbngchbhoanpaa
namespace Go.Proofs.Ytdbngchbhoanpaa
open Go.RowKit
theorem blocks_any (n : Nat) (w : World) (hn : n ≤ 4294967296) : Calls Try.prog 36 #[.int .i64 (n : Int)] w fun e w' => e = .returned (.int .i64 (blks n : Nat)) ∧ w = w' := by
  have e : ((blks n : Nat) : Int) = ((n : Int) + 16 - 1) / 16 := by unfold blks; omega
  rw [e]
  clear e
  go_enter Try.func36, Try.ntmps36
  go_wp2
  go_ret
  exact ⟨rfl, rfl⟩
theorem height_any (n k : Nat) (w : World) (hn : n ≤ 4294967296) (hk : 1 ≤ k) (hk2 : k ≤ 1000) : Calls Try.prog 35 #[.int .i64 (n : Int), .int .i64 (k : Int)] w fun e w' => e = .returned (.int .i64 (hgt n k : Nat)) ∧ w = w' := by
  obtain ⟨B, hB⟩ : ∃ B, B = blks n := ⟨_, rfl⟩
  have hb2 : B ≤ 4294967296 := by rw [hB]; unfold blks; omega
  have e : ((hgt n k : Nat) : Int) = ((B : Int) + (k : Int) - 1) / (k : Int) := by
    unfold hgt
    rw [← hB, Int.natCast_ediv, show ((B + k - 1 : Nat) : Int) = (B : Int) + (k : Int) - 1 by omega]
  have HC := blocks_any n w hn
  rw [← hB] at HC
  have HC := hide HC
  have E := hide e
  clear e hB
  go_enter Try.func35, Try.ntmps35
  go_wp2_with fail
  refine HC.out.mono ?_
  rintro e w1 ⟨rfl, rfl⟩
  go_wp2_with fail
  rw [E.out]
  go_ret
  exact ⟨rfl, rfl⟩
theorem spot_any (j k : Nat) (w : World) (hj : j ≤ 4294967296) (hk : 1 ≤ k) (hk2 : k ≤ 1000) : Calls Try.prog 38 #[.int .i64 (j : Int), .int .i64 (k : Int)] w fun e w' => e = .returned (.agg #[.int .i64 ((j % k : Nat) : Int), .int .i64 ((j / k : Nat) : Int)]) ∧ Below w.heap.size w w' := by
  have e1 : ((j % k : Nat) : Int) = (j : Int) % (k : Int) := Int.natCast_emod _ _
  have e2 : ((j / k : Nat) : Int) = (j : Int) / (k : Int) := Int.natCast_ediv _ _
  rw [e1, e2]
  clear e1 e2
  go_enter Try.func38, Try.ntmps38
  have hk0 : ¬ (k : Int) = 0 := by omega
  have hk1 : ((k : Int) == 0) = false := by simp; omega
  have k1 := below_alloc w (.cells #[.int .i64 0, .int .i64 0] 74)
  have b1 := Blk.new w (B := 0) 74 #[.int .i64 0, .int .i64 0] (Nat.zero_le _)
  go_wp2_with fail
  obtain ⟨g, hg⟩ : ∃ g, g = w.heap.size := ⟨_, rfl⟩
  obtain ⟨Z, hZ⟩ : ∃ Z, Z = w.alloc (.cells #[.int .i64 0, .int .i64 0] 74) := ⟨_, rfl⟩
  rw [← hZ] at k1 b1 ⊢
  rw [← hg] at b1 k1 ⊢
  have q0 := b1.cell 0
  have q1 := b1.cell 1
  have f0 := b1.frozen 0
  have f1 := b1.frozen 1
  dsimp only [Array.toList, List.getElem?_cons_succ, List.getElem?_cons_zero] at q0 q1
  have HG := hide hg
  clear hZ hg
  go_region
  have hw : wrap64 ((j : Int) / (k : Int)) = (j : Int) / (k : Int) := by
    obtain ⟨D, hD⟩ : ∃ D, D = j / k := ⟨_, rfl⟩
    have hD2 : D ≤ j := by rw [hD]; exact Nat.div_le_self j k
    rw [← Int.natCast_ediv, ← hD]
    unfold wrap64
    omega
  rw [hw]
  obtain ⟨x, hx⟩ : ∃ x, x = (j : Int) % (k : Int) := ⟨_, rfl⟩
  obtain ⟨y, hy⟩ : ∃ y, y = (j : Int) / (k : Int) := ⟨_, rfl⟩
  rw [← hx, ← hy]
  have HX := hide hx
  have HY := hide hy
  clear hx hy hw
  have b2 := ((b1.stored 0 (.int .i64 x)).stored 1 (.int .i64 y)).drewN 1
  have k2 : Below g w (((Z.setCell ⟨g, 0, none⟩ (.int .i64 x)).setCell ⟨g, 1, none⟩ (.int .i64 y)).drewN 1) := below_drewN ((k1.setCell (p := ⟨g, 0, none⟩) (Nat.le_refl _) _).setCell (p := ⟨g, 1, none⟩) (Nat.le_refl _) _) 1
  change Exit.then _ _ _ _ (((Z.setCell ⟨g, 0, none⟩ (.int .i64 x)).setCell ⟨g, 1, none⟩ (.int .i64 y)).drewN 1)
  generalize ((Z.setCell ⟨g, 0, none⟩ (.int .i64 x)).setCell ⟨g, 1, none⟩ (.int .i64 y)).drewN 1 = Y at *
  have p0 := b2.cell 0
  have p1 := b2.cell 1
  dsimp only [List.set_cons_zero, List.set_cons_succ, Array.toList, List.getElem?_cons_succ, List.getElem?_cons_zero] at p0 p1
  clear q0 q1 f0 f1 b1 k1 b2
  go_wp2_with fail
  refine bodyPost_ret (v := .agg #[.int .i64 x, .int .i64 y]) (by simp [results, Try.results38, go_sem, p0, p1]) rfl ⟨by rw [HX.out, HY.out], by rw [← HG.out]; exact k2⟩
end Go.Proofs.Ytdbngchbhoanpaa
namespace Go.Proofs.Ytdbngchbhoanpaa
open Go.RowKit
set_option maxHeartbeats 1600000 in
theorem spnoughts_any (n h : Nat) (w : World) (h1 : n ≤ 128) (h2 : h ≤ 62500) :
    Calls Try.prog 34 #[.int .i64 (n : Int), .int .i64 (h : Int)] w fun e w' => ∃ g R, e = .returned (.slice (some ⟨g, 0, none⟩) n n) ∧ Grid w' w.heap.size g n (h * 16) R (fun _ _ => G.zero) ∧ Below w.heap.size w w' := by
  obtain ⟨m, hm⟩ : ∃ m, m = h * 16 := ⟨_, rfl⟩
  have hmz : (h : Int) * 16 = (m : Int) := by omega
  have hm2 : m ≤ 1000000 := by omega
  rw [← hm]
  clear hm
  obtain ⟨i0, hi, hz0, hz1, hz2⟩ := info_parts Try.info_rows
  obtain ⟨i1, hj, hy0, hy1, hy2⟩ := info_parts Try.info_u8'
  have HJ := hide (And.intro hj (And.intro hy0 (And.intro hy1 hy2)))
  clear hj hy0 hy1 hy2
  go_enter Try.func34, Try.ntmps34
  go_wp2_with (at_make; refine halt ?_)
  refine ⟨?_⟩
  refine wpList_make_full _ rfl (.tmp 7) (.tmp 7) 50 rfl w.heap.size 24 i0 (.slice none 0 0) 1 Try.underlying50 hi hz0 hz1 .i64 .i64 n n n rfl rfl rfl rfl (by rw [hz2]; omega) (by unfold maxLen; omega) (Nat.le_refl _) ?_
  intro w2 h2' g2
  have o2 := made_nils h2'
  have b2 : Below w.heap.size w w2 := (Below.refl _ _).grown g2 (Nat.le_refl _) (by simp)
  clear h2' g2 hi hz0 hz1 hz2 i0
  obtain ⟨g, hg⟩ : ∃ g, g = w.heap.size := ⟨_, rfl⟩
  rw [← hg] at o2 b2 ⊢
  have HG := hide hg
  have O2 := hide o2
  have B2 := hide b2
  clear hg o2 b2
  go_wp2_with fail
  go_loopw [11] (fun i wr => ∃ k : Nat, k ≤ n ∧ i = .int .i64 (k : Int) ∧ Hid (∃ R, Begun wr g g n m k R) ∧ Hid (Below g w wr)) (fun i _ => n - (intOf i).toNat)
  case atStart =>
    refine ⟨0, Nat.zero_le _, rfl, hide ⟨fun _ => 0, ⟨?_, fun i hi => absurd hi (Nat.not_lt_zero i), fun i j hi => absurd hi (Nat.not_lt_zero i)⟩⟩, hide B2.out⟩
    have e : ((List.range n).map fun i => if i < 0 then rowV 0 m else .slice none 0 0) = List.replicate n (.slice none 0 0) := by
      apply List.ext_getElem
      · simp
      · intro i h1 h2
        simp
    rw [e]
    exact O2.out
  case round =>
    obtain ⟨k, hk, rfl, hbeg, hbel⟩ := hrel
    by_cases hlt : k < n
    · obtain ⟨hj, hy0, hy1, hy2⟩ := HJ.out
      go_wp2_with (at_make; refine halt ?_)
      refine ⟨?_⟩
      refine wpList_make_full _ rfl (.tmp 17) (.tmp 17) 24 rfl wr.heap.size 5 i1 (.int .u8 0) 1 Try.underlying24 hj hy0 hy1 .i64 .i64 m m m rfl rfl rfl rfl (by rw [hy2]; omega) (by unfold maxLen; omega) (Nat.le_refl _) ?_
      intro w3 h3 g3
      clear hj hy0 hy1 hy2
      obtain ⟨R, hR⟩ := hbeg.out
      have hgs : g ≤ wr.heap.size := by rw [HG.out]; exact hbel.out.size
      have z3 := made_zeros h3 k
      have k3 : Below wr.heap.size wr w3 := (Below.refl _ _).grown g3 (Nat.le_refl _) (by simp)
      have nx := hR.next hlt (z3.more hgs) k3 (Nat.le_refl _)
      have f3 := (hR.outer.keep k3).frozen k
      have c3 : w3.cell? ⟨g, k, none⟩ = some (.slice none 0 0) := by
        rw [(hR.outer.keep k3).cell]
        simp [hlt]
      have NX := hide (show ∃ R, Begun (w3.setCell ⟨g, k, none⟩ (.slice (some ⟨wr.heap.size, 0, none⟩) m m)) g g n m (k + 1) R from ⟨_, nx⟩)
      have BL := hide (show Below g w (w3.setCell ⟨g, k, none⟩ (.slice (some ⟨wr.heap.size, 0, none⟩) m m)) from (hbel.out.trans (k3.mono hgs)).setCell (Nat.le_refl _) _)
      clear hgs h3 g3 z3 k3 nx hR hbeg hbel
      go_wp2_with fail
      go_roundw
      case rel => exact ⟨k + 1, by omega, by go_num, NX, BL⟩
      case measure => simp [intOf]; omega
    · obtain rfl : k = n := by omega
      go_wp2_with fail
      go_ret
      obtain ⟨R, hR⟩ := hbeg.out
      exact ⟨g, R, rfl, by rw [← HG.out]; exact hR.done, by rw [← HG.out]; exact hbel.out⟩
end Go.Proofs.Ytdbngchbhoanpaa
namespace Go.Proofs.Ytdbngchbhoanpaa
open Go.RowKit
set_option maxHeartbeats 1600000 in
theorem splay_any {w : World} {B g n m : Nat} {R : Nat → Nat} {f : Mat} (hg : Grid w B g n m R f) (i r : Nat) (hi : i < n) (A : Option Addr) (k c : Nat) (xs : List Nat) (hx : Rd w A xs) (hk : xs.length = k) (h0 : 1 ≤ k) (hkm : r * 16 + k ≤ m) (hm : m ≤ 1000000) (h8 : ∀ x ∈ xs, x < 256) :
    Calls Try.prog 37 #[.slice (some ⟨g, 0, none⟩) n n, .agg #[.int .i64 (i : Int), .int .i64 (r : Int)], .slice A k c] w fun e w' => e = .returned (.tuple #[]) ∧ Grid w' B g n m R (updAt f i (r * 16) k (fun j => G.of (xs.getD j 0))) ∧ (∀ a0, Below B a0 w → Below B a0 w') ∧ Turn (fun b => b = R i) w w' := by
  have kz := below_alloc w (.cells #[.int .i64 (i : Int), .int .i64 (r : Int)] 74)
  have bz := Blk.new w (B := 0) 74 #[.int .i64 (i : Int), .int .i64 (r : Int)] (Nat.zero_le _)
  obtain ⟨Z, hZ⟩ : ∃ Z, Z = w.alloc (.cells #[.int .i64 (i : Int), .int .i64 (r : Int)] 74) := ⟨_, rfl⟩
  obtain ⟨g0, hg0⟩ : ∃ g, g = w.heap.size := ⟨_, rfl⟩
  rw [← hZ, ← hg0] at bz
  rw [← hZ] at kz
  have q0 := bz.cell 0
  have q1 := bz.cell 1
  dsimp only [Array.toList, List.getElem?_cons_succ, List.getElem?_cons_zero] at q0 q1
  have GZ := hide (hg.keep kz)
  have KZ := hide kz
  have XZ := hide (hx.below kz)
  have c0 := GZ.out.cell i hi
  obtain ⟨off, hoff⟩ : ∃ off, off = r * 16 := ⟨_, rfl⟩
  have hoz : (r : Int) * 16 = (off : Int) := by omega
  rw [← hoff] at hkm ⊢
  have HK := hide hk
  have H8 := hide h8
  have h1 : (off : Int) ≤ (m : Int) := by omega
  have h2 : ¬ m = off := by omega
  have h3 : ¬ off = m := by omega
  have hii : (i : Int) < (n : Int) := by omega
  have HBW := hide (Nat.le_of_lt (Nat.lt_of_le_of_lt hg.outer.1 hg.outer.lt))
  have KD : Hid (Below w.heap.size w Z.drew) := hide (below_drewN kz 1)
  clear hg kz bz hx hoff hk h8
  go_enter Try.func37, Try.ntmps37
  go_wp2_with fail
  rw [← hZ, ← hg0]
  clear hZ hg0
  have HOM := hide hkm
  have hw : IntKind.i64.wrap (off : Int) = (off : Int) := by rw [IntKind.wrap_i64]; omega
  have hon : (off : Int).toNat = off := Int.toNat_natCast off
  go_region_law (refine step_copy_grid rfl (.tmp 14) (.tmp 15) rfl (GZ.out.drewN 1) i hi off _ _ A k c xs rfl rfl XZ.out HK.out h0 (by have := HOM.out; omega) HOM.out H8.out ?_; intro w5 g5 b5 t5)
  all_goals
    go_end0
    exact ⟨rfl, g5, fun a0 hb => b5 a0 (hb.trans (KD.out.mono HBW.out)), (Turn.of_below _ KD.out).trans t5⟩
end Go.Proofs.Ytdbngchbhoanpaa
