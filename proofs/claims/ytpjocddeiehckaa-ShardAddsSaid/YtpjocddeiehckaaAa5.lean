/- The contract of the document's blend: a sum of rows, each times its number. Condition: at most 1000000 numbers in a row. What Sums answers, in words; the rows that fit. It names nothing of the program. What the project's shard is to answer, said of its calls (to be shown of what lands); the law's 'known' by it. Condition: at most 1500 rows of at most 1500 numbers. The contract of the document's Sums: the rows of sums, or refused. No condition but the widths. The walk of the law ShardSums: it returns true and writes nothing that was there, once the project's Sums answers as ShardC asks. Condition: the form's reach. Sums of rows that are added. It names nothing of the program. -/
import Derived.Test.YtpjocddeiehckaaAa4
import Derived.Test.YtpjocddeiehckaaAa3
import Derived.Test.YtpjocddeiehckaaAa2
import Derived.BigQuiet
namespace Go.Proofs.Ytpjocddeiehckaa
open Go.RowKit
def rowG (h : Nat → G) (n : Nat) : List Nat := (List.range n).map fun y => (h y).n
theorem rowG_len (h : Nat → G) (n : Nat) : (rowG h n).length = n := by simp [rowG]
theorem rowG_get (h : Nat → G) {n y : Nat} (hy : y < n) : (rowG h n).getD y 0 = (h y).n := by simp [rowG, hy]
theorem rowG_set (h : Nat → G) (n x : Nat) (z : G) : (rowG h n).set x z.n = rowG (fun y => if y = x then z else h y) n := by
  apply List.ext_getElem
  · simp [rowG]
  · intro i h1 h2
    rw [List.getElem_set]
    simp only [rowG, List.getElem_map, List.getElem_range]
    by_cases e : x = i
    · subst e; rw [if_pos rfl, if_pos rfl]
    · rw [if_neg e, if_neg (fun q => e q.symm)]
theorem rowG_congr {h h' : Nat → G} {n : Nat} (e : ∀ y, y < n → h y = h' y) : rowG h n = rowG h' n := List.map_congr_left (fun y hy => by rw [e y (List.mem_range.1 hy)])
/-- The sum of the first j rows, each times its number. -/
def blendG (c : List Nat) (W : ML) (j : Nat) : Nat → G := fun x => gs j (fun t => G.of (c.getD t 0) * en W t x)
theorem blendG_step (c : List Nat) (W : ML) (j x : Nat) : blendG c W (j + 1) x = blendG c W j x + G.of (c.getD j 0) * en W j x := rfl
theorem rowG_zero (c : List Nat) (W : ML) (n : Nat) : List.replicate n 0 = rowG (blendG c W 0) n := by
  apply List.ext_getElem
  · simp [rowG]
  · intro i h1 h2
    simp only [List.getElem_replicate, rowG, List.getElem_map, List.getElem_range]
    rfl
set_option maxHeartbeats 3200000 in
set_option maxRecDepth 100000 in
theorem rblend_any (C A : Option Addr) (nc cc k n ca : Nat) (c : List Nat) (W : ML) (w : World) (hC : Rd w C c) (hc : c.length = nc) (hc8 : ∀ x ∈ c, x < 256) (hA : IsM w A W) (hs : Shape W k n) (hk : 1 ≤ k) (hkc : k ≤ nc) (h3 : n ≤ 1000000) (_hcc : nc ≤ 9223372036854775807) (_hk6 : k ≤ 1000000) :
    Calls Try.prog 15 #[.slice C nc cc, .slice A k ca] w fun e w' => ∃ g, e = .returned (.slice (some ⟨g, 0, none⟩) n n) ∧ Own w' w.heap.size (.slice (some ⟨g, 0, none⟩) n n) (rowG (blendG c W k) n) ∧ Below w.heap.size w w' := by
  obtain ⟨i0, hi, hz0, hz1, hz2⟩ := info_parts Try.info_u8'
  have HC := hide hC
  have HCL := hide (And.intro hc hc8)
  have HA := hide hA
  have HS := hide hs
  obtain ⟨b2, off2, A2, c2, rfl, cr0, -, l2, m2⟩ := hA.at_ 0 (by rw [hs.high]; omega)
  rw [hs.len_at 0 (by omega)] at cr0 l2
  have cr00 : w.cell? ⟨b2, off2, none⟩ = some (.slice A2 n c2) := cr0
  have hk0 : 0 < (k : Int) := by omega
  clear hC hc hc8 hA hs cr0
  go_enter Try.func15, Try.ntmps15
  go_wp2_with (at_make; refine halt ?_)
  refine ⟨?_⟩
  refine wpList_make_full _ rfl (.tmp 11) (.tmp 11) 32 rfl w.heap.size 5 i0 (.int .u8 0) 1 Try.underlying32 hi hz0 hz1 .i64 .i64 n n n rfl rfl rfl rfl (by rw [hz2]; omega) (by unfold maxLen; omega) (Nat.le_refl _) ?_
  intro w2 h2 g2
  have o2 := made_bytes h2
  rw [rowG_zero c W n] at o2
  have k2 : Below w.heap.size w w2 := (Below.refl _ _).grown g2 (Nat.le_refl _) (by simp)
  clear h2 g2 hi hz0 hz1 hz2 i0
  obtain ⟨g, hg⟩ : ∃ g, g = w.heap.size := ⟨_, rfl⟩
  rw [← hg] at o2 k2 ⊢
  have HG := hide hg
  have O2 := hide o2
  have K2 := hide k2
  clear hg o2 k2
  go_wp2_with fail
  go_loopw [6] (fun i wr => ∃ j : Nat, j ≤ k ∧ i = .int .i64 (j : Int) ∧ Hid (Own wr g (.slice (some ⟨g, 0, none⟩) n n) (rowG (blendG c W j) n)) ∧ Hid (Below g w wr)) (fun i _ => k - (intOf i).toNat)
  case atStart => exact ⟨0, Nat.zero_le _, rfl, O2, K2⟩
  case round =>
    obtain ⟨j, hj, rfl, hown, hbel⟩ := hrel
    by_cases hlt : j < k
    · obtain ⟨b4, off4, A3, c3, e4, cj0, ij, l3, m3⟩ := HA.out.at_ j (by rw [HS.out.high]; exact hlt)
      cases e4
      have hrow := HS.out.row hlt
      rw [hrow.1] at cj0 l3 ij
      obtain ⟨bc, offc, rfl, cq0, hq⟩ := at_place HC.out HCL.out.1 HCL.out.2 j (by omega)
      have HIJ := hide ij
      have HRW := hide hrow
      have HCJ := hide cj0
      have HCQ := hide cq0
      obtain ⟨q, hqe⟩ : ∃ q, q = c.getD j 0 := ⟨_, rfl⟩
      rw [← hqe] at HCQ hq
      have HQE := hide hqe
      have hjc : (j : Int) < (nc : Int) := by omega
      clear ij hrow cj0 cq0 hqe
      go_wp2_with fail
      go_loopw [7] (fun i w3 => ∃ x : Nat, x ≤ n ∧ i = .int .i64 (x : Int) ∧ Hid (∃ h, Own w3 g (.slice (some ⟨g, 0, none⟩) n n) (rowG h n) ∧ ∀ y, y < n → h y = if y < x then blendG c W (j + 1) y else blendG c W j y) ∧ Hid (Below g w w3)) (fun i _ => n - (intOf i).toNat)
      case atStart => exact ⟨0, Nat.zero_le _, rfl, hide ⟨_, hown.out, fun y _ => (if_neg (Nat.not_lt_zero y)).symm⟩, hbel⟩
      case round =>
        obtain ⟨x, hx, rfl, hh, hbel3⟩ := hrel
        by_cases hltx : x < n
        · obtain ⟨h, oh, eh⟩ := hh.out
          have kw : Below w.heap.size w wr := by rw [← HG.out]; exact hbel3.out
          obtain ⟨b3, off3, rfl, cp0, hp⟩ := at_place (HIJ.out.keep kw).rd HRW.out.1 HRW.out.2 x hltx
          have cs := oh.cells_ (rowG_len h n) x
          have co := cs.1 hltx
          rw [rowG_get h hltx] at co
          have fo := cs.2
          have cj := (kw.cell (cell_lt HCJ.out)).trans HCJ.out
          have cq := (kw.cell (cell_lt HCQ.out)).trans HCQ.out
          obtain ⟨p, hpe⟩ : ∃ p, p = (W.getD j []).getD x 0 := ⟨_, rfl⟩
          rw [← hpe] at cp0 hp
          have hx8 := (h x).lt
          have hm8 := gmul_lt p hq
          have hxo := u8_xor_nat (h x).n (gmul q p) hx8 hm8
          have hz : (h x + G.of q * G.of p).n = (h x).n ^^^ gmul q p := by rw [G.add_n, G.mul_n, G.of_n hq, G.of_n hp]
          have st := oh.stored' (rowG_len h n) x (h x + G.of q * G.of p).n
          rw [rowG_set] at st
          have NX : Hid (∃ h', Own (wr.setCell ⟨g, x, none⟩ (.int .u8 (((h x + G.of q * G.of p).n : Nat) : Int))) g (.slice (some ⟨g, 0, none⟩) n n) (rowG h' n) ∧ ∀ y, y < n → h' y = if y < x + 1 then blendG c W (j + 1) y else blendG c W j y) := by
            refine ⟨_, st, fun y hy => ?_⟩
            by_cases e : y = x
            · subst e
              rw [if_pos rfl, if_pos (by omega), blendG_step, eh y hy, if_neg (by omega), ← HQE.out]
              have : en W j y = G.of p := by unfold en; rw [hpe]
              rw [this]
            · rw [if_neg e, eh y hy]
              by_cases e2 : y < x
              · rw [if_pos e2, if_pos (by omega)]
              · rw [if_neg e2, if_neg (by omega)]
          have BL := hide (show Below g w (wr.setCell ⟨g, x, none⟩ (.int .u8 (((h x + G.of q * G.of p).n : Nat) : Int))) from hbel3.out.setCell (Nat.le_refl _) _)
          rw [hz] at NX BL
          obtain ⟨o, ho⟩ : ∃ o, o = (h x).n := ⟨_, rfl⟩
          rw [← ho] at NX BL co hxo
          obtain ⟨u, hu⟩ : ∃ u, u = gmul q p := ⟨_, rfl⟩
          have HM := hide (fun w' => rmul_any q p w' hq hp)
          rw [← hu] at NX BL HM hxo
          obtain ⟨z, hzz⟩ : ∃ z, z = o ^^^ u := ⟨_, rfl⟩
          rw [← hzz] at NX BL hxo
          have gl : g < wr.heap.size := cell_lt co
          clear st hz hzz hx8 hm8 cs oh eh hh hbel3 hpe ho hu hown hbel
          go_wp2_with fail
          refine Ways.start (fun W' => W'.cell? ⟨b3, off3 + x, none⟩ = some (.int .u8 (p : Int)) ∧ W'.cell? ⟨b2, off2 + j, none⟩ = some (.slice (some ⟨b3, off3, none⟩) n c3) ∧ W'.cell? ⟨bc, offc + j, none⟩ = some (.int .u8 (q : Int)) ∧ W'.cell? ⟨g, x, none⟩ = some (.int .u8 (o : Int))) 20 21 #[false, false, false, false, false, false, false, false, false, false, false, false, false, false, false, false, false, false, false, false, false] (by kernel_rfl) (by kernel_rfl) (by kernel_rfl) ?_
          have hHeld : wr.drew.cell? ⟨b3, off3 + x, none⟩ = some (.int .u8 (p : Int)) ∧ wr.drew.cell? ⟨b2, off2 + j, none⟩ = some (.slice (some ⟨b3, off3, none⟩) n c3) ∧ wr.drew.cell? ⟨bc, offc + j, none⟩ = some (.int .u8 (q : Int)) ∧ wr.drew.cell? ⟨g, x, none⟩ = some (.int .u8 (o : Int)) := ⟨cp0, cj, cq, co⟩
          refine' Ways.take (i := 0) (oi := ⟨_, _, _, _, _, _⟩) (v := _) rfl (by kernel_rfl) (by kernel_rfl) (by kernel_rfl) (by kernel_rfl) (fun _ _ _ h => h) hHeld (Or.inl ⟨rfl, ?_⟩) ?_
          rotate_left
          · (intro W hW; (try dsimp only at hW); go_simp; (try with_reducible rfl))
          try simp only [Act.put, List.setIfInBounds_toArray, List.set_cons_zero, List.set_cons_succ]
          refine' Ways.take (i := 1) (oi := ⟨_, _, _, _, _, _⟩) (v := _) rfl (by kernel_rfl) (by kernel_rfl) (by kernel_rfl) (by kernel_rfl) (fun _ _ _ h => h) hHeld (Or.inl ⟨rfl, ?_⟩) ?_
          rotate_left
          · (intro W hW; (try dsimp only at hW); go_simp; (try with_reducible rfl))
          try simp only [Act.put, List.setIfInBounds_toArray, List.set_cons_zero, List.set_cons_succ]
          refine' Ways.take (i := 2) (oi := ⟨_, _, _, _, _, _⟩) (v := _) rfl (by kernel_rfl) (by kernel_rfl) (by kernel_rfl) (by kernel_rfl) (fun _ _ _ h => h) hHeld (Or.inl ⟨rfl, ?_⟩) ?_
          rotate_left
          · (intro W hW; (try dsimp only at hW); go_simp; (try with_reducible rfl))
          try simp only [Act.put, List.setIfInBounds_toArray, List.set_cons_zero, List.set_cons_succ]
          refine' Ways.take (i := 3) (oi := ⟨_, _, _, _, _, _⟩) (v := _) rfl (by kernel_rfl) (by kernel_rfl) (by kernel_rfl) (by kernel_rfl) (fun _ _ _ h => h) hHeld (Or.inl ⟨rfl, ?_⟩) ?_
          rotate_left
          · (intro W hW; (try dsimp only at hW); go_simp; (try with_reducible rfl))
          try simp only [Act.put, List.setIfInBounds_toArray, List.set_cons_zero, List.set_cons_succ]
          refine' Ways.take (i := 4) (oi := ⟨_, _, _, _, _, _⟩) (v := _) rfl (by kernel_rfl) (by kernel_rfl) (by kernel_rfl) (by kernel_rfl) (fun _ _ _ h => h) hHeld (Or.inl ⟨rfl, ?_⟩) ?_
          rotate_left
          · (intro W hW; (try dsimp only at hW); go_simp; (try with_reducible rfl))
          try simp only [Act.put, List.setIfInBounds_toArray, List.set_cons_zero, List.set_cons_succ]
          refine' Ways.take (i := 5) (oi := ⟨_, _, _, _, _, _⟩) (v := _) rfl (by kernel_rfl) (by kernel_rfl) (by kernel_rfl) (by kernel_rfl) (fun _ _ _ h => h) hHeld (Or.inl ⟨rfl, ?_⟩) ?_
          rotate_left
          · (intro W hW; (try dsimp only at hW); go_simp; (try with_reducible rfl))
          try simp only [Act.put, List.setIfInBounds_toArray, List.set_cons_zero, List.set_cons_succ]
          refine' Ways.take (i := 6) (oi := ⟨_, _, _, _, _, _⟩) (v := _) rfl (by kernel_rfl) (by kernel_rfl) (by kernel_rfl) (by kernel_rfl) (fun _ _ _ h => h) hHeld (Or.inl ⟨rfl, ?_⟩) ?_
          rotate_left
          · (intro W hW; (try dsimp only at hW); go_simp; (try with_reducible rfl))
          try simp only [Act.put, List.setIfInBounds_toArray, List.set_cons_zero, List.set_cons_succ]
          refine' Ways.take (i := 7) (oi := ⟨_, _, _, _, _, _⟩) (v := _) rfl (by kernel_rfl) (by kernel_rfl) (by kernel_rfl) (by kernel_rfl) (fun _ _ _ h => h) hHeld (Or.inl ⟨rfl, ?_⟩) ?_
          rotate_left
          · (intro W hW; (try dsimp only at hW); go_simp; (try with_reducible rfl))
          try simp only [Act.put, List.setIfInBounds_toArray, List.set_cons_zero, List.set_cons_succ]
          refine' Ways.take (i := 8) (oi := ⟨_, _, _, _, _, _⟩) (v := _) rfl (by kernel_rfl) (by kernel_rfl) (by kernel_rfl) (by kernel_rfl) (fun _ _ _ h => h) hHeld (Or.inl ⟨rfl, ?_⟩) ?_
          rotate_left
          · (intro W hW; (try dsimp only at hW); go_simp; (try with_reducible rfl))
          try simp only [Act.put, List.setIfInBounds_toArray, List.set_cons_zero, List.set_cons_succ]
          refine' Ways.take (i := 9) (oi := ⟨_, _, _, _, _, _⟩) (v := _) rfl (by kernel_rfl) (by kernel_rfl) (by kernel_rfl) (by kernel_rfl) (fun _ _ _ h => h) hHeld (Or.inl ⟨rfl, ?_⟩) ?_
          rotate_left
          · (intro W hW; (try dsimp only at hW); go_simp; (try with_reducible rfl))
          try simp only [Act.put, List.setIfInBounds_toArray, List.set_cons_zero, List.set_cons_succ]
          refine' Ways.take (i := 10) (oi := ⟨_, _, _, _, _, _⟩) (v := _) rfl (by kernel_rfl) (by kernel_rfl) (by kernel_rfl) (by kernel_rfl) (fun _ _ _ h => h) hHeld (Or.inl ⟨rfl, ?_⟩) ?_
          rotate_left
          · (intro W hW; (try dsimp only at hW); go_simp; (try with_reducible rfl))
          try simp only [Act.put, List.setIfInBounds_toArray, List.set_cons_zero, List.set_cons_succ]
          refine' Ways.take (i := 11) (oi := ⟨_, _, _, _, _, _⟩) (v := _) rfl (by kernel_rfl) (by kernel_rfl) (by kernel_rfl) (by kernel_rfl) (fun _ _ _ h => h) hHeld (Or.inl ⟨rfl, ?_⟩) ?_
          rotate_left
          · (intro W hW; (try dsimp only at hW); go_simp; (try with_reducible rfl))
          try simp only [Act.put, List.setIfInBounds_toArray, List.set_cons_zero, List.set_cons_succ]
          refine' Ways.take (i := 12) (oi := ⟨_, _, _, _, _, _⟩) (v := _) rfl (by kernel_rfl) (by kernel_rfl) (by kernel_rfl) (by kernel_rfl) (fun _ _ _ h => h) hHeld (Or.inl ⟨rfl, ?_⟩) ?_
          rotate_left
          · (intro W hW; (try dsimp only at hW); go_simp; (try with_reducible rfl))
          try simp only [Act.put, List.setIfInBounds_toArray, List.set_cons_zero, List.set_cons_succ]
          refine' Ways.take (i := 13) (oi := ⟨_, _, _, _, _, _⟩) (v := _) rfl (by kernel_rfl) (by kernel_rfl) (by kernel_rfl) (by kernel_rfl) (fun _ _ _ h => h) hHeld (Or.inl ⟨rfl, ?_⟩) ?_
          rotate_left
          · (intro W hW; (try dsimp only at hW); go_simp; (try with_reducible rfl))
          try simp only [Act.put, List.setIfInBounds_toArray, List.set_cons_zero, List.set_cons_succ]
          refine' Ways.take (i := 14) (oi := ⟨_, _, _, _, _, _⟩) (v := _) rfl (by kernel_rfl) (by kernel_rfl) (by kernel_rfl) (by kernel_rfl) (fun _ _ _ h => h) hHeld (Or.inl ⟨rfl, ?_⟩) ?_
          rotate_left
          · (intro W hW; (try dsimp only at hW); go_simp; (try with_reducible rfl))
          try simp only [Act.put, List.setIfInBounds_toArray, List.set_cons_zero, List.set_cons_succ]
          refine' Ways.take (i := 15) (oi := ⟨_, _, _, _, _, _⟩) (v := _) rfl (by kernel_rfl) (by kernel_rfl) (by kernel_rfl) (by kernel_rfl) (fun _ _ _ h => h) hHeld (Or.inl ⟨rfl, ?_⟩) ?_
          rotate_left
          · (intro W hW; (try dsimp only at hW); go_simp; (try with_reducible rfl))
          try simp only [Act.put, List.setIfInBounds_toArray, List.set_cons_zero, List.set_cons_succ]
          refine' Ways.take (i := 16) (oi := ⟨_, _, _, _, _, _⟩) (v := _) rfl (by kernel_rfl) (by kernel_rfl) (by kernel_rfl) (by kernel_rfl) (fun _ _ _ h => h) hHeld (Or.inl ⟨rfl, ?_⟩) ?_
          rotate_left
          · (intro W hW; (try dsimp only at hW); go_simp; (try with_reducible rfl))
          try simp only [Act.put, List.setIfInBounds_toArray, List.set_cons_zero, List.set_cons_succ]
          refine Ways.one (i := 17) (by kernel_rfl) rfl (fun K hK => ?_)
          go_simp
          go_at_call 24
          refine (HM.out wr.drew).mono ?_
          rintro e w9 ⟨rfl, rfl⟩
          refine hK.out _ _ hHeld ?_
          clear hK
          try simp only [List.setIfInBounds_toArray, List.set_cons_zero, List.set_cons_succ]
          refine' Ways.take (i := 18) (oi := ⟨_, _, _, _, _, _⟩) (v := _) rfl (by kernel_rfl) (by kernel_rfl) (by kernel_rfl) (by kernel_rfl) (fun _ _ _ h => h) hHeld (Or.inl ⟨rfl, ?_⟩) ?_
          rotate_left
          · (intro W hW; (try dsimp only at hW); go_simp; (try with_reducible rfl))
          try simp only [Act.put, List.setIfInBounds_toArray, List.set_cons_zero, List.set_cons_succ]
          refine' Ways.take (i := 19) (oi := ⟨_, _, _, _, _, _⟩) (v := _) rfl (by kernel_rfl) (by kernel_rfl) (by kernel_rfl) (by kernel_rfl) (fun _ _ _ h => h) hHeld (Or.inl ⟨rfl, ?_⟩) ?_
          rotate_left
          · (intro W hW; (try dsimp only at hW); go_simp; (try with_reducible rfl))
          try simp only [Act.put, List.setIfInBounds_toArray, List.set_cons_zero, List.set_cons_succ]
          refine Ways.last (by kernel_rfl) rfl (by kernel_rfl) (fun K hK => ?_)
          go_simp
          refine hK.out _ _ ?_
          clear hK hHeld
          obtain ⟨W9, hW9⟩ : ∃ W9, W9 = (wr.setCell ⟨g, x, none⟩ (.int .u8 (z : Int))).drew := ⟨_, rfl⟩
          have NX9 : Hid (∃ h', Own W9 g (.slice (some ⟨g, 0, none⟩) n n) (rowG h' n) ∧ ∀ y, y < n → h' y = if y < x + 1 then blendG c W (j + 1) y else blendG c W j y) := by rw [hW9]; exact NX.out
          have BL9 : Hid (Below g w W9) := by rw [hW9]; exact below_drewN BL.out 1
          rw [← hW9]
          clear hW9 NX BL
          go_wp2_with fail
          go_roundw
          case rel => exact ⟨x + 1, by omega, by go_num, NX9, BL9⟩
          case measure => simp [intOf]; omega
        · obtain rfl : x = n := by omega
          go_wp2_with fail
          go_roundw
          case rel =>
            obtain ⟨h, oh, eh⟩ := hh.out
            refine ⟨j + 1, by omega, by go_num, hide ?_, hbel3⟩
            rwa [show rowG h x = rowG (blendG c W (j + 1)) x from rowG_congr (fun y hy => by rw [eh y hy, if_pos hy])] at oh
          case measure => simp [intOf]; omega
    · obtain rfl : j = k := by omega
      go_wp2_with fail
      go_ret
      exact ⟨g, rfl, hown.out.more (Nat.le_of_eq HG.out.symm), by rw [← HG.out]; exact hbel.out⟩
end Go.Proofs.Ytpjocddeiehckaa
namespace Go.Proofs.Ytpjocddeiehckaa
open Go.RowKit
theorem word_row {a b n l : Nat} (X : Mat) (hl : l < a + b) {W : ML} (hW : ∀ t, t < a → ∀ y, y < n → en W t y = X t y) : rowG (blendG ((codeL a b).getD l []) W a) n = (wordL a b n X).getD l [] := by
  unfold wordL
  rw [laid_row _ hl]
  unfold rowG
  refine List.map_congr_left (fun y hy => ?_)
  congr 1
  refine gs_congr (fun t ht => ?_)
  have : G.of (((codeL a b).getD l []).getD t 0) = codeRow a l t := laid_at (n := a + b) (m := a) (codeRow a) hl ht
  rw [this, hW t ht y (List.mem_range.1 hy)]
/-- What Sums refuses. -/
def sumsBad (D : ML) (m : Int) : Prop := D.length < 1 ∨ m < 0 ∨ 14 < (D.length : Int) + m ∨ ∃ r ∈ D, r = [] ∨ r.length ≠ (D.getD 0 []).length
/-- What Sums answers. -/
def sumsAns (D : ML) (m : Int) (L : ML) (e : Int) : Prop :=
  (e = 1 ∧ L = [] ∧ sumsBad D m) ∨ (e = 0 ∧ ¬ sumsBad D m ∧ L = (wordL D.length m.toNat (D.getD 0 []).length (en D)).drop D.length)
theorem sums_once {D : ML} {m : Int} {L L' : ML} {e e' : Int} (h : sumsAns D m L e) (k : sumsAns D m L' e') : L = L' ∧ e = e' := by
  rcases h with ⟨rfl, rfl, h⟩ | ⟨rfl, h, rfl⟩
  · rcases k with ⟨rfl, rfl, _⟩ | ⟨_, k, _⟩
    · exact ⟨rfl, rfl⟩
    · exact absurd h k
  · rcases k with ⟨_, _, k⟩ | ⟨rfl, _, rfl⟩
    · exact absurd k h
    · exact ⟨rfl, rfl⟩
theorem sums_fit {D : ML} {m : Int} (h : ¬ sumsBad D m) (hb : ∀ r ∈ D, ∀ x ∈ r, x < 256) : ∃ b : Nat, m = (b : Int) ∧ 1 ≤ D.length ∧ D.length + b ≤ 14 ∧ 1 ≤ (D.getD 0 []).length ∧ Shape D D.length (D.getD 0 []).length := by
  have h1 : ¬ D.length < 1 := fun q => h (.inl q)
  have h2 : ¬ m < 0 := fun q => h (.inr (.inl q))
  have h3 : ¬ 14 < (D.length : Int) + m := fun q => h (.inr (.inr (.inl q)))
  have h4 : ∀ r ∈ D, r ≠ [] ∧ r.length = (D.getD 0 []).length := fun r hr => by
    refine ⟨fun q => h (.inr (.inr (.inr ⟨r, hr, .inl q⟩))), ?_⟩
    rcases Decidable.em (r.length = (D.getD 0 []).length) with e | e
    · exact e
    · exact absurd (.inr (.inr (.inr ⟨r, hr, .inr e⟩))) h
  refine ⟨m.toNat, by omega, by omega, by omega, ?_, rfl, fun r hr => (h4 r hr).2, hb⟩
  have := (h4 _ (mem_getD (xss := D) (k := 0) (by omega))).1
  have := List.length_pos_iff.2 this
  omega
/-- What Sums answers, with the data before it. -/
theorem sums_all {D L : ML} {m : Int} (h : sumsAns D m L 0) (hb : ∀ r ∈ D, ∀ x ∈ r, x < 256) : ∃ b n : Nat, m = (b : Int) ∧ 1 ≤ D.length ∧ D.length + b ≤ 14 ∧ 1 ≤ n ∧ n = (D.getD 0 []).length ∧ L.length = b ∧ D ++ L = wordL D.length b n (en D) := by
  rcases h with ⟨h, _⟩ | ⟨_, h, rfl⟩
  · cases h
  · obtain ⟨b, rfl, h1, h2, h3, h4⟩ := sums_fit h hb
    refine ⟨b, _, rfl, h1, h2, h3, rfl, ?_, ?_⟩
    · rw [List.length_drop, wordL_len, Int.toNat_natCast]; omega
    · rw [Int.toNat_natCast]
      have e := wordL_low (m := b) h4
      conv => lhs; lhs; rw [← e]
      rw [List.take_append_drop]
end Go.Proofs.Ytpjocddeiehckaa
namespace Go.Proofs.Ytpjocddeiehckaa
open Go.RowKit
/-- Rows that come in small. -/
def SmallM (w : World) (A : Option Addr) (n : Nat) (W : ML) : Prop := IsM w A W ∧ W.length = n ∧ n ≤ 1500 ∧ (∀ r ∈ W, ∀ x ∈ r, x < 256) ∧ ∀ r ∈ W, r.length ≤ 1500
/-- A list of rows that is handed back. -/
def OutM (w : World) (v : Value) (L : ML) : Prop := ∃ A n c, v = .slice A n c ∧ L.length = n ∧ IsM w A L ∧ (A = none → c = 0) ∧ n ≤ 9223372036854775807
def I64 (z : Int) : Prop := -9223372036854775808 ≤ z ∧ z ≤ 9223372036854775807
def SumsC : Prop := ∀ (A : Option Addr) (n c : Nat) (m : Int) (D : ML) (w : World), SmallM w A n D → I64 m →
  Calls Try.prog 6 #[.slice A n c, .int .i64 m] w fun e w' => ∃ v L E, e = .returned (.tuple #[v, .int .i64 E]) ∧ OutM w' v L ∧ sumsAns D m L E ∧ Below w.heap.size w w'
theorem SmallM.below {w w' : World} {A : Option Addr} {n : Nat} {W : ML} (h : SmallM w A n W) (k : Below w.heap.size w w') : SmallM w' A n W := ⟨h.1.below k, h.2⟩
theorem SmallM.million {w : World} {A : Option Addr} {n : Nat} {W : ML} (h : SmallM w A n W) : ∀ r ∈ W, r.length ≤ 1000000 := fun r hr => Nat.le_trans (h.2.2.2.2 r hr) (by decide)
theorem two_rows (w : World) (a b : Nat) (ha : a < 256) (hb : b < 256) {g1 g2 g3 : Nat} (e1 : g1 = w.heap.size) (e2 : g2 = (w.alloc (.cells #[.int .u8 (a : Int)] 5)).heap.size) (e3 : g3 = ((w.alloc (.cells #[.int .u8 (a : Int)] 5)).alloc (.cells #[.int .u8 (b : Int)] 5)).heap.size) :
    SmallM (((w.alloc (.cells #[.int .u8 (a : Int)] 5)).alloc (.cells #[.int .u8 (b : Int)] 5)).alloc (.cells #[.slice (some ⟨g1, 0, none⟩) 1 1, .slice (some ⟨g2, 0, none⟩) 1 1] 32)) (some ⟨g3, 0, none⟩) 2 [[a], [b]] := by
  have h1 := ((isB_one w a e1).keep (below_alloc _ (.cells #[.int .u8 (b : Int)] 5))).keep (below_alloc _ (.cells #[.slice (some ⟨g1, 0, none⟩) 1 1, .slice (some ⟨g2, 0, none⟩) 1 1] 32))
  have h2 := (isB_one _ b e2).keep (below_alloc _ (.cells #[.slice (some ⟨g1, 0, none⟩) 1 1, .slice (some ⟨g2, 0, none⟩) 1 1] 32))
  refine ⟨⟨_, rdV_new _ _ _ _ _ e3 rfl, rfl, fun i hi => ?_⟩, rfl, by omega, fun r hr x hx => ?_, fun r hr => ?_⟩
  · match i, hi with
    | 0, _ => exact h1
    | 1, _ => exact h2
    | n + 2, h => exact absurd h (by simp)
  · rcases List.mem_cons.1 hr with rfl | hr
    · simp at hx; omega
    · rcases List.mem_cons.1 hr with rfl | hr
      · simp at hx; omega
      · exact absurd hr (by simp)
  · rcases List.mem_cons.1 hr with rfl | hr
    · simp
    · rcases List.mem_cons.1 hr with rfl | hr
      · simp
      · exact absurd hr (by simp)
theorem known_ans {L : ML} {E : Int} (h : sumsAns [[1], [2]] 1 L E) : L = [[123]] ∧ E = 0 := by
  rcases h with ⟨_, _, q⟩ | ⟨rfl, _, rfl⟩
  · exfalso
    rcases q with q | q | q | ⟨r, hr, q⟩
    · exact absurd q (by decide)
    · exact absurd q (by decide)
    · exact absurd q (by decide)
    · rcases List.mem_cons.1 hr with rfl | hr
      · exact absurd q (by decide)
      · rcases List.mem_cons.1 hr with rfl | hr
        · exact absurd q (by decide)
        · exact absurd hr (by simp)
  · exact ⟨by decide +kernel, rfl⟩
set_option maxHeartbeats 1600000 in
theorem known8_any (hS : SumsC) (w : World) : Calls Try.prog 9 #[] w fun e w' => e = .returned (.bool true) ∧ Below w.heap.size w w' := by
  have HC := hide (fun (g3 : Nat) (w' : World) (h : SmallM w' (some ⟨g3, 0, none⟩) 2 [[1], [2]]) => hS (some ⟨g3, 0, none⟩) 2 2 1 [[1], [2]] w' h (by unfold I64; omega))
  clear hS
  go_enter Try.func9, Try.ntmps9
  go_wp2_with fail
  have TR := two_rows w 1 2 (g1 := w.heap.size) (g2 := w.heap.size + 1) (g3 := w.heap.size + 1 + 1) (by decide) (by decide) rfl (by simp) (by simp)
  have k1 := (((below_alloc w (.cells #[.int .u8 ((1 : Nat) : Int)] 5)).trans ((below_alloc _ (.cells #[.int .u8 ((2 : Nat) : Int)] 5)).mono (by simp))).trans ((below_alloc _ (.cells #[.slice (some ⟨w.heap.size, 0, none⟩) 1 1, .slice (some ⟨w.heap.size + 1, 0, none⟩) 1 1] 32)).mono (by simp; omega)))
  rw [show ((1 : Nat) : Int) = 1 from rfl, show ((2 : Nat) : Int) = 2 from rfl] at TR k1
  have TR := hide TR
  have K1 := hide k1
  clear k1
  obtain ⟨W3, hW3⟩ : ∃ W3, W3 = (((w.alloc (.cells #[.int .u8 1] 5)).alloc (.cells #[.int .u8 2] 5)).alloc (.cells #[.slice (some ⟨w.heap.size, 0, none⟩) 1 1, .slice (some ⟨w.heap.size + 1, 0, none⟩) 1 1] 32)) := ⟨_, rfl⟩
  rw [← hW3] at TR K1 ⊢
  obtain ⟨G, hG⟩ : ∃ G, G = w.heap.size + 1 + 1 := ⟨_, rfl⟩
  rw [← hG] at TR ⊢
  clear hW3 hG
  refine (HC.out G W3 TR.out).mono ?_
  rintro e w1 ⟨v, L, E, rfl, o1, ha, k1⟩
  obtain ⟨rfl, rfl⟩ := known_ans ha
  obtain ⟨A, n, c, rfl, hn, im, -, -⟩ := o1
  obtain rfl : 1 = n := hn
  obtain ⟨b, off, A2, c2, rfl, ck, ib, l2, m2⟩ := im.at_ 0 (by decide)
  have e2 : ([[123]] : ML).getD 0 [] = [123] := rfl
  rw [e2, show ([123] : List Nat).length = 1 from rfl] at ck ib l2
  have ck0 : w1.cell? ⟨b, off, none⟩ = some (.slice A2 1 c2) := ck
  have K2 := hide (below_step K1.out k1)
  have ka := below_alloc w1 (.cells #[.int .u8 123] 5)
  have HS := hide (same_any A2 (some ⟨w1.heap.size, 0, none⟩) 1 1 c2 1 [123] [123] (w1.alloc (.cells #[.int .u8 123] 5)) (ib.keep ka).rd (isB_new w1 _ [123] rfl (by decide) _ 1 rfl rfl).rd rfl rfl (by omega) (by omega))
  have KA := hide (K2.out.trans (ka.mono K2.out.size))
  clear im ka k1 ib ha ck HC TR
  go_wp2_with fail
  refine HS.out.mono ?_
  rintro e w2 ⟨rfl, d, rfl⟩
  go_wp2_with fail
  go_ret
  exact ⟨rfl, below_draw KA.out d⟩
end Go.Proofs.Ytpjocddeiehckaa
namespace Go.Proofs.Ytpjocddeiehckaa
open Go.RowKit
set_option maxHeartbeats 6400000 in
set_option maxRecDepth 100000 in
theorem rsums_any (A : Option Addr) (n c : Nat) (m : Int) (D : ML) (w : World) (hA : IsM w A D) (hn : D.length = n) (h63 : n ≤ 9223372036854775807) (bD : ∀ r ∈ D, ∀ x ∈ r, x < 256) (h47 : ∀ r ∈ D, r.length ≤ 1000000) (m1 : -9223372036854775808 ≤ m) (m2 : m ≤ 9223372036854775807) :
    Calls Try.prog 7 #[.slice A n c, .int .i64 m] w fun e w' => ∃ v L E, e = .returned (.tuple #[v, .int .i64 E]) ∧ OwnMt w' w.heap.size v L ∧ sumsAns D m L E ∧ Below w.heap.size w w' := by
  have HA := hide hA
  have HN := hide hn
  have BD := hide (And.intro bD h47)
  have M1 := hide (rcode_all n m w (by omega) (by omega) m1 m2)
  obtain ⟨E, hE⟩ : ∃ E, E = codeE n m := ⟨_, rfl⟩
  obtain ⟨L, hL⟩ : ∃ L, L = codeR n m := ⟨_, rfl⟩
  rw [← hE, ← hL] at M1
  have HE := hide hE
  have HL := hide hL
  clear hA hn bD h47 hE hL
  go_enter Try.func7, Try.ntmps7
  go_wp2_with fail
  refine M1.out.mono ?_
  rintro e w1 ⟨v, rfl, o1, k1⟩
  by_cases e0 : E = 0
  · subst e0
    have hg : ¬ ((n : Int) < 1 ∨ m < 0 ∨ 14 < (n : Int) + m) := fun q => by
      have := HE.out
      unfold codeE at this
      rw [if_pos q] at this
      cases this
    obtain ⟨b, rfl⟩ : ∃ b : Nat, m = (b : Int) := ⟨m.toNat, by omega⟩
    have hLc : L = codeL n b := by
      rw [HL.out]
      unfold codeR
      rw [if_neg hg, Int.toNat_natCast, Int.toNat_natCast]
    rw [hLc] at o1
    obtain ⟨A1, c1, rfl, i1, l1⟩ := o1.form (n := n + b) (by unfold codeL; rw [laid_len])
    have I1 := hide i1
    have K1 := hide k1
    have hn1 : 1 ≤ n := by omega
    have hnb : n + b ≤ 14 := by omega
    obtain ⟨b2, off2, A2, c2, rfl, cr0, -, l2, m2'⟩ := HA.out.at_ 0 (by rw [HN.out]; omega)
    obtain ⟨len0, hlen0⟩ : ∃ len0, len0 = (D.getD 0 []).length := ⟨_, rfl⟩
    rw [← hlen0] at cr0 l2
    have HLE := hide hlen0
    have CR0 := hide (show w.cell? ⟨b2, off2, none⟩ = some (.slice A2 len0 c2) from cr0)
    have cr1 := (k1.cell (cell_lt CR0.out)).trans CR0.out
    have hn0 : 0 < (n : Int) := by omega
    clear o1 i1 k1 hLc hg cr0 hlen0 M1 m1 m2
    go_wp2_with fail
    go_loopw [9] (fun i wr => ∃ y d : Nat, y ≤ n ∧ i = .int .i64 (y : Int) ∧ Hid (∀ t, t < y → (D.getD t []).length ≠ 0 ∧ (D.getD t []).length = len0) ∧ wr = w1.drewN d) (fun i _ => n - (intOf i).toNat)
    case atStart => exact ⟨0, 0, Nat.zero_le _, rfl, hide (fun t ht => absurd ht (Nat.not_lt_zero t)), rfl⟩
    case round =>
      obtain ⟨y, d, hy, rfl, hall, rfl⟩ := hrel
      by_cases hlt : y < n
      · obtain ⟨b3, off3, A3, c3, e3, cy0, -, l3, m3⟩ := HA.out.at_ y (by rw [HN.out]; exact hlt)
        cases e3
        obtain ⟨ly, hly⟩ : ∃ ly, ly = (D.getD y []).length := ⟨_, rfl⟩
        rw [← hly] at cy0 l3
        have HLY := hide hly
        have cy := (K1.out.cell (cell_lt cy0)).trans cy0
        have HMEM := hide (show D.getD y [] ∈ D from mem_getD (by rw [HN.out]; exact hlt))
        clear hly cy0
        by_cases hz : ly = 0
        · have hz0 : ((ly : Int) == 0) = true := by simp [hz]
          have HZ := hide hz
          clear hz
          go_wp2_with fail
          go_quiet (fail)
          go_wp2_with fail
          go_ret2
          exact ⟨_, [], _, rfl, OwnMt.nil _ _, .inl ⟨rfl, rfl, .inr (.inr (.inr ⟨_, HMEM.out, .inl (List.eq_nil_of_length_eq_zero (by rw [← HLY.out]; exact HZ.out))⟩))⟩, below_draw (below_draw K1.out d) _⟩
        · have hz0 : ((ly : Int) == 0) = false := by simp; omega
          by_cases hq : ly = len0
          · have hne : ((ly : Int) != (len0 : Int)) = false := by simp [hq]
            have HQ := hide hq
            have HZ := hide hz
            clear hq hz
            go_wp2_with fail
            go_quiet (fail)
            go_wp2_with fail
            go_roundw
            case rel =>
              refine ⟨y + 1, _, by omega, by go_num, hide (fun t ht => ?_), rfl⟩
              by_cases e : t = y
              · subst e; rw [← HLY.out]; exact ⟨HZ.out, HQ.out⟩
              · exact hall.out t (by omega)
            case measure => simp [intOf]; omega
          · have hne : ((ly : Int) != (len0 : Int)) = true := by simp; omega
            have HQ := hide hq
            clear hq hz
            go_wp2_with fail
            go_quiet (fail)
            go_wp2_with fail
            go_ret2
            exact ⟨_, [], _, rfl, OwnMt.nil _ _, .inl ⟨rfl, rfl, .inr (.inr (.inr ⟨_, HMEM.out, .inr (by rw [← HLY.out, ← HLE.out]; exact HQ.out)⟩))⟩, below_draw (below_draw K1.out d) _⟩
      · obtain rfl : y = n := by omega
        have hnb1 : ¬ sumsBad D (b : Int) := by
          rintro (q | q | q | ⟨r, hr, q⟩)
          · rw [HN.out] at q; omega
          · omega
          · rw [HN.out] at q; omega
          · obtain ⟨t, ht, rfl⟩ := List.getElem_of_mem hr
            have h2 := hall.out t (by rw [← HN.out]; exact ht)
            have e : D.getD t [] = D[t] := by simp [ht]
            rw [e] at h2
            rcases q with q | q
            · rw [q] at h2; simp at h2
            · exact q (by rw [h2.2, HLE.out])
        have HNB := hide hnb1
        obtain ⟨b', hb', -, -, h1l, hsD⟩ := sums_fit hnb1 BD.out.1
        rw [← HLE.out] at h1l hsD
        rw [HN.out] at hsD
        have HSD := hide hsD
        have KD := hide (below_draw K1.out d)
        have ID := hide (I1.out.drewN d)
        obtain ⟨W0, hW0⟩ : ∃ W0, W0 = w1.drewN d := ⟨_, rfl⟩
        rw [← hW0] at KD ID ⊢
        have HW0L := hide (show ((wordL y b len0 (en D)).drop y).length = b ∧ ∀ i, i < b → ((wordL y b len0 (en D)).drop y).getD i [] = (wordL y b len0 (en D)).getD (y + i) [] from ⟨by rw [List.length_drop, wordL_len]; omega, fun i hi => by simp⟩)
        have HANS := hide (show (wordL D.length (b : Int).toNat (D.getD 0 []).length (en D)).drop D.length = (wordL y b len0 (en D)).drop y by rw [HN.out, HLE.out, Int.toNat_natCast])
        obtain ⟨S, hS⟩ : ∃ S, S = (wordL y b len0 (en D)).drop y := ⟨_, rfl⟩
        have HRW := hide (fun l (hl : l < y + b) => word_row (a := y) (b := b) (n := len0) (l := l) (en D) hl (W := D) (fun _ _ _ _ => rfl))
        rw [← hS] at HW0L HANS
        have h47 := hide (show len0 ≤ 1000000 by rw [HLE.out]; exact BD.out.2 _ (mem_getD (by rw [HN.out]; omega)))
        have hyb : (y : Int) + (b : Int) ≤ 14 := by omega
        have hyb0 : 0 ≤ (y : Int) + (b : Int) := by omega
        clear hW0 hnb1 hb' hsD hS hall cr1
        go_wp2_with fail
        go_loopw [10, 11] (fun s i wr => ∃ q : Nat, q ≤ b ∧ i = .int .i64 ((y + q : Nat) : Int) ∧ Hid (OwnMt wr W0.heap.size s (S.take q)) ∧ Hid (Below W0.heap.size W0 wr)) (fun _ i _ => y + b - (intOf i).toNat)
        case atStart => exact ⟨0, Nat.zero_le _, rfl, hide (OwnMt.nil _ _), hide (Below.refl _ _)⟩
        case round =>
          obtain ⟨q, hq, rfl, hown, hbel⟩ := hrel
          have hcast : ((y + q : Nat) : Int) = (y : Int) + (q : Int) := by omega
          rw [hcast]
          by_cases hltq : q < b
          · obtain ⟨b5, off5, A5, c5, e5, cc0, ic, l5, m5⟩ := (ID.out.below hbel.out).at_ (y + q) (by unfold codeL; rw [laid_len]; omega)
            cases e5
            have hrowc := (laid_shape (y + b) y (codeRow y)).row (show y + q < y + b by omega)
            rw [show ((codeL y b).getD (y + q) []).length = y from hrowc.1] at cc0 l5 ic
            have kw := below_step KD.out hbel.out
            have HBL := rblend_any A5 (some ⟨b2, off2, none⟩) y c5 y len0 c ((codeL y b).getD (y + q) []) D wr ic.rd hrowc.1 hrowc.2 (HA.out.below kw) HSD.out hn1 (Nat.le_refl _) h47.out (by omega) (by omega)
            rw [HRW.out (y + q) (by omega), ← HW0L.out.2 q hltq] at HBL
            have HBL := hide HBL
            have HST := hide (take_snoc S q (by rw [HW0L.out.1]; exact hltq))
            have HGS := hide hbel.out.size
            have HBE := hide hbel.out
            have HOW := hide hown.out
            have hqi : (y : Int) + (q : Int) < (y : Int) + (b : Int) := by omega
            have hqi2 : (y : Int) + (q : Int) < ((y + b : Nat) : Int) := by omega
            clear kw ic hrowc hown hbel hcast
            go_wp2_with fail
            refine HBL.out.mono ?_
            rintro e w5 ⟨g5, rfl, o5, k5⟩
            have K5 := hide (HBE.out.trans (k5.mono HGS.out))
            have O5 := hide (o5.more HGS.out)
            have OM := hide (HOW.out.keep k5)
            have HG5 := hide (Nat.le_trans HGS.out k5.size)
            clear o5 k5
            go_wp2_with (at_builtin; refine halt ?_)
            refine ⟨?_⟩
            have ka := below_alloc w5 (.cells #[.slice (some ⟨g5, 0, none⟩) len0 len0] 32)
            have hlr : (S.getD q []).length = len0 := by
              rw [HW0L.out.2 q hltq]
              exact ((wordL_shape y b len0 (en D)).row (by omega)).1
            refine wpList_append_mrow rfl (.tmp 53) (.tmp 60) rfl W0.heap.size _ _ rfl (OM.out.keep ka) _ _ _ rfl (cell_newAt _ _ _ rfl) (O5.out.keep ka) (by rw [List.length_take]; omega) (Nat.le_trans HG5.out ka.size) ?_
            intro v' w7 o7 k7
            rw [← HST.out] at o7
            have O7 := hide o7
            have K7 := hide ((K5.out.trans (ka.mono HG5.out)).trans k7)
            clear o7 k7 ka OM O5 K5 HG5 hlr
            go_wp2_with fail
            go_roundw
            case rel => exact ⟨q + 1, by omega, by go_num, O7, K7⟩
            case measure => simp [intOf]; omega
          · obtain rfl : q = b := by omega
            go_wp2_with fail
            go_ret2
            have := hown.out
            rw [List.take_of_length_le (by rw [HW0L.out.1]; exact Nat.le_refl _)] at this
            exact ⟨_, S, _, rfl, this.more KD.out.size, .inr ⟨rfl, HNB.out, HANS.out.symm⟩, below_step KD.out hbel.out⟩
  · have hE1 : (E != 0) = true := by simp [e0]
    have K1 := hide k1
    have HB1 : Hid (sumsBad D m) := by
      unfold Hid sumsBad
      rw [HN.out]
      have := HE.out
      unfold codeE at this
      by_cases q : (n : Int) < 1 ∨ m < 0 ∨ 14 < (n : Int) + m
      · rcases q with q | q | q
        · exact .inl (by omega)
        · exact .inr (.inl q)
        · exact .inr (.inr (.inl q))
      · rw [if_neg q] at this
        exact absurd this e0
    clear o1 k1 e0
    go_wp2_with fail
    go_ret2
    exact ⟨_, [], _, rfl, OwnMt.nil _ _, .inl ⟨rfl, rfl, HB1.out⟩, K1.out⟩
end Go.Proofs.Ytpjocddeiehckaa
namespace Go.Proofs.Ytpjocddeiehckaa
open Go.RowKit
set_option maxHeartbeats 1600000 in
theorem shardSums_by (hS : SumsC) (A : Option Addr) (n c : Nat) (m : Int) (D : ML) (w : World) (hA : IsM w A D) (hn : D.length = n) (h47 : n ≤ 140737488351232) (bD : ∀ r ∈ D, ∀ x ∈ r, x < 256) (rD : ∀ r ∈ D, r.length ≤ 140737488351232) (m1 : I64 m) :
    Calls Try.prog 3 #[.slice A n c, .int .i64 m] w fun e w' => e = .returned (.bool true) ∧ Below w.heap.size w w' := by
  have G1 := hide (great_sized A n c D w hA hn (by omega) rD)
  have HK := hide (fun w' => known8_any hS w')
  have M1 := hide (fun (h : SmallM w A n D) => hS A n c m D w h m1)
  have M2 := hide (fun (w' : World) (h : SmallM w' A n D) => rsums_any A n c m D w' h.1 h.2.1 (by omega) h.2.2.2.1 h.million m1.1 m1.2)
  have SM := hide (show n ≤ 1500 ∧ (∀ r ∈ D, r.length ≤ 1500) → SmallM w A n D from fun q => ⟨hA, hn, q.1, bD, q.2⟩)
  clear hS hA hn bD rD m1
  go_enter Try.func3, Try.ntmps3
  go_wp2_with fail
  refine G1.out.mono ?_
  rintro e w1 ⟨t, rfl, ht, rfl⟩
  cases t
  · have S := SM.out (ht rfl)
    have hSm := hide S
    have M1 := hide (M1.out S)
    clear ht S
    go_wp2_with fail
    refine M1.out.mono ?_
    rintro e w2 ⟨v, L, E, rfl, ⟨A2, n2, c2, rfl, hn2, i2, -, hn63⟩, ha2, k2⟩
    have K2 := hide k2
    have I2 := hide i2
    have M2 := hide (M2.out w2 (hSm.out.below k2))
    have HA2 := hide ha2
    have HN2 := hide hn2
    clear k2 i2 ha2 M1 hn2
    go_wp2_with fail
    refine M2.out.mono ?_
    rintro e w3 ⟨v, L', E', rfl, o3, ha3, k3⟩
    obtain ⟨rfl, rfl⟩ := sums_once HA2.out ha3
    obtain ⟨A3, c3, rfl, i3, -⟩ := o3.form (n := n2) HN2.out
    have hee : (E == E) = true := by simp
    have HR := hide (rows_same A2 A3 n2 c2 c3 L w3 (I2.out.below k3) i3 HN2.out)
    have hl := i3
    have K3 := hide (below_step K2.out k3)
    clear k3 i3 o3 ha3 HA2 I2 M2 hl
    go_wp2_with fail
    refine (HR.out hn63).mono ?_
    rintro e w4 ⟨rfl, d, rfl⟩
    go_wp2_with fail
    refine (HK.out _).mono ?_
    rintro e w5 ⟨rfl, k5⟩
    have K5 := hide (below_step (below_draw K3.out d) k5)
    clear k5
    go_wp2_with fail
    go_ret
    exact ⟨rfl, K5.out⟩
  · go_wp2_with fail
    go_ret
    exact ⟨rfl, Below.refl _ _⟩
end Go.Proofs.Ytpjocddeiehckaa
namespace Go.Proofs.Ytpjocddeiehckaa
/-- Two lists of rows of the same lengths. -/
def Twin (D1 D2 : ML) : Prop := D1.length = D2.length ∧ ∀ i, i < D1.length → (D1.getD i []).length = (D2.getD i []).length
def addM (D1 D2 : ML) : ML := (List.range D1.length).map fun i => addR (D1.getD i []) (D2.getD i [])
theorem addM_len (D1 D2 : ML) : (addM D1 D2).length = D1.length := by simp [addM]
theorem addM_get (D1 D2 : ML) {i : Nat} (h : i < D1.length) : (addM D1 D2).getD i [] = addR (D1.getD i []) (D2.getD i []) := by simp [addM, h]
theorem addR_low {xs ys : List Nat} (h1 : ∀ x ∈ xs, x < 256) (h2 : ∀ x ∈ ys, x < 256) : ∀ x ∈ addR xs ys, x < 256 := by
  intro x hx
  obtain ⟨i, hi, rfl⟩ := List.getElem_of_mem hx
  have hi2 : i < xs.length := by rw [← addR_len xs ys]; exact hi
  have e := addR_get ys i hi2
  have e1 : (addR xs ys).getD i 0 = (addR xs ys)[i] := by simp [hi]
  rw [← e1, e]
  exact Nat.xor_lt_two_pow (n := 8) (getD_lt h1 i) (getD_lt h2 i)
theorem addM_low {D1 D2 : ML} (h1 : ∀ r ∈ D1, ∀ x ∈ r, x < 256) (h2 : ∀ r ∈ D2, ∀ x ∈ r, x < 256) (hl : D1.length = D2.length) : ∀ r ∈ addM D1 D2, ∀ x ∈ r, x < 256 := by
  intro r hr
  obtain ⟨i, hi, rfl⟩ := List.mem_map.1 hr
  have hi := List.mem_range.1 hi
  exact addR_low (h1 _ (mem_getD hi)) (h2 _ (mem_getD (by rw [← hl]; exact hi)))
theorem addM_most {D1 D2 : ML} {K : Nat} (h1 : ∀ r ∈ D1, r.length ≤ K) : ∀ r ∈ addM D1 D2, r.length ≤ K := by
  intro r hr
  obtain ⟨i, hi, rfl⟩ := List.mem_map.1 hr
  rw [addR_len]
  exact h1 _ (mem_getD (List.mem_range.1 hi))
theorem addM_twin (D1 D2 : ML) : Twin D1 (addM D1 D2) := ⟨(addM_len _ _).symm, fun i hi => by rw [addM_get _ _ hi, addR_len]⟩
/-- What is refused is told by the lengths alone. -/
theorem bad_at {D : ML} {m : Int} : sumsBad D m ↔ (D.length < 1 ∨ m < 0 ∨ 14 < (D.length : Int) + m ∨ ∃ i, i < D.length ∧ ((D.getD i []).length = 0 ∨ (D.getD i []).length ≠ (D.getD 0 []).length)) := by
  unfold sumsBad
  have h : (∃ r ∈ D, r = [] ∨ r.length ≠ (D.getD 0 []).length) ↔ ∃ i, i < D.length ∧ ((D.getD i []).length = 0 ∨ (D.getD i []).length ≠ (D.getD 0 []).length) := by
    constructor
    · rintro ⟨r, hr, q⟩
      obtain ⟨i, hi, rfl⟩ := List.getElem_of_mem hr
      have e : D.getD i [] = D[i] := by simp [hi]
      exact ⟨i, hi, by rw [e]; exact q.imp (fun q => by rw [q]; rfl) id⟩
    · rintro ⟨i, hi, q⟩
      exact ⟨_, mem_getD hi, q.imp (fun q => List.eq_nil_of_length_eq_zero q) id⟩
  rw [h]
theorem bad_twin {D1 D2 : ML} {m : Int} (h : Twin D1 D2) (hb : sumsBad D1 m) : sumsBad D2 m := by
  rw [bad_at] at hb ⊢
  rw [← h.1]
  rcases hb with q | q | q | ⟨i, hi, q⟩
  · exact .inl q
  · exact .inr (.inl q)
  · exact .inr (.inr (.inl q))
  · refine .inr (.inr (.inr ⟨i, hi, ?_⟩))
    rw [← h.2 i hi, ← h.2 0 (by omega)]
    exact q
theorem Twin.symm {D1 D2 : ML} (h : Twin D1 D2) : Twin D2 D1 := ⟨h.1.symm, fun i hi => (h.2 i (by rw [h.1]; exact hi)).symm⟩
theorem err_twin {D1 D2 L1 L2 : ML} {m e1 e2 : Int} (h : Twin D1 D2) (h1 : sumsAns D1 m L1 e1) (h2 : sumsAns D2 m L2 e2) : e1 = e2 := by
  rcases h1 with ⟨rfl, _, q1⟩ | ⟨rfl, q1, _⟩
  · rcases h2 with ⟨rfl, _, _⟩ | ⟨_, q2, _⟩
    · rfl
    · exact absurd (bad_twin h q1) q2
  · rcases h2 with ⟨_, _, q2⟩ | ⟨rfl, _, _⟩
    · exact absurd (bad_twin h.symm q2) q1
    · rfl
/-- A row of sums, a place in it. -/
theorem sums_place {D L : ML} {m : Int} (h : sumsAns D m L 0) (hb : ∀ r ∈ D, ∀ x ∈ r, x < 256) : L.length = m.toNat ∧ ∀ q, q < L.length → (L.getD q []).length = (D.getD 0 []).length ∧ ∀ x, x < (D.getD 0 []).length → (L.getD q []).getD x 0 = (word D.length (en D) (D.length + q) x).n := by
  obtain ⟨b, n, rfl, h1, h2, h3, rfl, h5, h6⟩ := sums_all h hb
  refine ⟨by rw [h5, Int.toNat_natCast], fun q hq => ?_⟩
  have hq2 : D.length + q < D.length + b := by omega
  have e : L.getD q [] = (wordL D.length b (D.getD 0 []).length (en D)).getD (D.length + q) [] := by
    rw [← h6, List.getD_eq_getElem?_getD, List.getD_eq_getElem?_getD, List.getElem?_append_right (by omega)]
    congr 2
    omega
  rw [e]
  refine ⟨((wordL_shape _ _ _ _).row hq2).1, fun x hx => ?_⟩
  rw [← (wordL_shape _ _ _ _).at_ hq2 x]
  congr 1
  exact laid_at _ hq2 hx
theorem en_addM {D1 D2 : ML} (h1 : ∀ r ∈ D1, ∀ x ∈ r, x < 256) (h2 : ∀ r ∈ D2, ∀ x ∈ r, x < 256) (hl : D1.length = D2.length) {i x : Nat} (hi : i < D1.length) (hx : x < (D1.getD i []).length) : en (addM D1 D2) i x = en D1 i x + en D2 i x := by
  apply G.ext
  unfold en
  rw [addM_get _ _ hi, addR_get _ x hx, G.add_n, G.of_n (getD_lt (h1 _ (mem_getD hi)) x), G.of_n (getD_lt (h2 _ (mem_getD (by rw [← hl]; exact hi))) x)]
  exact G.of_n (Nat.xor_lt_two_pow (n := 8) (getD_lt (h1 _ (mem_getD hi)) x) (getD_lt (h2 _ (mem_getD (by rw [← hl]; exact hi))) x))
/-- The sums of rows that are added are the sums added. -/
theorem sums_add {D1 D2 L1 L2 L3 : ML} {m : Int} (ht : Twin D1 D2) (b1 : ∀ r ∈ D1, ∀ x ∈ r, x < 256) (b2 : ∀ r ∈ D2, ∀ x ∈ r, x < 256) (h1 : sumsAns D1 m L1 0) (h2 : sumsAns D2 m L2 0) (h3 : sumsAns (addM D1 D2) m L3 0) :
    L3.length = L1.length ∧ L2.length = L1.length ∧ ∀ q, q < L1.length → (L2.getD q []).length = (L1.getD q []).length ∧ (L3.getD q []).length = (L1.getD q []).length ∧ ∀ x, x < (L1.getD q []).length → (L3.getD q []).getD x 0 = (L1.getD q []).getD x 0 ^^^ (L2.getD q []).getD x 0 := by
  obtain ⟨l1, p1⟩ := sums_place h1 b1
  obtain ⟨l2, p2⟩ := sums_place h2 b2
  obtain ⟨l3, p3⟩ := sums_place h3 (addM_low b1 b2 ht.1)
  obtain ⟨b, n, rfl, a1, a2, a3, rfl, a5, a6⟩ := sums_all h1 b1
  have hw : ∀ r ∈ D1, r.length = (D1.getD 0 []).length := fun r hr => by
    obtain ⟨i, hi, rfl⟩ := List.getElem_of_mem hr
    have := (wordL_shape D1.length b (D1.getD 0 []).length (en D1)).wide (D1[i]) (by rw [← a6]; exact List.mem_append.2 (.inl hr))
    exact this
  have e0 := ht.2 0 (by omega)
  have e1 := addM_get D1 D2 (i := 0) (by omega)
  have e2 : ((addM D1 D2).getD 0 []).length = (D1.getD 0 []).length := by rw [e1, addR_len]
  refine ⟨by rw [l3, l1], by rw [l2, l1], fun q hq => ?_⟩
  obtain ⟨r1, s1⟩ := p1 q hq
  obtain ⟨r2, s2⟩ := p2 q (by rw [l2, ← l1]; exact hq)
  obtain ⟨r3, s3⟩ := p3 q (by rw [l3, ← l1]; exact hq)
  refine ⟨by rw [r2, r1, e0], by rw [r3, e2, r1], fun x hx => ?_⟩
  rw [r1] at hx
  rw [s1 x hx, s2 x (by rw [← e0]; exact hx), s3 x (by rw [e2]; exact hx), addM_len, ← ht.1, ← G.add_n, ← word_add]
  congr 1
  exact word_congr (fun j hj => en_addM b1 b2 ht.1 hj (by rw [hw _ (mem_getD hj)]; exact hx)) _
end Go.Proofs.Ytpjocddeiehckaa
