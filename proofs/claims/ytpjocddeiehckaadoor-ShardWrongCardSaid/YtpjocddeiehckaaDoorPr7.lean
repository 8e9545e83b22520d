/- The contract of the document's blend: a sum of rows, each times its number. Condition: at most 1000000 numbers in a row. What Sums answers, in words; the rows that fit. It names nothing of the program. What the project's shard is to answer, said of its calls (to be shown of what lands); the law's 'known' by it. Condition: at most 1500 rows of at most 1500 numbers. The contract of the document's fits: whether rows are such as may be handed in. No condition but the widths. -/
import Derived.Test.YtpjocddeiehckaaDoorPr5
import Derived.Test.YtpjocddeiehckaaDoorPr4
import Derived.Test.YtpjocddeiehckaaDoorPr2
import Derived.BigQuiet
namespace Go.Proofs.YtpjocddeiehckaaDoor
open Go.RowKit
def rowG (h : Nat → G) (n : Nat) : List Nat := (List.range n).map fun y => (h y).n
theorem rowG_len (h : Nat → G) (n : Nat) : (rowG h n).length = n := by simp [rowG]
theorem rowG_get (h : Nat → G) {n y : Nat} (hy : y < n) : (rowG h n).getD y 0 = (h y).n := by simp [rowG, hy]
theorem rowG_set (h : Nat → G) (n x : Nat) (z : G) : (rowG h n).set x z.n = rowG (fun y => if y = x then z else h y) n := by
  apply List.ext_getElem
  · simp [rowG]
  · intro i h1 h2
    rw [List.getElem_set]
    simp only [rowG, List.getElem_map, List.getElem_range]
    by_cases e : x = i
    · subst e; rw [if_pos rfl, if_pos rfl]
    · rw [if_neg e, if_neg (fun q => e q.symm)]
theorem rowG_congr {h h' : Nat → G} {n : Nat} (e : ∀ y, y < n → h y = h' y) : rowG h n = rowG h' n := List.map_congr_left (fun y hy => by rw [e y (List.mem_range.1 hy)])
/-- The sum of the first j rows, each times its number. -/
def blendG (c : List Nat) (W : ML) (j : Nat) : Nat → G := fun x => gs j (fun t => G.of (c.getD t 0) * en W t x)
theorem blendG_step (c : List Nat) (W : ML) (j x : Nat) : blendG c W (j + 1) x = blendG c W j x + G.of (c.getD j 0) * en W j x := rfl
theorem rowG_zero (c : List Nat) (W : ML) (n : Nat) : List.replicate n 0 = rowG (blendG c W 0) n := by
  apply List.ext_getElem
  · simp [rowG]
  · intro i h1 h2
    simp only [List.getElem_replicate, rowG, List.getElem_map, List.getElem_range]
    rfl
set_option maxHeartbeats 3200000 in
set_option maxRecDepth 100000 in
theorem rblend_any (C A : Option Addr) (nc cc k n ca : Nat) (c : List Nat) (W : ML) (w : World) (hC : Rd w C c) (hc : c.length = nc) (hc8 : ∀ x ∈ c, x < 256) (hA : IsM w A W) (hs : Shape W k n) (hk : 1 ≤ k) (hkc : k ≤ nc) (h3 : n ≤ 1000000) (_hcc : nc ≤ 9223372036854775807) (_hk6 : k ≤ 1000000) :
    Calls Tryd.prog 30 #[.slice C nc cc, .slice A k ca] w fun e w' => ∃ g, e = .returned (.slice (some ⟨g, 0, none⟩) n n) ∧ Own w' w.heap.size (.slice (some ⟨g, 0, none⟩) n n) (rowG (blendG c W k) n) ∧ Below w.heap.size w w' := by
  obtain ⟨i0, hi, hz0, hz1, hz2⟩ := info_parts Tryd.info_u8'
  have HC := hide hC
  have HCL := hide (And.intro hc hc8)
  have HA := hide hA
  have HS := hide hs
  obtain ⟨b2, off2, A2, c2, rfl, cr0, -, l2, m2⟩ := hA.at_ 0 (by rw [hs.high]; omega)
  rw [hs.len_at 0 (by omega)] at cr0 l2
  have cr00 : w.cell? ⟨b2, off2, none⟩ = some (.slice A2 n c2) := cr0
  have hk0 : 0 < (k : Int) := by omega
  clear hC hc hc8 hA hs cr0
  go_enter Tryd.func30, Tryd.ntmps30
  go_wp2_with (at_make; refine halt ?_)
  refine ⟨?_⟩
  refine wpList_make_full _ rfl (.tmp 11) (.tmp 11) 34 rfl w.heap.size 5 i0 (.int .u8 0) 1 Tryd.underlying34 hi hz0 hz1 .i64 .i64 n n n rfl rfl rfl rfl (by rw [hz2]; omega) (by unfold maxLen; omega) (Nat.le_refl _) ?_
  intro w2 h2 g2
  have o2 := made_bytes h2
  rw [rowG_zero c W n] at o2
  have k2 : Below w.heap.size w w2 := (Below.refl _ _).grown g2 (Nat.le_refl _) (by simp)
  clear h2 g2 hi hz0 hz1 hz2 i0
  obtain ⟨g, hg⟩ : ∃ g, g = w.heap.size := ⟨_, rfl⟩
  rw [← hg] at o2 k2 ⊢
  have HG := hide hg
  have O2 := hide o2
  have K2 := hide k2
  clear hg o2 k2
  go_wp2_with fail
  go_loopw [6] (fun i wr => ∃ j : Nat, j ≤ k ∧ i = .int .i64 (j : Int) ∧ Hid (Own wr g (.slice (some ⟨g, 0, none⟩) n n) (rowG (blendG c W j) n)) ∧ Hid (Below g w wr)) (fun i _ => k - (intOf i).toNat)
  case atStart => exact ⟨0, Nat.zero_le _, rfl, O2, K2⟩
  case round =>
    obtain ⟨j, hj, rfl, hown, hbel⟩ := hrel
    by_cases hlt : j < k
    · obtain ⟨b4, off4, A3, c3, e4, cj0, ij, l3, m3⟩ := HA.out.at_ j (by rw [HS.out.high]; exact hlt)
      cases e4
      have hrow := HS.out.row hlt
      rw [hrow.1] at cj0 l3 ij
      obtain ⟨bc, offc, rfl, cq0, hq⟩ := at_place HC.out HCL.out.1 HCL.out.2 j (by omega)
      have HIJ := hide ij
      have HRW := hide hrow
      have HCJ := hide cj0
      have HCQ := hide cq0
      obtain ⟨q, hqe⟩ : ∃ q, q = c.getD j 0 := ⟨_, rfl⟩
      rw [← hqe] at HCQ hq
      have HQE := hide hqe
      have hjc : (j : Int) < (nc : Int) := by omega
      clear ij hrow cj0 cq0 hqe
      go_wp2_with fail
      go_loopw [7] (fun i w3 => ∃ x : Nat, x ≤ n ∧ i = .int .i64 (x : Int) ∧ Hid (∃ h, Own w3 g (.slice (some ⟨g, 0, none⟩) n n) (rowG h n) ∧ ∀ y, y < n → h y = if y < x then blendG c W (j + 1) y else blendG c W j y) ∧ Hid (Below g w w3)) (fun i _ => n - (intOf i).toNat)
      case atStart => exact ⟨0, Nat.zero_le _, rfl, hide ⟨_, hown.out, fun y _ => (if_neg (Nat.not_lt_zero y)).symm⟩, hbel⟩
      case round =>
        obtain ⟨x, hx, rfl, hh, hbel3⟩ := hrel
        by_cases hltx : x < n
        · obtain ⟨h, oh, eh⟩ := hh.out
          have kw : Below w.heap.size w wr := by rw [← HG.out]; exact hbel3.out
          obtain ⟨b3, off3, rfl, cp0, hp⟩ := at_place (HIJ.out.keep kw).rd HRW.out.1 HRW.out.2 x hltx
          have cs := oh.cells_ (rowG_len h n) x
          have co := cs.1 hltx
          rw [rowG_get h hltx] at co
          have fo := cs.2
          have cj := (kw.cell (cell_lt HCJ.out)).trans HCJ.out
          have cq := (kw.cell (cell_lt HCQ.out)).trans HCQ.out
          obtain ⟨p, hpe⟩ : ∃ p, p = (W.getD j []).getD x 0 := ⟨_, rfl⟩
          rw [← hpe] at cp0 hp
          have hx8 := (h x).lt
          have hm8 := gmul_lt p hq
          have hxo := u8_xor_nat (h x).n (gmul q p) hx8 hm8
          have hz : (h x + G.of q * G.of p).n = (h x).n ^^^ gmul q p := by rw [G.add_n, G.mul_n, G.of_n hq, G.of_n hp]
          have st := oh.stored' (rowG_len h n) x (h x + G.of q * G.of p).n
          rw [rowG_set] at st
          have NX : Hid (∃ h', Own (wr.setCell ⟨g, x, none⟩ (.int .u8 (((h x + G.of q * G.of p).n : Nat) : Int))) g (.slice (some ⟨g, 0, none⟩) n n) (rowG h' n) ∧ ∀ y, y < n → h' y = if y < x + 1 then blendG c W (j + 1) y else blendG c W j y) := by
            refine ⟨_, st, fun y hy => ?_⟩
            by_cases e : y = x
            · subst e
              rw [if_pos rfl, if_pos (by omega), blendG_step, eh y hy, if_neg (by omega), ← HQE.out]
              have : en W j y = G.of p := by unfold en; rw [hpe]
              rw [this]
            · rw [if_neg e, eh y hy]
              by_cases e2 : y < x
              · rw [if_pos e2, if_pos (by omega)]
              · rw [if_neg e2, if_neg (by omega)]
          have BL := hide (show Below g w (wr.setCell ⟨g, x, none⟩ (.int .u8 (((h x + G.of q * G.of p).n : Nat) : Int))) from hbel3.out.setCell (Nat.le_refl _) _)
          rw [hz] at NX BL
          obtain ⟨o, ho⟩ : ∃ o, o = (h x).n := ⟨_, rfl⟩
          rw [← ho] at NX BL co hxo
          obtain ⟨u, hu⟩ : ∃ u, u = gmul q p := ⟨_, rfl⟩
          have HM := hide (fun w' => rmul_any q p w' hq hp)
          rw [← hu] at NX BL HM hxo
          obtain ⟨z, hzz⟩ : ∃ z, z = o ^^^ u := ⟨_, rfl⟩
          rw [← hzz] at NX BL hxo
          have gl : g < wr.heap.size := cell_lt co
          clear st hz hzz hx8 hm8 cs oh eh hh hbel3 hpe ho hu hown hbel
          go_wp2_with fail
          refine Ways.start (fun W' => W'.cell? ⟨b3, off3 + x, none⟩ = some (.int .u8 (p : Int)) ∧ W'.cell? ⟨b2, off2 + j, none⟩ = some (.slice (some ⟨b3, off3, none⟩) n c3) ∧ W'.cell? ⟨bc, offc + j, none⟩ = some (.int .u8 (q : Int)) ∧ W'.cell? ⟨g, x, none⟩ = some (.int .u8 (o : Int))) 20 21 #[false, false, false, false, false, false, false, false, false, false, false, false, false, false, false, false, false, false, false, false, false] (by kernel_rfl) (by kernel_rfl) (by kernel_rfl) ?_
          have hHeld : wr.drew.cell? ⟨b3, off3 + x, none⟩ = some (.int .u8 (p : Int)) ∧ wr.drew.cell? ⟨b2, off2 + j, none⟩ = some (.slice (some ⟨b3, off3, none⟩) n c3) ∧ wr.drew.cell? ⟨bc, offc + j, none⟩ = some (.int .u8 (q : Int)) ∧ wr.drew.cell? ⟨g, x, none⟩ = some (.int .u8 (o : Int)) := ⟨cp0, cj, cq, co⟩
          refine' Ways.take (i := 0) (oi := ⟨_, _, _, _, _, _⟩) (v := _) rfl (by kernel_rfl) (by kernel_rfl) (by kernel_rfl) (by kernel_rfl) (fun _ _ _ h => h) hHeld (Or.inl ⟨rfl, ?_⟩) ?_
          rotate_left
          · (intro W hW; (try dsimp only at hW); go_simp; (try with_reducible rfl))
          try simp only [Act.put, List.setIfInBounds_toArray, List.set_cons_zero, List.set_cons_succ]
          refine' Ways.take (i := 1) (oi := ⟨_, _, _, _, _, _⟩) (v := _) rfl (by kernel_rfl) (by kernel_rfl) (by kernel_rfl) (by kernel_rfl) (fun _ _ _ h => h) hHeld (Or.inl ⟨rfl, ?_⟩) ?_
          rotate_left
          · (intro W hW; (try dsimp only at hW); go_simp; (try with_reducible rfl))
          try simp only [Act.put, List.setIfInBounds_toArray, List.set_cons_zero, List.set_cons_succ]
          refine' Ways.take (i := 2) (oi := ⟨_, _, _, _, _, _⟩) (v := _) rfl (by kernel_rfl) (by kernel_rfl) (by kernel_rfl) (by kernel_rfl) (fun _ _ _ h => h) hHeld (Or.inl ⟨rfl, ?_⟩) ?_
          rotate_left
          · (intro W hW; (try dsimp only at hW); go_simp; (try with_reducible rfl))
          try simp only [Act.put, List.setIfInBounds_toArray, List.set_cons_zero, List.set_cons_succ]
          refine' Ways.take (i := 3) (oi := ⟨_, _, _, _, _, _⟩) (v := _) rfl (by kernel_rfl) (by kernel_rfl) (by kernel_rfl) (by kernel_rfl) (fun _ _ _ h => h) hHeld (Or.inl ⟨rfl, ?_⟩) ?_
          rotate_left
          · (intro W hW; (try dsimp only at hW); go_simp; (try with_reducible rfl))
          try simp only [Act.put, List.setIfInBounds_toArray, List.set_cons_zero, List.set_cons_succ]
          refine' Ways.take (i := 4) (oi := ⟨_, _, _, _, _, _⟩) (v := _) rfl (by kernel_rfl) (by kernel_rfl) (by kernel_rfl) (by kernel_rfl) (fun _ _ _ h => h) hHeld (Or.inl ⟨rfl, ?_⟩) ?_
          rotate_left
          · (intro W hW; (try dsimp only at hW); go_simp; (try with_reducible rfl))
          try simp only [Act.put, List.setIfInBounds_toArray, List.set_cons_zero, List.set_cons_succ]
          refine' Ways.take (i := 5) (oi := ⟨_, _, _, _, _, _⟩) (v := _) rfl (by kernel_rfl) (by kernel_rfl) (by kernel_rfl) (by kernel_rfl) (fun _ _ _ h => h) hHeld (Or.inl ⟨rfl, ?_⟩) ?_
          rotate_left
          · (intro W hW; (try dsimp only at hW); go_simp; (try with_reducible rfl))
          try simp only [Act.put, List.setIfInBounds_toArray, List.set_cons_zero, List.set_cons_succ]
          refine' Ways.take (i := 6) (oi := ⟨_, _, _, _, _, _⟩) (v := _) rfl (by kernel_rfl) (by kernel_rfl) (by kernel_rfl) (by kernel_rfl) (fun _ _ _ h => h) hHeld (Or.inl ⟨rfl, ?_⟩) ?_
          rotate_left
          · (intro W hW; (try dsimp only at hW); go_simp; (try with_reducible rfl))
          try simp only [Act.put, List.setIfInBounds_toArray, List.set_cons_zero, List.set_cons_succ]
          refine' Ways.take (i := 7) (oi := ⟨_, _, _, _, _, _⟩) (v := _) rfl (by kernel_rfl) (by kernel_rfl) (by kernel_rfl) (by kernel_rfl) (fun _ _ _ h => h) hHeld (Or.inl ⟨rfl, ?_⟩) ?_
          rotate_left
          · (intro W hW; (try dsimp only at hW); go_simp; (try with_reducible rfl))
          try simp only [Act.put, List.setIfInBounds_toArray, List.set_cons_zero, List.set_cons_succ]
          refine' Ways.take (i := 8) (oi := ⟨_, _, _, _, _, _⟩) (v := _) rfl (by kernel_rfl) (by kernel_rfl) (by kernel_rfl) (by kernel_rfl) (fun _ _ _ h => h) hHeld (Or.inl ⟨rfl, ?_⟩) ?_
          rotate_left
          · (intro W hW; (try dsimp only at hW); go_simp; (try with_reducible rfl))
          try simp only [Act.put, List.setIfInBounds_toArray, List.set_cons_zero, List.set_cons_succ]
          refine' Ways.take (i := 9) (oi := ⟨_, _, _, _, _, _⟩) (v := _) rfl (by kernel_rfl) (by kernel_rfl) (by kernel_rfl) (by kernel_rfl) (fun _ _ _ h => h) hHeld (Or.inl ⟨rfl, ?_⟩) ?_
          rotate_left
          · (intro W hW; (try dsimp only at hW); go_simp; (try with_reducible rfl))
          try simp only [Act.put, List.setIfInBounds_toArray, List.set_cons_zero, List.set_cons_succ]
          refine' Ways.take (i := 10) (oi := ⟨_, _, _, _, _, _⟩) (v := _) rfl (by kernel_rfl) (by kernel_rfl) (by kernel_rfl) (by kernel_rfl) (fun _ _ _ h => h) hHeld (Or.inl ⟨rfl, ?_⟩) ?_
          rotate_left
          · (intro W hW; (try dsimp only at hW); go_simp; (try with_reducible rfl))
          try simp only [Act.put, List.setIfInBounds_toArray, List.set_cons_zero, List.set_cons_succ]
          refine' Ways.take (i := 11) (oi := ⟨_, _, _, _, _, _⟩) (v := _) rfl (by kernel_rfl) (by kernel_rfl) (by kernel_rfl) (by kernel_rfl) (fun _ _ _ h => h) hHeld (Or.inl ⟨rfl, ?_⟩) ?_
          rotate_left
          · (intro W hW; (try dsimp only at hW); go_simp; (try with_reducible rfl))
          try simp only [Act.put, List.setIfInBounds_toArray, List.set_cons_zero, List.set_cons_succ]
          refine' Ways.take (i := 12) (oi := ⟨_, _, _, _, _, _⟩) (v := _) rfl (by kernel_rfl) (by kernel_rfl) (by kernel_rfl) (by kernel_rfl) (fun _ _ _ h => h) hHeld (Or.inl ⟨rfl, ?_⟩) ?_
          rotate_left
          · (intro W hW; (try dsimp only at hW); go_simp; (try with_reducible rfl))
          try simp only [Act.put, List.setIfInBounds_toArray, List.set_cons_zero, List.set_cons_succ]
          refine' Ways.take (i := 13) (oi := ⟨_, _, _, _, _, _⟩) (v := _) rfl (by kernel_rfl) (by kernel_rfl) (by kernel_rfl) (by kernel_rfl) (fun _ _ _ h => h) hHeld (Or.inl ⟨rfl, ?_⟩) ?_
          rotate_left
          · (intro W hW; (try dsimp only at hW); go_simp; (try with_reducible rfl))
          try simp only [Act.put, List.setIfInBounds_toArray, List.set_cons_zero, List.set_cons_succ]
          refine' Ways.take (i := 14) (oi := ⟨_, _, _, _, _, _⟩) (v := _) rfl (by kernel_rfl) (by kernel_rfl) (by kernel_rfl) (by kernel_rfl) (fun _ _ _ h => h) hHeld (Or.inl ⟨rfl, ?_⟩) ?_
          rotate_left
          · (intro W hW; (try dsimp only at hW); go_simp; (try with_reducible rfl))
          try simp only [Act.put, List.setIfInBounds_toArray, List.set_cons_zero, List.set_cons_succ]
          refine' Ways.take (i := 15) (oi := ⟨_, _, _, _, _, _⟩) (v := _) rfl (by kernel_rfl) (by kernel_rfl) (by kernel_rfl) (by kernel_rfl) (fun _ _ _ h => h) hHeld (Or.inl ⟨rfl, ?_⟩) ?_
          rotate_left
          · (intro W hW; (try dsimp only at hW); go_simp; (try with_reducible rfl))
          try simp only [Act.put, List.setIfInBounds_toArray, List.set_cons_zero, List.set_cons_succ]
          refine' Ways.take (i := 16) (oi := ⟨_, _, _, _, _, _⟩) (v := _) rfl (by kernel_rfl) (by kernel_rfl) (by kernel_rfl) (by kernel_rfl) (fun _ _ _ h => h) hHeld (Or.inl ⟨rfl, ?_⟩) ?_
          rotate_left
          · (intro W hW; (try dsimp only at hW); go_simp; (try with_reducible rfl))
          try simp only [Act.put, List.setIfInBounds_toArray, List.set_cons_zero, List.set_cons_succ]
          refine Ways.one (i := 17) (by kernel_rfl) rfl (fun K hK => ?_)
          go_simp
          go_at_call 50
          refine (HM.out wr.drew).mono ?_
          rintro e w9 ⟨rfl, rfl⟩
          refine hK.out _ _ hHeld ?_
          clear hK
          try simp only [List.setIfInBounds_toArray, List.set_cons_zero, List.set_cons_succ]
          refine' Ways.take (i := 18) (oi := ⟨_, _, _, _, _, _⟩) (v := _) rfl (by kernel_rfl) (by kernel_rfl) (by kernel_rfl) (by kernel_rfl) (fun _ _ _ h => h) hHeld (Or.inl ⟨rfl, ?_⟩) ?_
          rotate_left
          · (intro W hW; (try dsimp only at hW); go_simp; (try with_reducible rfl))
          try simp only [Act.put, List.setIfInBounds_toArray, List.set_cons_zero, List.set_cons_succ]
          refine' Ways.take (i := 19) (oi := ⟨_, _, _, _, _, _⟩) (v := _) rfl (by kernel_rfl) (by kernel_rfl) (by kernel_rfl) (by kernel_rfl) (fun _ _ _ h => h) hHeld (Or.inl ⟨rfl, ?_⟩) ?_
          rotate_left
          · (intro W hW; (try dsimp only at hW); go_simp; (try with_reducible rfl))
          try simp only [Act.put, List.setIfInBounds_toArray, List.set_cons_zero, List.set_cons_succ]
          refine Ways.last (by kernel_rfl) rfl (by kernel_rfl) (fun K hK => ?_)
          go_simp
          refine hK.out _ _ ?_
          clear hK hHeld
          obtain ⟨W9, hW9⟩ : ∃ W9, W9 = (wr.setCell ⟨g, x, none⟩ (.int .u8 (z : Int))).drew := ⟨_, rfl⟩
          have NX9 : Hid (∃ h', Own W9 g (.slice (some ⟨g, 0, none⟩) n n) (rowG h' n) ∧ ∀ y, y < n → h' y = if y < x + 1 then blendG c W (j + 1) y else blendG c W j y) := by rw [hW9]; exact NX.out
          have BL9 : Hid (Below g w W9) := by rw [hW9]; exact below_drewN BL.out 1
          rw [← hW9]
          clear hW9 NX BL
          go_wp2_with fail
          go_roundw
          case rel => exact ⟨x + 1, by omega, by go_num, NX9, BL9⟩
          case measure => simp [intOf]; omega
        · obtain rfl : x = n := by omega
          go_wp2_with fail
          go_roundw
          case rel =>
            obtain ⟨h, oh, eh⟩ := hh.out
            refine ⟨j + 1, by omega, by go_num, hide ?_, hbel3⟩
            rwa [show rowG h x = rowG (blendG c W (j + 1)) x from rowG_congr (fun y hy => by rw [eh y hy, if_pos hy])] at oh
          case measure => simp [intOf]; omega
    · obtain rfl : j = k := by omega
      go_wp2_with fail
      go_ret
      exact ⟨g, rfl, hown.out.more (Nat.le_of_eq HG.out.symm), by rw [← HG.out]; exact hbel.out⟩
end Go.Proofs.YtpjocddeiehckaaDoor
namespace Go.Proofs.YtpjocddeiehckaaDoor
open Go.RowKit
theorem word_row {a b n l : Nat} (X : Mat) (hl : l < a + b) {W : ML} (hW : ∀ t, t < a → ∀ y, y < n → en W t y = X t y) : rowG (blendG ((codeL a b).getD l []) W a) n = (wordL a b n X).getD l [] := by
  unfold wordL
  rw [laid_row _ hl]
  unfold rowG
  refine List.map_congr_left (fun y hy => ?_)
  congr 1
  refine gs_congr (fun t ht => ?_)
  have : G.of (((codeL a b).getD l []).getD t 0) = codeRow a l t := laid_at (n := a + b) (m := a) (codeRow a) hl ht
  rw [this, hW t ht y (List.mem_range.1 hy)]
/-- What Sums refuses. -/
def sumsBad (D : ML) (m : Int) : Prop := D.length < 1 ∨ m < 0 ∨ 14 < (D.length : Int) + m ∨ ∃ r ∈ D, r = [] ∨ r.length ≠ (D.getD 0 []).length
/-- What Sums answers. -/
def sumsAns (D : ML) (m : Int) (L : ML) (e : Int) : Prop :=
  (e = 1 ∧ L = [] ∧ sumsBad D m) ∨ (e = 0 ∧ ¬ sumsBad D m ∧ L = (wordL D.length m.toNat (D.getD 0 []).length (en D)).drop D.length)
theorem sums_once {D : ML} {m : Int} {L L' : ML} {e e' : Int} (h : sumsAns D m L e) (k : sumsAns D m L' e') : L = L' ∧ e = e' := by
  rcases h with ⟨rfl, rfl, h⟩ | ⟨rfl, h, rfl⟩
  · rcases k with ⟨rfl, rfl, _⟩ | ⟨_, k, _⟩
    · exact ⟨rfl, rfl⟩
    · exact absurd h k
  · rcases k with ⟨_, _, k⟩ | ⟨rfl, _, rfl⟩
    · exact absurd k h
    · exact ⟨rfl, rfl⟩
theorem sums_fit {D : ML} {m : Int} (h : ¬ sumsBad D m) (hb : ∀ r ∈ D, ∀ x ∈ r, x < 256) : ∃ b : Nat, m = (b : Int) ∧ 1 ≤ D.length ∧ D.length + b ≤ 14 ∧ 1 ≤ (D.getD 0 []).length ∧ Shape D D.length (D.getD 0 []).length := by
  have h1 : ¬ D.length < 1 := fun q => h (.inl q)
  have h2 : ¬ m < 0 := fun q => h (.inr (.inl q))
  have h3 : ¬ 14 < (D.length : Int) + m := fun q => h (.inr (.inr (.inl q)))
  have h4 : ∀ r ∈ D, r ≠ [] ∧ r.length = (D.getD 0 []).length := fun r hr => by
    refine ⟨fun q => h (.inr (.inr (.inr ⟨r, hr, .inl q⟩))), ?_⟩
    rcases Decidable.em (r.length = (D.getD 0 []).length) with e | e
    · exact e
    · exact absurd (.inr (.inr (.inr ⟨r, hr, .inr e⟩))) h
  refine ⟨m.toNat, by omega, by omega, by omega, ?_, rfl, fun r hr => (h4 r hr).2, hb⟩
  have := (h4 _ (mem_getD (xss := D) (k := 0) (by omega))).1
  have := List.length_pos_iff.2 this
  omega
/-- What Sums answers, with the data before it. -/
theorem sums_all {D L : ML} {m : Int} (h : sumsAns D m L 0) (hb : ∀ r ∈ D, ∀ x ∈ r, x < 256) : ∃ b n : Nat, m = (b : Int) ∧ 1 ≤ D.length ∧ D.length + b ≤ 14 ∧ 1 ≤ n ∧ n = (D.getD 0 []).length ∧ L.length = b ∧ D ++ L = wordL D.length b n (en D) := by
  rcases h with ⟨h, _⟩ | ⟨_, h, rfl⟩
  · cases h
  · obtain ⟨b, rfl, h1, h2, h3, h4⟩ := sums_fit h hb
    refine ⟨b, _, rfl, h1, h2, h3, rfl, ?_, ?_⟩
    · rw [List.length_drop, wordL_len, Int.toNat_natCast]; omega
    · rw [Int.toNat_natCast]
      have e := wordL_low (m := b) h4
      conv => lhs; lhs; rw [← e]
      rw [List.take_append_drop]
end Go.Proofs.YtpjocddeiehckaaDoor
namespace Go.Proofs.YtpjocddeiehckaaDoor
open Go.RowKit
/-- Rows that come in small. -/
def SmallM (w : World) (A : Option Addr) (n : Nat) (W : ML) : Prop := IsM w A W ∧ W.length = n ∧ n ≤ 1500 ∧ (∀ r ∈ W, ∀ x ∈ r, x < 256) ∧ ∀ r ∈ W, r.length ≤ 1500
/-- A list of rows that is handed back. -/
def OutM (w : World) (v : Value) (L : ML) : Prop := ∃ A n c, v = .slice A n c ∧ L.length = n ∧ IsM w A L ∧ (A = none → c = 0) ∧ n ≤ 9223372036854775807
def I64 (z : Int) : Prop := -9223372036854775808 ≤ z ∧ z ≤ 9223372036854775807
def SumsC : Prop := ∀ (A : Option Addr) (n c : Nat) (m : Int) (D : ML) (w : World), SmallM w A n D → I64 m →
  Calls Tryd.prog 13 #[.slice A n c, .int .i64 m] w fun e w' => ∃ v L E, e = .returned (.tuple #[v, .int .i64 E]) ∧ OutM w' v L ∧ sumsAns D m L E ∧ Below w.heap.size w w'
theorem SmallM.below {w w' : World} {A : Option Addr} {n : Nat} {W : ML} (h : SmallM w A n W) (k : Below w.heap.size w w') : SmallM w' A n W := ⟨h.1.below k, h.2⟩
theorem SmallM.million {w : World} {A : Option Addr} {n : Nat} {W : ML} (h : SmallM w A n W) : ∀ r ∈ W, r.length ≤ 1000000 := fun r hr => Nat.le_trans (h.2.2.2.2 r hr) (by decide)
theorem two_rows (w : World) (a b : Nat) (ha : a < 256) (hb : b < 256) {g1 g2 g3 : Nat} (e1 : g1 = w.heap.size) (e2 : g2 = (w.alloc (.cells #[.int .u8 (a : Int)] 5)).heap.size) (e3 : g3 = ((w.alloc (.cells #[.int .u8 (a : Int)] 5)).alloc (.cells #[.int .u8 (b : Int)] 5)).heap.size) :
    SmallM (((w.alloc (.cells #[.int .u8 (a : Int)] 5)).alloc (.cells #[.int .u8 (b : Int)] 5)).alloc (.cells #[.slice (some ⟨g1, 0, none⟩) 1 1, .slice (some ⟨g2, 0, none⟩) 1 1] 34)) (some ⟨g3, 0, none⟩) 2 [[a], [b]] := by
  have h1 := ((isB_one w a e1).keep (below_alloc _ (.cells #[.int .u8 (b : Int)] 5))).keep (below_alloc _ (.cells #[.slice (some ⟨g1, 0, none⟩) 1 1, .slice (some ⟨g2, 0, none⟩) 1 1] 34))
  have h2 := (isB_one _ b e2).keep (below_alloc _ (.cells #[.slice (some ⟨g1, 0, none⟩) 1 1, .slice (some ⟨g2, 0, none⟩) 1 1] 34))
  refine ⟨⟨_, rdV_new _ _ _ _ _ e3 rfl, rfl, fun i hi => ?_⟩, rfl, by omega, fun r hr x hx => ?_, fun r hr => ?_⟩
  · match i, hi with
    | 0, _ => exact h1
    | 1, _ => exact h2
    | n + 2, h => exact absurd h (by simp)
  · rcases List.mem_cons.1 hr with rfl | hr
    · simp at hx; omega
    · rcases List.mem_cons.1 hr with rfl | hr
      · simp at hx; omega
      · exact absurd hr (by simp)
  · rcases List.mem_cons.1 hr with rfl | hr
    · simp
    · rcases List.mem_cons.1 hr with rfl | hr
      · simp
      · exact absurd hr (by simp)
theorem known_ans {L : ML} {E : Int} (h : sumsAns [[1], [2]] 1 L E) : L = [[123]] ∧ E = 0 := by
  rcases h with ⟨_, _, q⟩ | ⟨rfl, _, rfl⟩
  · exfalso
    rcases q with q | q | q | ⟨r, hr, q⟩
    · exact absurd q (by decide)
    · exact absurd q (by decide)
    · exact absurd q (by decide)
    · rcases List.mem_cons.1 hr with rfl | hr
      · exact absurd q (by decide)
      · rcases List.mem_cons.1 hr with rfl | hr
        · exact absurd q (by decide)
        · exact absurd hr (by simp)
  · exact ⟨by decide +kernel, rfl⟩
set_option maxHeartbeats 1600000 in
theorem known8_any (hS : SumsC) (w : World) : Calls Tryd.prog 12 #[] w fun e w' => e = .returned (.bool true) ∧ Below w.heap.size w w' := by
  have HC := hide (fun (g3 : Nat) (w' : World) (h : SmallM w' (some ⟨g3, 0, none⟩) 2 [[1], [2]]) => hS (some ⟨g3, 0, none⟩) 2 2 1 [[1], [2]] w' h (by unfold I64; omega))
  clear hS
  go_enter Tryd.func12, Tryd.ntmps12
  go_wp2_with fail
  have TR := two_rows w 1 2 (g1 := w.heap.size) (g2 := w.heap.size + 1) (g3 := w.heap.size + 1 + 1) (by decide) (by decide) rfl (by simp) (by simp)
  have k1 := (((below_alloc w (.cells #[.int .u8 ((1 : Nat) : Int)] 5)).trans ((below_alloc _ (.cells #[.int .u8 ((2 : Nat) : Int)] 5)).mono (by simp))).trans ((below_alloc _ (.cells #[.slice (some ⟨w.heap.size, 0, none⟩) 1 1, .slice (some ⟨w.heap.size + 1, 0, none⟩) 1 1] 34)).mono (by simp; omega)))
  rw [show ((1 : Nat) : Int) = 1 from rfl, show ((2 : Nat) : Int) = 2 from rfl] at TR k1
  have TR := hide TR
  have K1 := hide k1
  clear k1
  obtain ⟨W3, hW3⟩ : ∃ W3, W3 = (((w.alloc (.cells #[.int .u8 1] 5)).alloc (.cells #[.int .u8 2] 5)).alloc (.cells #[.slice (some ⟨w.heap.size, 0, none⟩) 1 1, .slice (some ⟨w.heap.size + 1, 0, none⟩) 1 1] 34)) := ⟨_, rfl⟩
  rw [← hW3] at TR K1 ⊢
  obtain ⟨G, hG⟩ : ∃ G, G = w.heap.size + 1 + 1 := ⟨_, rfl⟩
  rw [← hG] at TR ⊢
  clear hW3 hG
  refine (HC.out G W3 TR.out).mono ?_
  rintro e w1 ⟨v, L, E, rfl, o1, ha, k1⟩
  obtain ⟨rfl, rfl⟩ := known_ans ha
  obtain ⟨A, n, c, rfl, hn, im, -, -⟩ := o1
  obtain rfl : 1 = n := hn
  obtain ⟨b, off, A2, c2, rfl, ck, ib, l2, m2⟩ := im.at_ 0 (by decide)
  have e2 : ([[123]] : ML).getD 0 [] = [123] := rfl
  rw [e2, show ([123] : List Nat).length = 1 from rfl] at ck ib l2
  have ck0 : w1.cell? ⟨b, off, none⟩ = some (.slice A2 1 c2) := ck
  have K2 := hide (below_step K1.out k1)
  have ka := below_alloc w1 (.cells #[.int .u8 123] 5)
  have HS := hide (same_any A2 (some ⟨w1.heap.size, 0, none⟩) 1 1 c2 1 [123] [123] (w1.alloc (.cells #[.int .u8 123] 5)) (ib.keep ka).rd (isB_new w1 _ [123] rfl (by decide) _ 1 rfl rfl).rd rfl rfl (by omega) (by omega))
  have KA := hide (K2.out.trans (ka.mono K2.out.size))
  clear im ka k1 ib ha ck HC TR
  go_wp2_with fail
  refine HS.out.mono ?_
  rintro e w2 ⟨rfl, d, rfl⟩
  go_wp2_with fail
  go_ret
  exact ⟨rfl, below_draw KA.out d⟩
end Go.Proofs.YtpjocddeiehckaaDoor
namespace Go.Proofs.YtpjocddeiehckaaDoor
open Go.RowKit
/-- Rows that may be handed in. -/
def fitsOk (W : ML) (k m : Int) : Prop := codeE k m = 0 ∧ (W.length : Int) = k + m ∧ ∃ n, ∀ r ∈ W, r ≠ [] → r.length = n
/-- What fits tells. -/
def fitAns (W : ML) (k m : Int) (v : Value) : Prop :=
  (∃ n : Nat, v = .tuple #[.int .i64 (n : Int), .bool true] ∧ codeE k m = 0 ∧ (W.length : Int) = k + m ∧ ∀ r ∈ W, r ≠ [] → r.length = n) ∨ (v = .tuple #[.int .i64 0, .bool false] ∧ ¬ fitsOk W k m)
theorem codeE_fits {k m : Int} (h : codeE k m = 0) : 1 ≤ k ∧ 0 ≤ m ∧ k + m ≤ 14 := by
  unfold codeE at h
  by_cases q : k < 1 ∨ m < 0 ∨ 14 < k + m
  · rw [if_pos q] at h; cases h
  · omega
set_option maxHeartbeats 1600000 in
theorem rfits_any (A : Option Addr) (n c : Nat) (k m : Int) (W : ML) (w : World) (hA : IsM w A W) (hn : W.length = n) (h63 : n ≤ 9223372036854775807) (k1 : -9223372036854775808 ≤ k) (k2 : k ≤ 9223372036854775807) (m1 : -9223372036854775808 ≤ m) (m2 : m ≤ 9223372036854775807) :
    Calls Tryd.prog 27 #[.slice A n c, .int .i64 k, .int .i64 m] w fun e w' => ∃ v, e = .returned v ∧ fitAns W k m v ∧ Below w.heap.size w w' := by
  have HA := hide hA
  have HN := hide hn
  have M1 := hide (rcode_all k m w k1 k2 m1 m2)
  have HE := hide (show ∀ h : codeE k m = 0, 1 ≤ k ∧ 0 ≤ m ∧ k + m ≤ 14 from codeE_fits)
  have HNO := hide (show codeE k m ≠ 0 → ¬ fitsOk W k m from fun h q => h q.1)
  obtain ⟨E, hE⟩ : ∃ E, E = codeE k m := ⟨_, rfl⟩
  rw [← hE] at M1 HE HNO
  have HEQ := hide hE
  clear hA hn hE
  go_enter Tryd.func27, Tryd.ntmps27
  go_wp2_with fail
  refine M1.out.mono ?_
  rintro e w1 ⟨v, rfl, o1, k1'⟩
  have K1 := hide k1'
  clear o1 k1' M1
  by_cases e0 : E = 0
  · subst e0
    obtain ⟨hk, hm, hkm⟩ := HE.out rfl
    by_cases hl : (n : Int) = k + m
    · have hne : ((n : Int) != k + m) = false := by simp [hl]
      have HL := hide hl
      have hn14 : n ≤ 14 := by omega
      clear hl
      go_wp2_with fail
      go_loop [10, 11] (fun s i => ∃ y z : Nat, y ≤ n ∧ i = .int .i64 (y : Int) ∧ s = .int .i64 (z : Int) ∧ Hid ((∀ t, t < y → W.getD t [] ≠ [] → (W.getD t []).length = z) ∧ (z = 0 → ∀ t, t < y → W.getD t [] = []) ∧ (z ≠ 0 → ∃ t, t < y ∧ W.getD t [] ≠ []))) (fun _ i => n - (intOf i).toNat)
      case atStart => exact ⟨0, 0, Nat.zero_le _, rfl, rfl, hide ⟨fun t ht => absurd ht (Nat.not_lt_zero t), fun _ t ht => absurd ht (Nat.not_lt_zero t), fun h => absurd rfl h⟩⟩
      case round =>
        obtain ⟨y, z, hy, rfl, rfl, hall⟩ := hrel
        by_cases hlt : y < n
        · obtain ⟨b3, off3, A3, c3, rfl, cy0, -, l3, m3⟩ := HA.out.at_ y (by rw [HN.out]; exact hlt)
          obtain ⟨ly, hly⟩ : ∃ ly, ly = (W.getD y []).length := ⟨_, rfl⟩
          rw [← hly] at cy0 l3
          have HLY := hide hly
          have cy := (K1.out.cell (cell_lt cy0)).trans cy0
          have HMEM := hide (show W.getD y [] ∈ W from mem_getD (by rw [HN.out]; exact hlt))
          clear hly cy0
          by_cases hz : ly = 0
          · have hz0 : ((ly : Int) == 0) = true := by simp [hz]
            have HZ := hide hz
            clear hz
            go_wp2_with fail
            go_round
            case rel =>
              have he : W.getD y [] = [] := List.eq_nil_of_length_eq_zero (by rw [← HLY.out]; exact HZ.out)
              refine ⟨y + 1, z, by omega, by go_num, rfl, hide ⟨fun t ht hne => ?_, fun hz t ht => ?_, fun hz => ?_⟩⟩
              · by_cases e : t = y
                · subst e; exact absurd he hne
                · exact hall.out.1 t (by omega) hne
              · by_cases e : t = y
                · subst e; exact he
                · exact hall.out.2.1 hz t (by omega)
              · obtain ⟨t, h1, h2⟩ := hall.out.2.2 hz
                exact ⟨t, by omega, h2⟩
            case measure => simp [intOf]; omega
          · have hz0 : ((ly : Int) == 0) = false := by simp; omega
            by_cases hzz : z = 0
            · have hzz0 : ((z : Int) != 0) = false := by simp [hzz]
              have HZZ := hide hzz
              clear hzz hz
              go_wp2_with fail
              go_round
              case rel =>
                refine ⟨y + 1, ly, by omega, by go_num, rfl, hide ⟨fun t ht hne => ?_, fun hz t ht => ?_, fun hz => ?_⟩⟩
                · by_cases e : t = y
                  · subst e; exact HLY.out.symm
                  · exact absurd (hall.out.2.1 HZZ.out t (by omega)) hne
                · exfalso
                  rw [hz] at hz0
                  simp at hz0
                · exact ⟨y, by omega, fun q => hz (by rw [HLY.out, q]; rfl)⟩
              case measure => simp [intOf]; omega
            · have hzz0 : ((z : Int) != 0) = true := by simp; omega
              by_cases hq : ly = z
              · have hne : ((ly : Int) != (z : Int)) = false := by simp [hq]
                have HQ := hide hq
                clear hq hz
                go_wp2_with fail
                go_round
                case rel =>
                  refine ⟨y + 1, ly, by omega, by go_num, rfl, hide ⟨fun t ht hne => ?_, fun hz t ht => ?_, fun hz => ?_⟩⟩
                  · by_cases e : t = y
                    · subst e; exact HLY.out.symm
                    · rw [HQ.out]; exact hall.out.1 t (by omega) hne
                  · exfalso
                    rw [hz] at hz0
                    simp at hz0
                  · exact ⟨y, by omega, fun q => hz (by rw [HLY.out, q]; rfl)⟩
                case measure => simp [intOf]; omega
              · have hne : ((ly : Int) != (z : Int)) = true := by simp; omega
                have HQ := hide (And.intro hq (And.intro hz hzz))
                clear hq hz hzz
                go_wp2_with fail
                go_ret2
                refine ⟨_, rfl, .inr ⟨rfl, fun hf => ?_⟩, K1.out⟩
                obtain ⟨_, _, N, hN⟩ := hf
                have hyne : W.getD y [] ≠ [] := fun q => HQ.out.2.1 (by rw [HLY.out, q]; rfl)
                have h1 := hN _ HMEM.out hyne
                have hex := hall.out.2.2 HQ.out.2.2
                obtain ⟨t, ht, htn⟩ := hex
                have h2 := hall.out.1 t ht htn
                have h3 := hN _ (mem_getD (xss := W) (k := t) (by rw [HN.out]; omega)) htn
                exact HQ.out.1 (by rw [HLY.out, h1, ← h3, h2])
        · obtain rfl : y = n := by omega
          go_wp2_with fail
          go_ret2
          refine ⟨_, rfl, .inl ⟨z, rfl, HEQ.out.symm, by rw [HN.out]; exact HL.out, fun r hr hne => ?_⟩, K1.out⟩
          obtain ⟨t, ht, rfl⟩ := List.getElem_of_mem hr
          have e : W.getD t [] = W[t] := by simp [ht]
          have := hall.out.1 t (by rw [← HN.out]; exact ht)
          rw [e] at this
          exact this hne
    · have hne : ((n : Int) != k + m) = true := by simp [hl]
      have HL := hide hl
      clear hl
      go_wp2_with fail
      go_ret2
      exact ⟨_, rfl, .inr ⟨rfl, fun q => HL.out (by rw [← HN.out]; exact q.2.1)⟩, K1.out⟩
  · have hE1 : (E != 0) = true := by simp [e0]
    have HX := hide (HNO.out e0)
    clear e0
    go_wp2_with fail
    go_ret2
    exact ⟨_, rfl, .inr ⟨rfl, HX.out⟩, K1.out⟩
end Go.Proofs.YtpjocddeiehckaaDoor
