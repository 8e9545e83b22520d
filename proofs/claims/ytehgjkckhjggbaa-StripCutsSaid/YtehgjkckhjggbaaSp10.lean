/- The contract of the document's blend: a sum of rows, each times its number. Condition: at most 1000000 numbers in a row. What Sums answers, in words; the rows that fit. It names nothing of the program. A strip's first shards by lists: how high they are, and how they come about block by block. No program. What the project's shard is to answer, said of its calls (to be shown of what lands). Condition: at most 1000000 rows of at most 1000000 numbers. -/
import Derived.Test.YtehgjkckhjggbaaSp6
import Derived.Test.YtehgjkckhjggbaaSp4
import Derived.Test.YtehgjkckhjggbaaSp3
import Derived.Test.YtehgjkckhjggbaaSp7
namespace Go.Proofs.Ytehgjkckhjggbaa
open Go.RowKit
def rowG (h : Nat → G) (n : Nat) : List Nat := (List.range n).map fun y => (h y).n
theorem rowG_len (h : Nat → G) (n : Nat) : (rowG h n).length = n := by simp [rowG]
theorem rowG_get (h : Nat → G) {n y : Nat} (hy : y < n) : (rowG h n).getD y 0 = (h y).n := by simp [rowG, hy]
theorem rowG_set (h : Nat → G) (n x : Nat) (z : G) : (rowG h n).set x z.n = rowG (fun y => if y = x then z else h y) n := by
  apply List.ext_getElem
  · simp [rowG]
  · intro i h1 h2
    rw [List.getElem_set]
    simp only [rowG, List.getElem_map, List.getElem_range]
    by_cases e : x = i
    · subst e; rw [if_pos rfl, if_pos rfl]
    · rw [if_neg e, if_neg (fun q => e q.symm)]
theorem rowG_congr {h h' : Nat → G} {n : Nat} (e : ∀ y, y < n → h y = h' y) : rowG h n = rowG h' n := List.map_congr_left (fun y hy => by rw [e y (List.mem_range.1 hy)])
/-- The sum of the first j rows, each times its number. -/
def blendG (c : List Nat) (W : ML) (j : Nat) : Nat → G := fun x => gs j (fun t => G.of (c.getD t 0) * en W t x)
theorem blendG_step (c : List Nat) (W : ML) (j x : Nat) : blendG c W (j + 1) x = blendG c W j x + G.of (c.getD j 0) * en W j x := rfl
theorem rowG_zero (c : List Nat) (W : ML) (n : Nat) : List.replicate n 0 = rowG (blendG c W 0) n := by
  apply List.ext_getElem
  · simp [rowG]
  · intro i h1 h2
    simp only [List.getElem_replicate, rowG, List.getElem_map, List.getElem_range]
    rfl
set_option maxHeartbeats 3200000 in
set_option maxRecDepth 100000 in
theorem rblend_any (C A : Option Addr) (nc cc k n ca : Nat) (c : List Nat) (W : ML) (w : World) (hC : Rd w C c) (hc : c.length = nc) (hc8 : ∀ x ∈ c, x < 256) (hA : IsM w A W) (hs : Shape W k n) (hk : 1 ≤ k) (hkc : k ≤ nc) (h3 : n ≤ 1000000) (_hcc : nc ≤ 9223372036854775807) (_hk6 : k ≤ 1000000) :
    Calls Try.prog 104 #[.slice C nc cc, .slice A k ca] w fun e w' => ∃ g, e = .returned (.slice (some ⟨g, 0, none⟩) n n) ∧ Own w' w.heap.size (.slice (some ⟨g, 0, none⟩) n n) (rowG (blendG c W k) n) ∧ Below w.heap.size w w' := by
  obtain ⟨i0, hi, hz0, hz1, hz2⟩ := info_parts Try.info_u8'
  have HC := hide hC
  have HCL := hide (And.intro hc hc8)
  have HA := hide hA
  have HS := hide hs
  obtain ⟨b2, off2, A2, c2, rfl, cr0, -, l2, m2⟩ := hA.at_ 0 (by rw [hs.high]; omega)
  rw [hs.len_at 0 (by omega)] at cr0 l2
  have cr00 : w.cell? ⟨b2, off2, none⟩ = some (.slice A2 n c2) := cr0
  have hk0 : 0 < (k : Int) := by omega
  clear hC hc hc8 hA hs cr0
  go_enter Try.func104, Try.ntmps104
  go_wp2_with (at_make; refine halt ?_)
  refine ⟨?_⟩
  refine wpList_make_full _ rfl (.tmp 11) (.tmp 11) 23 rfl w.heap.size 5 i0 (.int .u8 0) 1 Try.underlying23 hi hz0 hz1 .i64 .i64 n n n rfl rfl rfl rfl (by rw [hz2]; omega) (by unfold maxLen; omega) (Nat.le_refl _) ?_
  intro w2 h2 g2
  have o2 := made_bytes h2
  rw [rowG_zero c W n] at o2
  have k2 : Below w.heap.size w w2 := (Below.refl _ _).grown g2 (Nat.le_refl _) (by simp)
  clear h2 g2 hi hz0 hz1 hz2 i0
  obtain ⟨g, hg⟩ : ∃ g, g = w.heap.size := ⟨_, rfl⟩
  rw [← hg] at o2 k2 ⊢
  have HG := hide hg
  have O2 := hide o2
  have K2 := hide k2
  clear hg o2 k2
  go_wp2_with fail
  go_loopw [6] (fun i wr => ∃ j : Nat, j ≤ k ∧ i = .int .i64 (j : Int) ∧ Hid (Own wr g (.slice (some ⟨g, 0, none⟩) n n) (rowG (blendG c W j) n)) ∧ Hid (Below g w wr)) (fun i _ => k - (intOf i).toNat)
  case atStart => exact ⟨0, Nat.zero_le _, rfl, O2, K2⟩
  case round =>
    obtain ⟨j, hj, rfl, hown, hbel⟩ := hrel
    by_cases hlt : j < k
    · obtain ⟨b4, off4, A3, c3, e4, cj0, ij, l3, m3⟩ := HA.out.at_ j (by rw [HS.out.high]; exact hlt)
      cases e4
      have hrow := HS.out.row hlt
      rw [hrow.1] at cj0 l3 ij
      obtain ⟨bc, offc, rfl, cq0, hq⟩ := at_place HC.out HCL.out.1 HCL.out.2 j (by omega)
      have HIJ := hide ij
      have HRW := hide hrow
      have HCJ := hide cj0
      have HCQ := hide cq0
      obtain ⟨q, hqe⟩ : ∃ q, q = c.getD j 0 := ⟨_, rfl⟩
      rw [← hqe] at HCQ hq
      have HQE := hide hqe
      have hjc : (j : Int) < (nc : Int) := by omega
      clear ij hrow cj0 cq0 hqe
      go_wp2_with fail
      go_loopw [7] (fun i w3 => ∃ x : Nat, x ≤ n ∧ i = .int .i64 (x : Int) ∧ Hid (∃ h, Own w3 g (.slice (some ⟨g, 0, none⟩) n n) (rowG h n) ∧ ∀ y, y < n → h y = if y < x then blendG c W (j + 1) y else blendG c W j y) ∧ Hid (Below g w w3)) (fun i _ => n - (intOf i).toNat)
      case atStart => exact ⟨0, Nat.zero_le _, rfl, hide ⟨_, hown.out, fun y _ => (if_neg (Nat.not_lt_zero y)).symm⟩, hbel⟩
      case round =>
        obtain ⟨x, hx, rfl, hh, hbel3⟩ := hrel
        by_cases hltx : x < n
        · obtain ⟨h, oh, eh⟩ := hh.out
          have kw : Below w.heap.size w wr := by rw [← HG.out]; exact hbel3.out
          obtain ⟨b3, off3, rfl, cp0, hp⟩ := at_place (HIJ.out.keep kw).rd HRW.out.1 HRW.out.2 x hltx
          have cs := oh.cells_ (rowG_len h n) x
          have co := cs.1 hltx
          rw [rowG_get h hltx] at co
          have fo := cs.2
          have cj := (kw.cell (cell_lt HCJ.out)).trans HCJ.out
          have cq := (kw.cell (cell_lt HCQ.out)).trans HCQ.out
          obtain ⟨p, hpe⟩ : ∃ p, p = (W.getD j []).getD x 0 := ⟨_, rfl⟩
          rw [← hpe] at cp0 hp
          have hx8 := (h x).lt
          have hm8 := gmul_lt p hq
          have hxo := u8_xor_nat (h x).n (gmul q p) hx8 hm8
          have hz : (h x + G.of q * G.of p).n = (h x).n ^^^ gmul q p := by rw [G.add_n, G.mul_n, G.of_n hq, G.of_n hp]
          have st := oh.stored' (rowG_len h n) x (h x + G.of q * G.of p).n
          rw [rowG_set] at st
          have NX : Hid (∃ h', Own (wr.setCell ⟨g, x, none⟩ (.int .u8 (((h x + G.of q * G.of p).n : Nat) : Int))) g (.slice (some ⟨g, 0, none⟩) n n) (rowG h' n) ∧ ∀ y, y < n → h' y = if y < x + 1 then blendG c W (j + 1) y else blendG c W j y) := by
            refine ⟨_, st, fun y hy => ?_⟩
            by_cases e : y = x
            · subst e
              rw [if_pos rfl, if_pos (by omega), blendG_step, eh y hy, if_neg (by omega), ← HQE.out]
              have : en W j y = G.of p := by unfold en; rw [hpe]
              rw [this]
            · rw [if_neg e, eh y hy]
              by_cases e2 : y < x
              · rw [if_pos e2, if_pos (by omega)]
              · rw [if_neg e2, if_neg (by omega)]
          have BL := hide (show Below g w (wr.setCell ⟨g, x, none⟩ (.int .u8 (((h x + G.of q * G.of p).n : Nat) : Int))) from hbel3.out.setCell (Nat.le_refl _) _)
          rw [hz] at NX BL
          obtain ⟨o, ho⟩ : ∃ o, o = (h x).n := ⟨_, rfl⟩
          rw [← ho] at NX BL co hxo
          obtain ⟨u, hu⟩ : ∃ u, u = gmul q p := ⟨_, rfl⟩
          have HM := hide (fun w' => rmul_any q p w' hq hp)
          rw [← hu] at NX BL HM hxo
          obtain ⟨z, hzz⟩ : ∃ z, z = o ^^^ u := ⟨_, rfl⟩
          rw [← hzz] at NX BL hxo
          have gl : g < wr.heap.size := cell_lt co
          clear st hz hzz hx8 hm8 cs oh eh hh hbel3 hpe ho hu hown hbel
          go_wp2_with fail
          refine Ways.start (fun W' => W'.cell? ⟨b3, off3 + x, none⟩ = some (.int .u8 (p : Int)) ∧ W'.cell? ⟨b2, off2 + j, none⟩ = some (.slice (some ⟨b3, off3, none⟩) n c3) ∧ W'.cell? ⟨bc, offc + j, none⟩ = some (.int .u8 (q : Int)) ∧ W'.cell? ⟨g, x, none⟩ = some (.int .u8 (o : Int))) 20 21 #[false, false, false, false, false, false, false, false, false, false, false, false, false, false, false, false, false, false, false, false, false] (by kernel_rfl) (by kernel_rfl) (by kernel_rfl) ?_
          have hHeld : wr.drew.cell? ⟨b3, off3 + x, none⟩ = some (.int .u8 (p : Int)) ∧ wr.drew.cell? ⟨b2, off2 + j, none⟩ = some (.slice (some ⟨b3, off3, none⟩) n c3) ∧ wr.drew.cell? ⟨bc, offc + j, none⟩ = some (.int .u8 (q : Int)) ∧ wr.drew.cell? ⟨g, x, none⟩ = some (.int .u8 (o : Int)) := ⟨cp0, cj, cq, co⟩
          refine' Ways.take (i := 0) (oi := ⟨_, _, _, _, _, _⟩) (v := _) rfl (by kernel_rfl) (by kernel_rfl) (by kernel_rfl) (by kernel_rfl) (fun _ _ _ h => h) hHeld (Or.inl ⟨rfl, ?_⟩) ?_
          rotate_left
          · (intro W hW; (try dsimp only at hW); go_simp; (try with_reducible rfl))
          try simp only [Act.put, List.setIfInBounds_toArray, List.set_cons_zero, List.set_cons_succ]
          refine' Ways.take (i := 1) (oi := ⟨_, _, _, _, _, _⟩) (v := _) rfl (by kernel_rfl) (by kernel_rfl) (by kernel_rfl) (by kernel_rfl) (fun _ _ _ h => h) hHeld (Or.inl ⟨rfl, ?_⟩) ?_
          rotate_left
          · (intro W hW; (try dsimp only at hW); go_simp; (try with_reducible rfl))
          try simp only [Act.put, List.setIfInBounds_toArray, List.set_cons_zero, List.set_cons_succ]
          refine' Ways.take (i := 2) (oi := ⟨_, _, _, _, _, _⟩) (v := _) rfl (by kernel_rfl) (by kernel_rfl) (by kernel_rfl) (by kernel_rfl) (fun _ _ _ h => h) hHeld (Or.inl ⟨rfl, ?_⟩) ?_
          rotate_left
          · (intro W hW; (try dsimp only at hW); go_simp; (try with_reducible rfl))
          try simp only [Act.put, List.setIfInBounds_toArray, List.set_cons_zero, List.set_cons_succ]
          refine' Ways.take (i := 3) (oi := ⟨_, _, _, _, _, _⟩) (v := _) rfl (by kernel_rfl) (by kernel_rfl) (by kernel_rfl) (by kernel_rfl) (fun _ _ _ h => h) hHeld (Or.inl ⟨rfl, ?_⟩) ?_
          rotate_left
          · (intro W hW; (try dsimp only at hW); go_simp; (try with_reducible rfl))
          try simp only [Act.put, List.setIfInBounds_toArray, List.set_cons_zero, List.set_cons_succ]
          refine' Ways.take (i := 4) (oi := ⟨_, _, _, _, _, _⟩) (v := _) rfl (by kernel_rfl) (by kernel_rfl) (by kernel_rfl) (by kernel_rfl) (fun _ _ _ h => h) hHeld (Or.inl ⟨rfl, ?_⟩) ?_
          rotate_left
          · (intro W hW; (try dsimp only at hW); go_simp; (try with_reducible rfl))
          try simp only [Act.put, List.setIfInBounds_toArray, List.set_cons_zero, List.set_cons_succ]
          refine' Ways.take (i := 5) (oi := ⟨_, _, _, _, _, _⟩) (v := _) rfl (by kernel_rfl) (by kernel_rfl) (by kernel_rfl) (by kernel_rfl) (fun _ _ _ h => h) hHeld (Or.inl ⟨rfl, ?_⟩) ?_
          rotate_left
          · (intro W hW; (try dsimp only at hW); go_simp; (try with_reducible rfl))
          try simp only [Act.put, List.setIfInBounds_toArray, List.set_cons_zero, List.set_cons_succ]
          refine' Ways.take (i := 6) (oi := ⟨_, _, _, _, _, _⟩) (v := _) rfl (by kernel_rfl) (by kernel_rfl) (by kernel_rfl) (by kernel_rfl) (fun _ _ _ h => h) hHeld (Or.inl ⟨rfl, ?_⟩) ?_
          rotate_left
          · (intro W hW; (try dsimp only at hW); go_simp; (try with_reducible rfl))
          try simp only [Act.put, List.setIfInBounds_toArray, List.set_cons_zero, List.set_cons_succ]
          refine' Ways.take (i := 7) (oi := ⟨_, _, _, _, _, _⟩) (v := _) rfl (by kernel_rfl) (by kernel_rfl) (by kernel_rfl) (by kernel_rfl) (fun _ _ _ h => h) hHeld (Or.inl ⟨rfl, ?_⟩) ?_
          rotate_left
          · (intro W hW; (try dsimp only at hW); go_simp; (try with_reducible rfl))
          try simp only [Act.put, List.setIfInBounds_toArray, List.set_cons_zero, List.set_cons_succ]
          refine' Ways.take (i := 8) (oi := ⟨_, _, _, _, _, _⟩) (v := _) rfl (by kernel_rfl) (by kernel_rfl) (by kernel_rfl) (by kernel_rfl) (fun _ _ _ h => h) hHeld (Or.inl ⟨rfl, ?_⟩) ?_
          rotate_left
          · (intro W hW; (try dsimp only at hW); go_simp; (try with_reducible rfl))
          try simp only [Act.put, List.setIfInBounds_toArray, List.set_cons_zero, List.set_cons_succ]
          refine' Ways.take (i := 9) (oi := ⟨_, _, _, _, _, _⟩) (v := _) rfl (by kernel_rfl) (by kernel_rfl) (by kernel_rfl) (by kernel_rfl) (fun _ _ _ h => h) hHeld (Or.inl ⟨rfl, ?_⟩) ?_
          rotate_left
          · (intro W hW; (try dsimp only at hW); go_simp; (try with_reducible rfl))
          try simp only [Act.put, List.setIfInBounds_toArray, List.set_cons_zero, List.set_cons_succ]
          refine' Ways.take (i := 10) (oi := ⟨_, _, _, _, _, _⟩) (v := _) rfl (by kernel_rfl) (by kernel_rfl) (by kernel_rfl) (by kernel_rfl) (fun _ _ _ h => h) hHeld (Or.inl ⟨rfl, ?_⟩) ?_
          rotate_left
          · (intro W hW; (try dsimp only at hW); go_simp; (try with_reducible rfl))
          try simp only [Act.put, List.setIfInBounds_toArray, List.set_cons_zero, List.set_cons_succ]
          refine' Ways.take (i := 11) (oi := ⟨_, _, _, _, _, _⟩) (v := _) rfl (by kernel_rfl) (by kernel_rfl) (by kernel_rfl) (by kernel_rfl) (fun _ _ _ h => h) hHeld (Or.inl ⟨rfl, ?_⟩) ?_
          rotate_left
          · (intro W hW; (try dsimp only at hW); go_simp; (try with_reducible rfl))
          try simp only [Act.put, List.setIfInBounds_toArray, List.set_cons_zero, List.set_cons_succ]
          refine' Ways.take (i := 12) (oi := ⟨_, _, _, _, _, _⟩) (v := _) rfl (by kernel_rfl) (by kernel_rfl) (by kernel_rfl) (by kernel_rfl) (fun _ _ _ h => h) hHeld (Or.inl ⟨rfl, ?_⟩) ?_
          rotate_left
          · (intro W hW; (try dsimp only at hW); go_simp; (try with_reducible rfl))
          try simp only [Act.put, List.setIfInBounds_toArray, List.set_cons_zero, List.set_cons_succ]
          refine' Ways.take (i := 13) (oi := ⟨_, _, _, _, _, _⟩) (v := _) rfl (by kernel_rfl) (by kernel_rfl) (by kernel_rfl) (by kernel_rfl) (fun _ _ _ h => h) hHeld (Or.inl ⟨rfl, ?_⟩) ?_
          rotate_left
          · (intro W hW; (try dsimp only at hW); go_simp; (try with_reducible rfl))
          try simp only [Act.put, List.setIfInBounds_toArray, List.set_cons_zero, List.set_cons_succ]
          refine' Ways.take (i := 14) (oi := ⟨_, _, _, _, _, _⟩) (v := _) rfl (by kernel_rfl) (by kernel_rfl) (by kernel_rfl) (by kernel_rfl) (fun _ _ _ h => h) hHeld (Or.inl ⟨rfl, ?_⟩) ?_
          rotate_left
          · (intro W hW; (try dsimp only at hW); go_simp; (try with_reducible rfl))
          try simp only [Act.put, List.setIfInBounds_toArray, List.set_cons_zero, List.set_cons_succ]
          refine' Ways.take (i := 15) (oi := ⟨_, _, _, _, _, _⟩) (v := _) rfl (by kernel_rfl) (by kernel_rfl) (by kernel_rfl) (by kernel_rfl) (fun _ _ _ h => h) hHeld (Or.inl ⟨rfl, ?_⟩) ?_
          rotate_left
          · (intro W hW; (try dsimp only at hW); go_simp; (try with_reducible rfl))
          try simp only [Act.put, List.setIfInBounds_toArray, List.set_cons_zero, List.set_cons_succ]
          refine' Ways.take (i := 16) (oi := ⟨_, _, _, _, _, _⟩) (v := _) rfl (by kernel_rfl) (by kernel_rfl) (by kernel_rfl) (by kernel_rfl) (fun _ _ _ h => h) hHeld (Or.inl ⟨rfl, ?_⟩) ?_
          rotate_left
          · (intro W hW; (try dsimp only at hW); go_simp; (try with_reducible rfl))
          try simp only [Act.put, List.setIfInBounds_toArray, List.set_cons_zero, List.set_cons_succ]
          refine Ways.one (i := 17) (by kernel_rfl) rfl (fun K hK => ?_)
          go_simp
          go_at_call 133
          refine (HM.out wr.drew).mono ?_
          rintro e w9 ⟨rfl, rfl⟩
          refine hK.out _ _ hHeld ?_
          clear hK
          try simp only [List.setIfInBounds_toArray, List.set_cons_zero, List.set_cons_succ]
          refine' Ways.take (i := 18) (oi := ⟨_, _, _, _, _, _⟩) (v := _) rfl (by kernel_rfl) (by kernel_rfl) (by kernel_rfl) (by kernel_rfl) (fun _ _ _ h => h) hHeld (Or.inl ⟨rfl, ?_⟩) ?_
          rotate_left
          · (intro W hW; (try dsimp only at hW); go_simp; (try with_reducible rfl))
          try simp only [Act.put, List.setIfInBounds_toArray, List.set_cons_zero, List.set_cons_succ]
          refine' Ways.take (i := 19) (oi := ⟨_, _, _, _, _, _⟩) (v := _) rfl (by kernel_rfl) (by kernel_rfl) (by kernel_rfl) (by kernel_rfl) (fun _ _ _ h => h) hHeld (Or.inl ⟨rfl, ?_⟩) ?_
          rotate_left
          · (intro W hW; (try dsimp only at hW); go_simp; (try with_reducible rfl))
          try simp only [Act.put, List.setIfInBounds_toArray, List.set_cons_zero, List.set_cons_succ]
          refine Ways.last (by kernel_rfl) rfl (by kernel_rfl) (fun K hK => ?_)
          go_simp
          refine hK.out _ _ ?_
          clear hK hHeld
          obtain ⟨W9, hW9⟩ : ∃ W9, W9 = (wr.setCell ⟨g, x, none⟩ (.int .u8 (z : Int))).drew := ⟨_, rfl⟩
          have NX9 : Hid (∃ h', Own W9 g (.slice (some ⟨g, 0, none⟩) n n) (rowG h' n) ∧ ∀ y, y < n → h' y = if y < x + 1 then blendG c W (j + 1) y else blendG c W j y) := by rw [hW9]; exact NX.out
          have BL9 : Hid (Below g w W9) := by rw [hW9]; exact below_drewN BL.out 1
          rw [← hW9]
          clear hW9 NX BL
          go_wp2_with fail
          go_roundw
          case rel => exact ⟨x + 1, by omega, by go_num, NX9, BL9⟩
          case measure => simp [intOf]; omega
        · obtain rfl : x = n := by omega
          go_wp2_with fail
          go_roundw
          case rel =>
            obtain ⟨h, oh, eh⟩ := hh.out
            refine ⟨j + 1, by omega, by go_num, hide ?_, hbel3⟩
            rwa [show rowG h x = rowG (blendG c W (j + 1)) x from rowG_congr (fun y hy => by rw [eh y hy, if_pos hy])] at oh
          case measure => simp [intOf]; omega
    · obtain rfl : j = k := by omega
      go_wp2_with fail
      go_ret
      exact ⟨g, rfl, hown.out.more (Nat.le_of_eq HG.out.symm), by rw [← HG.out]; exact hbel.out⟩
end Go.Proofs.Ytehgjkckhjggbaa
namespace Go.Proofs.Ytehgjkckhjggbaa
open Go.RowKit
theorem word_row {a b n l : Nat} (X : Mat) (hl : l < a + b) {W : ML} (hW : ∀ t, t < a → ∀ y, y < n → en W t y = X t y) : rowG (blendG ((codeL a b).getD l []) W a) n = (wordL a b n X).getD l [] := by
  unfold wordL
  rw [laid_row _ hl]
  unfold rowG
  refine List.map_congr_left (fun y hy => ?_)
  congr 1
  refine gs_congr (fun t ht => ?_)
  have : G.of (((codeL a b).getD l []).getD t 0) = codeRow a l t := laid_at (n := a + b) (m := a) (codeRow a) hl ht
  rw [this, hW t ht y (List.mem_range.1 hy)]
/-- What Sums refuses. -/
def sumsBad (D : ML) (m : Int) : Prop := D.length < 1 ∨ m < 0 ∨ 14 < (D.length : Int) + m ∨ ∃ r ∈ D, r = [] ∨ r.length ≠ (D.getD 0 []).length
/-- What Sums answers. -/
def sumsAns (D : ML) (m : Int) (L : ML) (e : Int) : Prop :=
  (e = 1 ∧ L = [] ∧ sumsBad D m) ∨ (e = 0 ∧ ¬ sumsBad D m ∧ L = (wordL D.length m.toNat (D.getD 0 []).length (en D)).drop D.length)
theorem sums_once {D : ML} {m : Int} {L L' : ML} {e e' : Int} (h : sumsAns D m L e) (k : sumsAns D m L' e') : L = L' ∧ e = e' := by
  rcases h with ⟨rfl, rfl, h⟩ | ⟨rfl, h, rfl⟩
  · rcases k with ⟨rfl, rfl, _⟩ | ⟨_, k, _⟩
    · exact ⟨rfl, rfl⟩
    · exact absurd h k
  · rcases k with ⟨_, _, k⟩ | ⟨rfl, _, rfl⟩
    · exact absurd k h
    · exact ⟨rfl, rfl⟩
theorem sums_fit {D : ML} {m : Int} (h : ¬ sumsBad D m) (hb : ∀ r ∈ D, ∀ x ∈ r, x < 256) : ∃ b : Nat, m = (b : Int) ∧ 1 ≤ D.length ∧ D.length + b ≤ 14 ∧ 1 ≤ (D.getD 0 []).length ∧ Shape D D.length (D.getD 0 []).length := by
  have h1 : ¬ D.length < 1 := fun q => h (.inl q)
  have h2 : ¬ m < 0 := fun q => h (.inr (.inl q))
  have h3 : ¬ 14 < (D.length : Int) + m := fun q => h (.inr (.inr (.inl q)))
  have h4 : ∀ r ∈ D, r ≠ [] ∧ r.length = (D.getD 0 []).length := fun r hr => by
    refine ⟨fun q => h (.inr (.inr (.inr ⟨r, hr, .inl q⟩))), ?_⟩
    rcases Decidable.em (r.length = (D.getD 0 []).length) with e | e
    · exact e
    · exact absurd (.inr (.inr (.inr ⟨r, hr, .inr e⟩))) h
  refine ⟨m.toNat, by omega, by omega, by omega, ?_, rfl, fun r hr => (h4 r hr).2, hb⟩
  have := (h4 _ (mem_getD (xss := D) (k := 0) (by omega))).1
  have := List.length_pos_iff.2 this
  omega
/-- What Sums answers, with the data before it. -/
theorem sums_all {D L : ML} {m : Int} (h : sumsAns D m L 0) (hb : ∀ r ∈ D, ∀ x ∈ r, x < 256) : ∃ b n : Nat, m = (b : Int) ∧ 1 ≤ D.length ∧ D.length + b ≤ 14 ∧ 1 ≤ n ∧ n = (D.getD 0 []).length ∧ L.length = b ∧ D ++ L = wordL D.length b n (en D) := by
  rcases h with ⟨h, _⟩ | ⟨_, h, rfl⟩
  · cases h
  · obtain ⟨b, rfl, h1, h2, h3, h4⟩ := sums_fit h hb
    refine ⟨b, _, rfl, h1, h2, h3, rfl, ?_, ?_⟩
    · rw [List.length_drop, wordL_len, Int.toNat_natCast]; omega
    · rw [Int.toNat_natCast]
      have e := wordL_low (m := b) h4
      conv => lhs; lhs; rw [← e]
      rw [List.take_append_drop]
end Go.Proofs.Ytehgjkckhjggbaa
namespace Go.Proofs.Ytehgjkckhjggbaa
/-- How many blocks so many bytes take. -/
def blks (n : Nat) : Nat := (n + 15) / 16
/-- How many rows each shard has. -/
def hgt (n k : Nat) : Nat := (blks n + k - 1) / k
theorem hgt_ref {n k : Nat} (hk : 1 ≤ k) : (n + k * 16 - 1) / (k * 16) = hgt n k := by
  unfold hgt blks
  have e : (n + 15) / 16 + k - 1 = (n + k * 16 - 1) / 16 := by omega
  rw [e, Nat.div_div_eq_div_mul, Nat.mul_comm 16 k]
theorem hgt_up {n k : Nat} (hk : 1 ≤ k) : blks n ≤ hgt n k * k := by
  unfold hgt
  have h := Nat.div_add_mod (blks n + k - 1) k
  have h2 := Nat.mod_lt (blks n + k - 1) (show k > 0 by omega)
  rw [Nat.mul_comm] at h
  omega
theorem hgt_le {n k : Nat} (hk : 1 ≤ k) : hgt n k ≤ blks n := by
  unfold hgt
  rcases Nat.eq_zero_or_pos (blks n) with h | h
  · rw [h]
    have : (0 + k - 1) / k = 0 := Nat.div_eq_of_lt (by omega)
    omega
  · have h1 : (blks n + k - 1) / k ≤ (blks n * k) / k := Nat.div_le_div_right (by
      have : blks n + k - 1 ≤ blks n * k := by
        obtain ⟨a, ha⟩ : ∃ a, blks n = a + 1 := ⟨blks n - 1, by omega⟩
        obtain ⟨c, hc⟩ : ∃ c, k = c + 1 := ⟨k - 1, by omega⟩
        rw [ha, hc, Nat.add_mul, Nat.mul_add]
        have := Nat.zero_le (a * c)
        omega
      exact this)
    rwa [Nat.mul_div_cancel _ (by omega)] at h1
theorem hgt_pos {n k : Nat} (hk : 1 ≤ k) (hn : 1 ≤ n) : 1 ≤ hgt n k := by
  have h := hgt_up (n := n) hk
  have hb : 1 ≤ blks n := by unfold blks; omega
  rcases Nat.eq_zero_or_pos (hgt n k) with h0 | h0
  · rw [h0] at h; omega
  · exact h0
/-- The place of a byte of a shard in the whole. -/
def srcAt (k i y : Nat) : Nat := (y / 16 * k + i) * 16 + y % 16
def srcS (b : List Nat) (k : Nat) : Mat := fun i y => G.of (b.getD (srcAt k i y) 0)
/-- The first k shards. -/
def dataS (b : List Nat) (k : Nat) : ML := laid k (hgt b.length k * 16) (srcS b k)
theorem dataS_len (b : List Nat) (k : Nat) : (dataS b k).length = k := by simp [dataS, laid]
theorem dataS_shape (b : List Nat) (k : Nat) : Shape (dataS b k) k (hgt b.length k * 16) := laid_shape _ _ _
/-- They behind so many blocks. -/
def partS (b : List Nat) (k j : Nat) : Mat := fun i y => if y / 16 * k + i < j then srcS b k i y else G.zero
theorem getD_past {b : List Nat} {i : Nat} (h : b.length ≤ i) : b.getD i 0 = 0 := by simp [h]
theorem G_zero : G.of 0 = G.zero := by decide
theorem partS_all {b : List Nat} {k j : Nat} (hj : b.length ≤ j * 16) : partS b k j = srcS b k := by
  funext i y
  unfold partS
  split
  · rfl
  · rename_i h
    unfold srcS srcAt
    rw [getD_past (by omega), G_zero]
theorem partS_none (b : List Nat) (k : Nat) : partS b k 0 = fun _ _ => G.zero := by
  funext i y
  unfold partS
  rw [if_neg (by omega)]
/-- A block more is laid. -/
theorem partS_step {b : List Nat} {k j n : Nat} (hk : 1 ≤ k) (hn : n = min 16 (b.length - j * 16)) (i y : Nat) (hi : i < k) :
    (if i = j % k ∧ j / k * 16 ≤ y ∧ y < j / k * 16 + n then G.of (b.getD (j * 16 + (y - j / k * 16)) 0) else partS b k j i y) = partS b k (j + 1) i y := by
  have hd := Nat.div_add_mod j k
  have hm := Nat.mod_lt j (show k > 0 by omega)
  rw [Nat.mul_comm] at hd
  by_cases hb : y / 16 * k + i = j
  · -- just this block
    have e1 : (y / 16 * k + i) % k = i := by rw [Nat.mul_comm, Nat.mul_add_mod, Nat.mod_eq_of_lt hi]
    have e2 : (y / 16 * k + i) / k = y / 16 := by rw [Nat.mul_comm, Nat.mul_add_div (by omega), Nat.div_eq_of_lt hi]; rfl
    rw [hb] at e1 e2
    have hs : srcAt k i y = j * 16 + (y - j / k * 16) := by unfold srcAt; rw [hb, e2]; omega
    have hr : partS b k (j + 1) i y = G.of (b.getD (j * 16 + (y - j / k * 16)) 0) := by unfold partS srcS; rw [if_pos (by omega), hs]
    rw [hr]
    split
    · rfl
    · rename_i hno
      unfold partS
      rw [if_neg (by omega), getD_past (by
        rw [e1, e2] at hno
        have h1 : ¬ y < y / 16 * 16 + n := fun h => hno ⟨rfl, by omega, h⟩
        rw [e2]
        omega), G_zero]
  · rw [if_neg]
    · unfold partS
      by_cases h : y / 16 * k + i < j
      · rw [if_pos h, if_pos (by omega)]
      · rw [if_neg h, if_neg (by omega)]
    · rintro ⟨e1, h1, h2⟩
      have : y / 16 = j / k := by omega
      rw [this, e1] at hb
      omega
/-! ### row by row, as the document has it -/
/-- How many of the first j blocks stand in the shard i. -/
def cntS (k j i : Nat) : Nat := (j + k - 1 - i) / k
def rowsS (b : List Nat) (k j : Nat) : ML := (List.range k).map fun i => (List.range (cntS k j i * 16)).map fun y => b.getD (srcAt k i y) 0
theorem cntS_step {k j i : Nat} (hk : 1 ≤ k) (hi : i < k) : cntS k (j + 1) i = if i = j % k then j / k + 1 else cntS k j i := by
  have hd := Nat.div_add_mod j k
  have hm := Nat.mod_lt j (show k > 0 by omega)
  obtain ⟨q, hq⟩ : ∃ q, q = j / k := ⟨_, rfl⟩
  obtain ⟨r, hr⟩ : ∃ r, r = j % k := ⟨_, rfl⟩
  rw [← hq, ← hr] at hd
  rw [← hr] at hm
  rw [← hq, ← hr]
  unfold cntS
  split
  · rename_i e
    subst e
    have e : j + 1 + k - 1 - i = k * (q + 1) := by rw [Nat.mul_add]; omega
    rw [e, Nat.mul_div_cancel_left _ (by omega)]
  · rename_i e
    by_cases hlt : i < r
    · have e1 : j + 1 + k - 1 - i = k * (q + 1) + (r - i) := by rw [Nat.mul_add]; omega
      have e2 : j + k - 1 - i = k * (q + 1) + (r - i - 1) := by rw [Nat.mul_add]; omega
      rw [e1, e2, Nat.mul_add_div (by omega), Nat.mul_add_div (by omega), Nat.div_eq_of_lt (by omega), Nat.div_eq_of_lt (by omega)]
    · have e1 : j + 1 + k - 1 - i = k * q + (r + k - i) := by omega
      have e2 : j + k - 1 - i = k * q + (r + k - i - 1) := by omega
      rw [e1, e2, Nat.mul_add_div (by omega), Nat.mul_add_div (by omega), Nat.div_eq_of_lt (by omega), Nat.div_eq_of_lt (by omega)]
theorem cntS_at {k j : Nat} (hk : 1 ≤ k) : cntS k j (j % k) = j / k := by
  have hd := Nat.div_add_mod j k
  have hm := Nat.mod_lt j (show k > 0 by omega)
  unfold cntS
  obtain ⟨q, hq⟩ : ∃ q, q = j / k := ⟨_, rfl⟩
  obtain ⟨r, hr⟩ : ∃ r, r = j % k := ⟨_, rfl⟩
  rw [← hq, ← hr] at hd
  rw [← hr] at hm
  rw [← hq, ← hr]
  have e : j + k - 1 - r = k * q + (k - 1) := by omega
  rw [e, Nat.mul_add_div (by omega), Nat.div_eq_of_lt (by omega)]
  rfl
theorem cntS_all {k h i : Nat} (hi : i < k) : cntS k (h * k) i = h := by
  unfold cntS
  have e : h * k + k - 1 - i = k * h + (k - 1 - i) := by rw [Nat.mul_comm]; omega
  rw [e, Nat.mul_add_div (by omega), Nat.div_eq_of_lt (by omega)]
  rfl
theorem cntS_none {k i : Nat} (hi : i < k) : cntS k 0 i = 0 := by
  unfold cntS
  exact Nat.div_eq_of_lt (by omega)
theorem rowsS_len (b : List Nat) (k j : Nat) : (rowsS b k j).length = k := by simp [rowsS]
theorem rowsS_row {b : List Nat} {k j i : Nat} (hi : i < k) : (rowsS b k j).getD i [] = (List.range (cntS k j i * 16)).map fun y => b.getD (srcAt k i y) 0 := by simp [rowsS, hi]
theorem rowsS_none (b : List Nat) (k : Nat) : rowsS b k 0 = List.replicate k [] := by
  apply List.ext_getElem (by simp [rowsS])
  intro i h1 h2
  have hi : i < k := by simpa [rowsS] using h1
  have := rowsS_row (b := b) (j := 0) hi
  rw [cntS_none hi] at this
  simpa [hi, h1] using this
/-- A block, with noughts behind the end. -/
def blkAt (b : List Nat) (j : Nat) : List Nat := (List.range 16).map fun y => b.getD (j * 16 + y) 0
theorem blkAt_len (b : List Nat) (j : Nat) : (blkAt b j).length = 16 := by simp [blkAt]
theorem rowsS_step {b : List Nat} {k j : Nat} (hk : 1 ≤ k) : (rowsS b k j).set (j % k) ((rowsS b k j).getD (j % k) [] ++ blkAt b j) = rowsS b k (j + 1) := by
  have hm := Nat.mod_lt j (show k > 0 by omega)
  have hd := Nat.div_add_mod j k
  rw [Nat.mul_comm] at hd
  apply List.ext_getElem (by simp [rowsS])
  intro i h1 h2
  have hi : i < k := by simpa [rowsS] using h2
  have e2 : (rowsS b k (j + 1))[i] = (List.range (cntS k (j + 1) i * 16)).map fun y => b.getD (srcAt k i y) 0 := by simp [rowsS]
  rw [e2, cntS_step hk hi, List.getElem_set]
  by_cases e : j % k = i
  · subst e
    rw [if_pos rfl, if_pos rfl, rowsS_row hm, cntS_at hk]
    have e3 : (j / k + 1) * 16 = j / k * 16 + 16 := by omega
    rw [e3, List.range_add, List.map_append, List.map_map]
    congr 1
    unfold blkAt
    refine List.map_congr_left (fun y hy => ?_)
    have hy := List.mem_range.1 hy
    show _ = b.getD (srcAt k (j % k) (j / k * 16 + y)) 0
    unfold srcAt
    have e4 : (j / k * 16 + y) / 16 = j / k := by omega
    have e5 : (j / k * 16 + y) % 16 = y := by omega
    rw [e4, e5, hd]
  · rw [if_neg e, if_neg (fun q => e q.symm)]
    simp [rowsS]
theorem rowsS_all {b : List Nat} {k : Nat} (hb : ∀ x ∈ b, x < 256) : rowsS b k (hgt b.length k * k) = dataS b k := by
  unfold rowsS dataS laid
  refine List.map_congr_left (fun i hi => ?_)
  rw [cntS_all (List.mem_range.1 hi)]
  refine List.map_congr_left (fun y _ => ?_)
  show _ = (G.of (b.getD (srcAt k i y) 0)).n
  rw [G.of_n (getD_lt hb _)]
theorem rowsS_byte {b : List Nat} (hb : ∀ x ∈ b, x < 256) (k j : Nat) : ∀ r ∈ rowsS b k j, ∀ x ∈ r, x < 256 := by
  intro r hr x hx
  obtain ⟨i, _, rfl⟩ := List.mem_map.1 hr
  obtain ⟨y, _, rfl⟩ := List.mem_map.1 hx
  exact getD_lt hb _
/-- The bytes with noughts up to so many blocks, and a block of them. -/
theorem blk_take {b : List Nat} {n j : Nat} (hl : b.length ≤ n) (hj : j * 16 + 16 ≤ n) : ((b ++ List.replicate (n - b.length) 0).drop (j * 16)).take 16 = blkAt b j := by
  apply List.ext_getElem
  · simp [blkAt]; omega
  · intro y h1 h2
    have hy : y < 16 := by simpa [blkAt] using h2
    simp only [List.getElem_take, List.getElem_drop, blkAt, List.getElem_map, List.getElem_range]
    rw [List.getElem_append]
    split
    · rename_i h
      simp [h]
    · rename_i h
      rw [getD_past (by omega)]
      simp
end Go.Proofs.Ytehgjkckhjggbaa
namespace Go.Proofs.Ytehgjkckhjggbaa
open Go.RowKit
/-- Rows that come in small. -/
def SmallM (w : World) (A : Option Addr) (n : Nat) (W : ML) : Prop := IsM w A W ∧ W.length = n ∧ n ≤ 1000000 ∧ (∀ r ∈ W, ∀ x ∈ r, x < 256) ∧ ∀ r ∈ W, r.length ≤ 1000000
/-- A list of rows that is handed back. -/
def OutM (w : World) (v : Value) (L : ML) : Prop := ∃ A n c, v = .slice A n c ∧ L.length = n ∧ IsM w A L ∧ (A = none → c = 0) ∧ n ≤ 9223372036854775807
def I64 (z : Int) : Prop := -9223372036854775808 ≤ z ∧ z ≤ 9223372036854775807
def SumsC : Prop := ∀ (A : Option Addr) (n c : Nat) (m : Int) (D : ML) (w : World), SmallM w A n D → I64 m →
  Calls Try.prog 65 #[.slice A n c, .int .i64 m] w fun e w' => ∃ v L E, e = .returned (.tuple #[v, .int .i64 E]) ∧ OutM w' v L ∧ OwnMt w' w.heap.size v L ∧ sumsAns D m L E ∧ Below w.heap.size w w'
theorem SmallM.below {w w' : World} {A : Option Addr} {n : Nat} {W : ML} (h : SmallM w A n W) (k : Below w.heap.size w w') : SmallM w' A n W := ⟨h.1.below k, h.2⟩
theorem SmallM.million {w : World} {A : Option Addr} {n : Nat} {W : ML} (h : SmallM w A n W) : ∀ r ∈ W, r.length ≤ 1000000 := fun r hr => Nat.le_trans (h.2.2.2.2 r hr) (by decide)
theorem two_rows (w : World) (a b : Nat) (ha : a < 256) (hb : b < 256) {g1 g2 g3 : Nat} (e1 : g1 = w.heap.size) (e2 : g2 = (w.alloc (.cells #[.int .u8 (a : Int)] 5)).heap.size) (e3 : g3 = ((w.alloc (.cells #[.int .u8 (a : Int)] 5)).alloc (.cells #[.int .u8 (b : Int)] 5)).heap.size) :
    SmallM (((w.alloc (.cells #[.int .u8 (a : Int)] 5)).alloc (.cells #[.int .u8 (b : Int)] 5)).alloc (.cells #[.slice (some ⟨g1, 0, none⟩) 1 1, .slice (some ⟨g2, 0, none⟩) 1 1] 23)) (some ⟨g3, 0, none⟩) 2 [[a], [b]] := by
  have h1 := ((isB_one w a e1).keep (below_alloc _ (.cells #[.int .u8 (b : Int)] 5))).keep (below_alloc _ (.cells #[.slice (some ⟨g1, 0, none⟩) 1 1, .slice (some ⟨g2, 0, none⟩) 1 1] 23))
  have h2 := (isB_one _ b e2).keep (below_alloc _ (.cells #[.slice (some ⟨g1, 0, none⟩) 1 1, .slice (some ⟨g2, 0, none⟩) 1 1] 23))
  refine ⟨⟨_, rdV_new _ _ _ _ _ e3 rfl, rfl, fun i hi => ?_⟩, rfl, by omega, fun r hr x hx => ?_, fun r hr => ?_⟩
  · match i, hi with
    | 0, _ => exact h1
    | 1, _ => exact h2
    | n + 2, h => exact absurd h (by simp)
  · rcases List.mem_cons.1 hr with rfl | hr
    · simp at hx; omega
    · rcases List.mem_cons.1 hr with rfl | hr
      · simp at hx; omega
      · exact absurd hr (by simp)
  · rcases List.mem_cons.1 hr with rfl | hr
    · simp
    · rcases List.mem_cons.1 hr with rfl | hr
      · simp
      · exact absurd hr (by simp)
theorem known_ans {L : ML} {E : Int} (h : sumsAns [[1], [2]] 1 L E) : L = [[123]] ∧ E = 0 := by
  rcases h with ⟨_, _, q⟩ | ⟨rfl, _, rfl⟩
  · exfalso
    rcases q with q | q | q | ⟨r, hr, q⟩
    · exact absurd q (by decide)
    · exact absurd q (by decide)
    · exact absurd q (by decide)
    · rcases List.mem_cons.1 hr with rfl | hr
      · exact absurd q (by decide)
      · rcases List.mem_cons.1 hr with rfl | hr
        · exact absurd q (by decide)
        · exact absurd hr (by simp)
  · exact ⟨by decide +kernel, rfl⟩
end Go.Proofs.Ytehgjkckhjggbaa
