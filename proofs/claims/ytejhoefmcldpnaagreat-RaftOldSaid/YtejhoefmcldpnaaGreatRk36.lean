/- The contract of remove of a piece of a row of numbers. Condition: numbers below 2 to the 40, fewer than 2 to the 30. The program's Open. Condition: a prefix of 1 to 55 bytes, a disk that is there. A log and its disk, the program's, by the document's lists: a call each. Condition: a prefix of 1 to 55 bytes. A log and its disk, the program's, by the document's lists: Cut, Drop, a crash, Open. Condition: a prefix of 1 to 55 bytes. -/
import Derived.Test.YtejhoefmcldpnaaGreatRk28
import Derived.Test.YtejhoefmcldpnaaGreatRk35
import Derived.Test.YtejhoefmcldpnaaGreatRk20
import Derived.Test.YtejhoefmcldpnaaGreatRk30
import Derived.Test.YtejhoefmcldpnaaGreatRk33
import Derived.Test.YtejhoefmcldpnaaGreatRk34
import Derived.Test.YtejhoefmcldpnaaGreatRk27
import Derived.Test.YtejhoefmcldpnaaGreatRk25
namespace Go.Proofs.YtejhoefmcldpnaaGreat
open Go.RowKit Go.Maps
set_option maxRecDepth 100000 in
set_option maxHeartbeats 6400000 in
theorem premoveO_any (w : World) (F G : Nat → Prop) (dp l room : Nat) (s : ByteArray) (P : PLog) (L : DiskL) (A : Option Addr) (N c : Nat) (fs : List Nat) (h : PBoth w F G dp l room s P L) (hs : s.size ≤ 64) (hN : N = fs.length) (hlc : N ≤ c)
    (hcell : ∀ i (hi : i < fs.length), ∃ g o, A = some ⟨g, o, none⟩ ∧ g < w.heap.size ∧ ¬ F g ∧ w.cell? ⟨g, o + i, none⟩ = some (.int .i64 (fs[i] : Int))) (hf : ∀ n ∈ fs, n ≤ 1099511627776) (hfl : fs.length ≤ 1073741824) :
    Calls Tryz.prog 73 #[.pointer (some ⟨l, 0, none⟩), .slice A N c] w fun e w' => e = .returned (.tuple #[]) ∧ ∃ F', PBoth w' F' G dp l room s P (removesL s.data.toList fs L) ∧ Next F w F' w' := by
  obtain ⟨vS, X, eP, hP⟩ := h.log
  have c0 : w.cell? ⟨l, 0, none⟩ = some (.pointer (some ⟨dp, 0, none⟩)) := hP.cells.cell 0
  have c1 : w.cell? ⟨l, 1, none⟩ = some (.string s) := hP.cells.cell 1
  have hll := cell_lt c0
  have hnl : Hid (¬ F l) := hide (fun hk => h.apart l hk hP.own)
  have HN := hide hN
  have HC := hide hcell
  have HH := hide h
  have HFF := hide hf
  have hN30 : N ≤ 1073741824 := by rw [hN]; exact hfl
  clear hcell h hf hN hP eP hfl
  go_enter Tryz.func73, Tryz.ntmps73
  go_wp2_with fail
  go_loopw [8] (fun ix wr => ∃ (j : Nat) (F' : Nat → Prop), j ≤ N ∧ ix = .int .i64 (j : Int) ∧ Hid (PBoth wr F' G dp l room s P (removesL s.data.toList (fs.take j) L)) ∧ Hid (Next F w F' wr)) (fun ix _ => N - (intOf ix).toNat)
  case atStart => exact ⟨0, F, Nat.zero_le _, rfl, HH.out, Next.refl _ _⟩
  case round =>
    obtain ⟨j, F', hj, rfl, hP, hX⟩ := hrel
    have k0 := (hX.out.far (i := 0) hll hnl.out).trans c0
    have k1 := (hX.out.far (i := 1) hll hnl.out).trans c1
    by_cases hlt : j < N
    · have hjf : j < fs.length := by have := HN.out; omega
      obtain ⟨g, o, rfl, hgl, hng, q⟩ := HC.out j hjf
      obtain ⟨n, hn⟩ : ∃ n, n = fs[j] := ⟨_, rfl⟩
      have q : w.cell? ⟨g, o + j, none⟩ = some (.int .i64 (n : Int)) := by rw [q, hn]
      have k5 := (hX.out.far (i := o + j) hgl hng).trans q
      have hn40 : n ≤ 1099511627776 := by rw [hn]; exact HFF.out _ (List.getElem_mem hjf)
      have HST : Hid (removesL s.data.toList (fs.take (j + 1)) L = (remL (nameL s.data.toList n) (removesL s.data.toList (fs.take j) L)).1) := hide (by
        unfold removesL
        rw [List.take_succ_eq_append_getElem hjf, List.foldl_append, hn]
        rfl)
      have hs64 : s.size ≤ 1099511627776 := by omega
      have k1d : wr.drew.cell? ⟨l, 1, none⟩ = some (.string s) := k1
      clear hn q
      go_wp2_with fail
      go_region_held3 (fun W' => W'.cell? ⟨l, 0, none⟩ = some (.pointer (some ⟨dp, 0, none⟩))) (go_keep)
        (first
          | (go_at_call 77; refine (pname_any l s n _ k1d hs64 hn40).mono ?_; rintro e w2 ⟨t, rfl, htl, kn⟩; have kn2 : Below wr.heap.size wr w2 := (by exact ⟨kn.os, kn.tape, kn.output, kn.size, kn.block⟩); have D2 := hide (hP.out.disk.below kn2); have L2 := hide (hP.out.log.below kn2); have N2 := hide (hX.out.trans (Next.of_below F' kn2)); have x0 := (N2.out.far (i := 0) hll hnl.out).trans c0; have TL := hide htl; have TS : t.size ≤ 1099511627776 := (by have h1 : t.data.toList.length = t.size := rfl; have h2 := name_len s.data.toList n; have h3 : s.data.toList.length = s.size := rfl; rw [htl, h2, h3] at h1; omega); clear htl kn kn2)
          | (go_at_call 97; refine (remove_any F' dp room _ t w2 D2.out TS).mono ?_; rintro e w3 ⟨rfl, F3, d3, n3⟩; rw [TL.out] at d3 ⊢; have N3 := hide (N2.out.trans n3); have y0 := (N3.out.far (i := 0) hll hnl.out).trans c0; have D3 := hide d3; have M3 := hide n3; clear d3 n3))
      go_wp2_with fail
      go_roundw
      case rel =>
        have hap : ∀ k, F' k → ¬ G k := hP.out.apart
        have hlow := L2.out.low
        refine ⟨j + 1, F3, by omega, by go_num, ?_, N3.out⟩
        unfold Hid
        rw [HST.out]
        exact ⟨D3.out, L2.out.turn M3.out.turn (fun q hq hd => hap q hd hq), fun q hq hg => (M3.out.foot q hq).elim (fun h => hap q h hg) (fun h => by have := hlow q hg; omega)⟩
      case measure => simp [intOf]; omega
    · obtain rfl : j = N := by omega
      have hP2 := hP.out
      rw [List.take_of_length_le (by have := HN.out; omega)] at hP2
      have P2 := hide hP2
      clear hP2
      go_wp2_with fail
      go_end0
      exact ⟨rfl, F', P2.out, hX.out⟩
end Go.Proofs.YtejhoefmcldpnaaGreat
namespace Go.Proofs.YtejhoefmcldpnaaGreat
open Go.RowKit Go.Maps
theorem openG_cons (k : Str) (n : Nat) (r : List Nat) (P : PLog) (L : DiskL) : openG k (n :: r) P L = if (readP k n P L).2 = true then openG k r (readP k n P L).1.1 (readP k n P L).1.2 else ((readP k n P L).1.1, removesL k r (readP k n P L).1.2) := rfl
theorem readP_len (k : Str) (n : Nat) (P : PLog) (L : DiskL) : (readP k n P L).1.1.segs.length ≤ P.segs.length + 1 := by
  unfold readP
  split
  · exact Nat.le_succ _
  · split <;> simp
set_option maxRecDepth 100000 in
theorem popen_nil (w : World) (s : ByteArray) : Calls Tryz.prog 43 #[.pointer none, .string s] w fun e w' => e = .returned (.tuple #[.pointer none, .int .i64 1]) ∧ Below w.heap.size w w' := by
  go_enter Tryz.func43, Tryz.ntmps43
  go_wp2_with fail
  refine bodyPost_ret (v := .tuple #[.pointer none, .int .i64 1]) (by simp [results, Tryz.results43, go_sem]) rfl ?_
  exact ⟨rfl, Below.refl _ _⟩
set_option maxRecDepth 100000 in
set_option maxHeartbeats 3000000 in
theorem popen_any (w : World) (F : Nat → Prop) (dp room : Nat) (s : ByteArray) (L : DiskL) (hD : DiskAt w F dp room L) (h1 : 1 ≤ s.size) (h2 : s.size ≤ 55) :
    Calls Tryz.prog 43 #[.pointer (some ⟨dp, 0, none⟩), .string s] w fun e w' => ∃ l, e = .returned (.tuple #[.pointer (some ⟨l, 0, none⟩), .int .i64 0]) ∧ ∃ F' G, PBoth w' F' G dp l room s (openG s.data.toList (firstsL s.data.toList L) ⟨[], 1⟩ L).1 (openG s.data.toList (firstsL s.data.toList L) ⟨[], 1⟩ L).2 ∧
      Turn F w w' ∧ (∀ k, F' k → F k ∨ w.heap.size ≤ k) ∧ ∀ k, G k → w.heap.size ≤ k := by
  have hz1 : ¬ (55 : Int) < (s.size : Int) := by omega
  have hs0 : (s.toList == []) = false := by
    rw [ByteArray.toList_eq]
    have h9 : s.data.toList.length = s.size := rfl
    rcases h8 : s.data.toList with _ | ⟨x, r⟩
    · rw [h8] at h9
      simp at h9
      omega
    · rfl
  have hs64 : s.size ≤ 64 := by omega
  have HD := hide hD
  have HFW : Hid (∀ q, F q → q < w.heap.size) := hide hD.low
  obtain ⟨fs, hfs⟩ : ∃ fs, fs = firstsL s.data.toList L := ⟨_, rfl⟩
  rw [← hfs]
  have HFS := hide hfs
  clear hD h1 h2 hfs
  go_enter Tryz.func43, Tryz.ntmps43
  go_wp2_with fail
  refine (strClone_any s w (by omega)).mono ?_
  rintro e w1 ⟨rfl, k1⟩
  have K1 := hide k1
  clear k1
  go_wp2_with fail
  obtain ⟨l, hl⟩ : ∃ l, l = w1.heap.size := ⟨_, rfl⟩
  have bk := Blk.new (B := 0) w1 122 #[.pointer (some ⟨dp, 0, none⟩), .string s, .slice none 0 0, .int .i64 1] (Nat.zero_le _)
  have ka := below_alloc w1 (.cells #[.pointer (some ⟨dp, 0, none⟩), .string s, .slice none 0 0, .int .i64 1] 122)
  obtain ⟨w2, hw2⟩ : ∃ z, z = w1.alloc (.cells #[.pointer (some ⟨dp, 0, none⟩), .string s, .slice none 0 0, .int .i64 1] 122) := ⟨_, rfl⟩
  rw [← hw2] at bk ka ⊢
  rw [← hl] at bk ⊢
  have K2 := hide (below_step K1.out ka)
  have D2 := hide (HD.out.below K2.out)
  have B2 := hide bk
  have HL : Hid (w.heap.size ≤ l ∧ l < w2.heap.size) := hide ⟨by have := K1.out.size; omega, cell_lt (bk.cell 0)⟩
  have r0 : w2.cell? ⟨l, 0, none⟩ = some (.pointer (some ⟨dp, 0, none⟩)) := B2.out.cell 0
  have r1 : w2.cell? ⟨l, 1, none⟩ = some (.string s) := B2.out.cell 1
  clear bk ka hw2 hl
  go_wp2_with fail
  refine (pfirsts_disk _ F dp l room s L D2.out r0 r1 hs64).mono ?_
  rintro e w3 ⟨u3, rfl, o3, k3⟩
  rw [← HFS.out] at o3
  have hfs := HFS.out
  have hfl : fs.length ≤ 256 := by
    rw [hfs]
    unfold firstsL
    refine Nat.le_trans (List.length_filterMap_le _ _) ?_
    rw [List.length_map]
    exact HD.out.facts.2.1
  have hf8 : Hid (∀ n ∈ fs, n < 100000000) := hide (fun n hn => by
    rw [hfs] at hn
    obtain ⟨t, _, et⟩ := List.mem_filterMap.1 hn
    exact (name_num et).2)
  obtain ⟨N, hN⟩ : ∃ N, N = fs.length := ⟨_, rfl⟩
  obtain ⟨A3, c3, e3, hc1, hc2, hcell⟩ := o3.cells10
  subst e3
  have hlen : (fs.map fun n : Nat => (n : Int)).length = N := by rw [List.length_map, hN]
  rw [hlen] at hc1 o3 ⊢
  have K3 := hide (below_step K2.out k3)
  have KK3 := hide k3
  have O3 := hide o3
  have HC := hide hcell
  have HN := hide hN
  have D3 := hide (D2.out.below k3)
  have B3 := hide (B2.out.turn (Turn.of_below (fun _ => False) k3) id)
  have hN256 : N ≤ 256 := by omega
  have HFL := hide hfl
  have hl23 := k3.size
  clear o3 k3 hcell hN hlen hfl r0 r1 hfs
  go_wp2_with fail
  go_loopw [30] (fun ix wr => ∃ (j : Nat) (F' G' : Nat → Prop) (P' : PLog) (L' : DiskL), j ≤ N ∧ ix = .int .i64 (j : Int) ∧ Hid (PBoth wr F' G' dp l room s P' L') ∧ Hid (openG s.data.toList fs ⟨[], 1⟩ L = openG s.data.toList (fs.drop j) P' L') ∧ Hid (P'.segs.length ≤ j) ∧
      Hid (Turn (fun q => F q ∨ q = l ∨ w3.heap.size ≤ q) w3 wr) ∧ Hid (∀ q, F' q → F q ∨ w3.heap.size ≤ q) ∧ Hid (∀ q, G' q → q = l ∨ w3.heap.size ≤ q)) (fun ix _ => N - (intOf ix).toNat)
  case atStart =>
    refine ⟨0, F, fun q => q = l, ⟨[], 1⟩, L, Nat.zero_le _, rfl, hide ⟨D3.out, ⟨.slice none 0 0, [], rfl, ⟨B3.out, World.ownsRow_nil _ _ _ _, fun x hx => (by cases hx), List.Pairwise.nil, rfl, fun g hg => (by cases hg), fun g hg => by rw [hg]; have := HL.out.2; omega⟩⟩, fun q hf e => by have := HFW.out q hf; have := HL.out.1; omega⟩, hide (by rw [List.drop_zero]), hide (Nat.le_refl _), Turn.refl _ _, hide (fun _ => .inl), hide (fun _ => .inl)⟩
  case round =>
    obtain ⟨j, F', G', P', L', hj, rfl, hP, hG, hlP, hT, hFF, hGG⟩ := hrel
    by_cases hlt : j < N
    · have hjf : j < fs.length := by have := HN.out; omega
      obtain ⟨g, rfl, hg2, hgl, q⟩ := HC.out j (by rw [List.length_map]; exact hjf)
      obtain ⟨n, hn⟩ : ∃ n, n = fs[j] := ⟨_, rfl⟩
      have q : w3.cell? ⟨g, j, none⟩ = some (.int .i64 (n : Int)) := by rw [q, hn]; simp
      have hgS : ¬ (F g ∨ g = l ∨ w3.heap.size ≤ g) := by
        rintro (h | h | h)
        · have := HFW.out g h
          have := HL.out
          omega
        · have := HL.out
          omega
        · omega
      have q' := turn_cell hT.out q hgS
      have hn8 : n < 100000000 := by rw [hn]; exact hf8.out _ (List.getElem_mem hjf)
      have hdr : fs.drop j = n :: fs.drop (j + 1) := by rw [hn]; exact List.drop_eq_getElem_cons hjf
      have HDR := hide hdr
      have hGS := hide hgS
      have hsP : P'.segs.length < 1073741824 := by have := hlP.out; omega
      clear hn hdr q hgS
      go_wp2_with fail
      refine (pread_any _ F' G' dp l room s P' L' n hP.out hs64 hn8 hsP).mono ?_
      rintro e w5 ⟨R, hR, rfl, F5, G5, b5, t5, f5, g5⟩
      have P5 := hide b5
      have hsz := hT.out.size
      have T5 := hide (hT.out.then t5 (fun q hq => .inl (hq.elim (fun h => (hFF.out q h).imp id .inr) (fun h => .inr (hGG.out q h)))))
      have F5W : Hid (∀ q, F5 q → F q ∨ w3.heap.size ≤ q) := hide (fun q hq => (f5 q hq).elim (fun h => hFF.out q h) (fun h => .inr (by omega)))
      have G5W : Hid (∀ q, G5 q → q = l ∨ w3.heap.size ≤ q) := hide (fun q hq => (g5 q hq).elim (fun h => hGG.out q h) (fun h => .inr (by omega)))
      have HR := hide hR
      obtain ⟨rb, hrb⟩ : ∃ b, b = R.2 := ⟨_, rfl⟩
      rw [← hrb]
      have HRB := hide hrb
      clear b5 t5 f5 g5 hR hrb q'
      cases rb with
      | true =>
        have hGN : Hid (openG s.data.toList fs ⟨[], 1⟩ L = openG s.data.toList (fs.drop (j + 1)) R.1.1 R.1.2) := hide (by
          rw [hG.out, HDR.out, openG_cons, ← HR.out, if_pos HRB.out.symm])
        have hlN : Hid (R.1.1.segs.length ≤ j + 1) := hide (by
          have h9 := readP_len s.data.toList n P' L'
          rw [← HR.out] at h9
          have := hlP.out
          omega)
        go_wp2_with fail
        go_roundw
        case rel => exact ⟨j + 1, F5, G5, R.1.1, R.1.2, by omega, by go_num, P5.out, hGN.out, hlN.out, T5.out, F5W.out, G5W.out⟩
        case measure => simp [intOf]; omega
      | false =>
        have hGN : Hid (openG s.data.toList fs ⟨[], 1⟩ L = (R.1.1, removesL s.data.toList (fs.drop (j + 1)) R.1.2)) := hide (by
          rw [hG.out, HDR.out, openG_cons, ← HR.out, if_neg (by rw [← HRB.out]; simp)])
        have hcells : Hid (∀ i (hi : i < (fs.drop (j + 1)).length), w5.cell? ⟨g, j + 1 + i, none⟩ = some (.int .i64 ((fs.drop (j + 1))[i] : Int)) ∧ g < w5.heap.size) := hide (fun i hi => by
          have hi2 : j + 1 + i < fs.length := by rw [List.length_drop] at hi; omega
          obtain ⟨g9, e9, _, hg9, q9⟩ := HC.out (j + 1 + i) (by rw [List.length_map]; exact hi2)
          cases e9
          have h9 := turn_cell T5.out q9 hGS.out
          refine ⟨?_, by have := T5.out.size; omega⟩
          rw [h9]
          simp)
        have hng : ¬ F5 g := fun hf => hGS.out ((F5W.out g hf).elim .inl (fun h => .inr (.inr h)))
        have hjc : ((j + 1 : Nat) : Int) ≤ (c3 : Int) := by omega
        have hw1 : IntKind.i64.wrap ((j : Int) + 1) = ((j : Int) + 1) := by rw [IntKind.wrap_i64]; omega
        have hjN : (j : Int) + 1 ≤ (N : Int) := by omega
        have hj0 : (0 : Int) ≤ (j : Int) + 1 := by omega
        have hjt : ((j : Int) + 1).toNat = j + 1 := by omega
        by_cases hcj : c3 = j + 1
        · have hd0 : fs.drop (j + 1) = [] := List.drop_of_length_le (by have := HN.out; omega)
          have hNj : N - (j + 1) = 0 := by omega
          go_wp2_with fail
          refine (premoveO_any _ F5 G5 dp l room s R.1.1 R.1.2 (some ⟨g, 0, none⟩) 0 0 (fs.drop (j + 1)) P5.out hs64 (by rw [hd0]; rfl) (Nat.le_refl _) (fun i hi => absurd hi (by rw [hd0]; simp)) (fun m hm => by have := hf8.out m (List.mem_of_mem_drop hm); omega) (by rw [List.length_drop]; have := HFL.out; omega)).mono ?_
          rintro e w6 ⟨rfl, F6, b6, n6⟩
          have P6 := hide b6
          have T6 := hide (T5.out.then n6.turn (fun q hq => .inl ((F5W.out q hq).imp id .inr)))
          have F6W : Hid (∀ q, F6 q → F q ∨ w3.heap.size ≤ q) := hide (fun q hq => (n6.foot q hq).elim (fun h => F5W.out q h) (fun h => .inr (by have := T5.out.size; omega)))
          clear b6 n6
          go_wp2_with fail
          refine bodyPost_ret (v := .tuple #[.pointer (some ⟨l, 0, none⟩), .int .i64 0]) (by simp [results, Tryz.results43, go_sem]) rfl ?_
          rw [hGN.out]
          exact ⟨l, rfl, F6, G5, P6.out, (Turn.of_below F K3.out).then T6.out (fun q hq => hq.elim .inl (fun h => .inr (h.elim (fun h => by rw [h]; exact HL.out.1) (fun h => by have := K3.out.size; omega)))), fun q hq => (F6W.out q hq).imp id (fun h => by have := K3.out.size; omega), fun q hq => (G5W.out q hq).elim (fun h => by rw [h]; exact HL.out.1) (fun h => by have := K3.out.size; omega)⟩
        · go_wp2_with fail
          refine (premoveO_any _ F5 G5 dp l room s R.1.1 R.1.2 (some ⟨g, j + 1, none⟩) (N - (j + 1)) (c3 - (j + 1)) (fs.drop (j + 1)) P5.out hs64 (by rw [List.length_drop, ← HN.out]) (by omega) (fun i hi => ⟨g, j + 1, rfl, (hcells.out i hi).2, hng, (hcells.out i hi).1⟩) (fun m hm => by have := hf8.out m (List.mem_of_mem_drop hm); omega) (by rw [List.length_drop]; have := HFL.out; omega)).mono ?_
          rintro e w6 ⟨rfl, F6, b6, n6⟩
          have P6 := hide b6
          have T6 := hide (T5.out.then n6.turn (fun q hq => .inl ((F5W.out q hq).imp id .inr)))
          have F6W : Hid (∀ q, F6 q → F q ∨ w3.heap.size ≤ q) := hide (fun q hq => (n6.foot q hq).elim (fun h => F5W.out q h) (fun h => .inr (by have := T5.out.size; omega)))
          clear b6 n6
          go_wp2_with fail
          refine bodyPost_ret (v := .tuple #[.pointer (some ⟨l, 0, none⟩), .int .i64 0]) (by simp [results, Tryz.results43, go_sem]) rfl ?_
          rw [hGN.out]
          exact ⟨l, rfl, F6, G5, P6.out, (Turn.of_below F K3.out).then T6.out (fun q hq => hq.elim .inl (fun h => .inr (h.elim (fun h => by rw [h]; exact HL.out.1) (fun h => by have := K3.out.size; omega)))), fun q hq => (F6W.out q hq).imp id (fun h => by have := K3.out.size; omega), fun q hq => (G5W.out q hq).elim (fun h => by rw [h]; exact HL.out.1) (fun h => by have := K3.out.size; omega)⟩
    · obtain rfl : j = N := by omega
      go_wp2_with fail
      refine bodyPost_ret (v := .tuple #[.pointer (some ⟨l, 0, none⟩), .int .i64 0]) (by simp [results, Tryz.results43, go_sem]) rfl ?_
      have hGN : openG s.data.toList fs ⟨[], 1⟩ L = (P', L') := by rw [hG.out, List.drop_of_length_le (by have := HN.out; omega)]; rfl
      rw [hGN]
      exact ⟨l, rfl, F', G', hP.out, (Turn.of_below F K3.out).then hT.out (fun q hq => hq.elim .inl (fun h => .inr (h.elim (fun h => by rw [h]; exact HL.out.1) (fun h => by have := K3.out.size; omega)))), fun q hq => (hFF.out q hq).imp id (fun h => by have := K3.out.size; omega), fun q hq => (hGG.out q hq).elim (fun h => by rw [h]; exact HL.out.1) (fun h => by have := K3.out.size; omega)⟩
end Go.Proofs.YtejhoefmcldpnaaGreat
namespace Go.Proofs.YtejhoefmcldpnaaGreat
open Go.RowKit Go.Maps
theorem nodup_le {α : Type} [DecidableEq α] : ∀ (A B : List α), A.Nodup → (∀ a ∈ A, a ∈ B) → A.length ≤ B.length := by
  intro A
  induction A with
  | nil => intro B _ _; exact Nat.zero_le _
  | cons a A ih =>
    intro B hn hs
    obtain ⟨h1, h2⟩ := List.nodup_cons.1 hn
    have ha := hs a List.mem_cons_self
    have := ih (B.erase a) h2 (fun x hx => (List.mem_erase_of_ne (fun e => h1 (by rw [← e]; exact hx))).2 (hs x (List.mem_cons_of_mem _ hx)))
    rw [List.length_erase_of_mem ha] at this
    have := List.length_pos_of_mem ha
    simp only [List.length_cons]
    omega
theorem recs_mem : ∀ (es : List (List Nat)) (f : Nat) (p : List Nat), p ∈ es → p.length ≤ (recsL f es).length := by
  intro es
  induction es with
  | nil => intro f p h; cases h
  | cons q r ih =>
    intro f p h
    show p.length ≤ (recL f q ++ recsL (f + 1) r).length
    rw [List.length_append]
    rcases List.mem_cons.1 h with rfl | h
    · have := rec_len f p
      omega
    · have := ih (f + 1) p h
      omega
theorem Twin.rises {k : Str} {P : PLog} {M : LogL} {L : DiskL} (h : Twin k P M L) : ∀ a b (ha : a < P.segs.length) (hb : b < P.segs.length), a < b → P.segs[a].1 < P.segs[b].1 := fun a b ha hb hab => by
  obtain ⟨i, hc⟩ := h.chain
  have hl : M.segs.length = P.segs.length := by rw [h.segs, List.length_map]
  have := chain_rise hc h.full a b (by omega) (by omega) hab
  simp only [h.segs, List.getElem_map] at this
  exact this
theorem Twin.few {k : Str} {P : PLog} {M : LogL} {L : DiskL} (h : Twin k P M L) : P.segs.length ≤ L.length := by
  have hl : (P.segs.map fun x => nameL k x.1).length = P.segs.length := List.length_map _
  have hl2 : (L.map (·.1)).length = L.length := List.length_map _
  rw [← hl, ← hl2]
  have hlow : ∀ x ∈ P.segs, x.1 < 100000000 := fun x hx => h.low (bareP x) (by rw [h.segs]; exact List.mem_map.2 ⟨x, hx, rfl⟩)
  refine nodup_le _ _ ?_ (fun s hs => ?_)
  · unfold List.Nodup
    rw [List.pairwise_map, List.pairwise_iff_getElem]
    intro a b ha hb hab e
    have h1 := h.rises a b ha hb hab
    have h2 := name_inj k (hlow _ (List.getElem_mem ha)) (hlow _ (List.getElem_mem hb)) e
    omega
  · obtain ⟨x, hx, rfl⟩ := List.mem_map.1 hs
    obtain ⟨a, g1, _⟩ := h.file (bareP x) (by rw [h.segs]; exact List.mem_map.2 ⟨x, hx, rfl⟩)
    exact List.mem_map.2 ⟨_, getK_mem g1, rfl⟩
theorem Twin.bounds {k : Str} {P : PLog} {M : LogL} {L : DiskL} {room : Nat} (h : Twin k P M L) (hS : Sane room L) : P.segs.length ≤ 256 ∧ ∀ x ∈ P.segs, x.1 < 100000000 ∧ x.2.1.length ≤ 1073741824 ∧ (recsL x.1 x.2.1).length ≤ 1073741824 ∧ (getK (nameL k x.1) L).isSome = true := by
  refine ⟨Nat.le_trans h.few hS.few, fun x hx => ?_⟩
  have hm : bareP x ∈ M.segs := by rw [h.segs]; exact List.mem_map.2 ⟨x, hx, rfl⟩
  obtain ⟨a, g1, g2⟩ := h.file _ hm
  have g1 : getK (nameL k x.1) L = some a := g1
  have g2 : a.1.length = (recsL x.1 x.2.1).length := g2
  have h1 := hS.len g1
  have h2 := recs_ge x.2.1 x.1
  exact ⟨h.low _ hm, by omega, by omega, by rw [g1]; rfl⟩
structure RunAt (B : Nat) (w : World) (dp l room : Nat) (s : ByteArray) (P : PLog) (M : LogL) (L : DiskL) : Prop where
  ex : ∃ F G, PBoth w F G dp l room s P L ∧ (∀ q, F q → B ≤ q) ∧ (∀ q, G q → B ≤ q)
  twin : Twin s.data.toList P M L
  base : B ≤ w.heap.size
  pre : 1 ≤ s.size ∧ s.size ≤ 55
  most : M.next ≤ 1099511627776
def Run (B : Nat) (w : World) (dp l room : Nat) (s : ByteArray) (M : LogL) (L : DiskL) : Prop := ∃ P, RunAt B w dp l room s P M L
theorem Run.below {B : Nat} {w w' : World} {dp l room : Nat} {s : ByteArray} {M : LogL} {L : DiskL} (h : Run B w dp l room s M L) (k : Below w.heap.size w w') : Run B w' dp l room s M L := by
  obtain ⟨P, ⟨F, G, hb, hf, hg⟩, ht, hB, hp, hm⟩ := h
  exact ⟨P, ⟨F, G, hb.below k, hf, hg⟩, ht, Nat.le_trans hB k.size, hp, hm⟩
theorem below_of_turn {B : Nat} {w w' : World} {S : Nat → Prop} (t : Turn S w w') (hB : B ≤ w.heap.size) (hS : ∀ q, S q → B ≤ q) : Below B w w' := t.below hB hS
theorem Run.sane {B : Nat} {w : World} {dp l room : Nat} {s : ByteArray} {M : LogL} {L : DiskL} (h : Run B w dp l room s M L) : Sane room L := by
  obtain ⟨P, ⟨F, G, hb, _, _⟩, _⟩ := h
  exact hb.disk.sane
theorem run_add {B : Nat} {w0 w : World} {dp l room : Nat} {s : ByteArray} {M : LogL} {L : DiskL} (h : Run B w0 dp l room s M L) (k : Below w0.heap.size w0 w) (A : Option Addr) (m cp : Nat) (p : List Nat) (hP : IsB w (.slice A m cp) p) (hm : p.length = m) (hb : ∀ x ∈ p, x < 256) (hlow : p ≠ [] → ∀ g, (Value.slice A m cp).ownBlock = some g → g < B ∨ w0.heap.size ≤ g) :
    Calls Tryz.prog 87 #[.pointer (some ⟨l, 0, none⟩), .slice A m cp] w fun e w' => e = .returned (.tuple #[.int .i64 ((addL room s.data.toList p M L).2.1 : Int), .int .i64 ((addL room s.data.toList p M L).2.2 : Int)]) ∧ Run B w' dp l room s (addL room s.data.toList p M L).1.1 (addL room s.data.toList p M L).1.2 ∧ Below B w w' := by
  obtain ⟨P, ⟨F, G, hbo0, hF, hG⟩, ht, hB0, hp, hmo⟩ := h
  have hFl : ∀ q, F q → q < w0.heap.size := hbo0.disk.low
  have hGl : ∀ q, G q → q < w0.heap.size := hbo0.log.low
  have hbo := hbo0.below k
  have hB : B ≤ w.heap.size := Nat.le_trans hB0 k.size
  have hS := hbo.disk.sane
  obtain ⟨b1, b2⟩ := ht.bounds hS
  obtain ⟨e1, e2, e3⟩ := twin_add (room := room) p ht hS.rise
  refine (padd_any w F G dp l room s P L A m cp p hbo (by omega) hP hm hb (fun hne g hg => ⟨fun h => by have := hlow hne g hg; have := hF g h; have := hFl g h; omega, fun h => by have := hlow hne g hg; have := hG g h; have := hGl g h; omega⟩) (by omega) (fun x hx => ?_) (fun x hx => by have := (b2 x hx).2.2.1; omega)).mono ?_
  · obtain ⟨i, hc⟩ := ht.chain
    rcases List.eq_nil_or_concat P.segs with q | ⟨S0, y, q⟩
    · rw [q] at hx
      cases hx
    · rw [List.concat_eq_append] at q
      rw [q, List.getLast?_concat] at hx
      have ey := Option.some.inj hx
      subst ey
      rw [ht.segs, q, List.map_append] at hc
      have := (chain_last (s := bareP y) hc).2
      rw [ht.next] at this
      exact this
  · rintro e w' ⟨rfl, F', G', h1, h2, h3, h4⟩
    refine ⟨by rw [e1], ⟨_, ⟨F', G', by rw [e2]; exact h1, fun q hq => (h3 q hq).elim (hF q) (fun h => by omega), fun q hq => (h4 q hq).elim (hG q) (fun h => by omega)⟩, by rw [e2]; exact e3, Nat.le_trans hB h2.size, hp, ?_⟩, below_of_turn h2 hB (fun q hq => hq.elim (hF q) (hG q))⟩
    unfold addL
    split
    · exact hmo
    · split
      · exact hmo
      · split
        · exact hmo
        · show M.next + 1 ≤ 1099511627776
          omega
theorem run_sync {B : Nat} {w : World} {dp l room : Nat} {s : ByteArray} {M : LogL} {L : DiskL} (h : Run B w dp l room s M L) :
    Calls Tryz.prog 47 #[.pointer (some ⟨l, 0, none⟩)] w fun e w' => e = .returned (.int .i64 0) ∧ Run B w' dp l room s ⟨M.segs, M.next, []⟩ (syncsL s.data.toList M.dirty L) ∧ Below B w w' := by
  obtain ⟨P, ⟨F, G, hbo, hF, hG⟩, ht, hB, hp, hmo⟩ := h
  have hS := hbo.disk.sane
  obtain ⟨b1, b2⟩ := ht.bounds hS
  obtain ⟨e1, e2⟩ := twin_sync ht hS.rise
  refine (psync_any w F G dp l room s P L hbo (by omega) (fun x hx => ⟨by have := (b2 x hx).1; omega, fun _ => (b2 x hx).2.2.2⟩) (by omega)).mono ?_
  rintro e w' ⟨rfl, F', h1, h2, h3⟩
  rw [e1] at h1
  exact ⟨rfl, ⟨_, ⟨F', G, h1, fun q hq => (h3 q hq).elim (hF q) (fun h => by omega), hG⟩, e2, Nat.le_trans hB h2.size, hp, hmo⟩, below_of_turn h2 hB (fun q hq => hq.elim (hF q) (hG q))⟩
theorem Twin.first {k : Str} {P : PLog} {M : LogL} {L : DiskL} (h : Twin k P M L) : firstP P = firstL M := by
  unfold firstP firstL
  rw [h.segs, h.next, List.head?_map]
  rcases P.segs.head? with _ | x <;> rfl
theorem run_bounds {B : Nat} {w : World} {dp l room : Nat} {s : ByteArray} {M : LogL} {L : DiskL} (h : Run B w dp l room s M L) :
    Calls Tryz.prog 44 #[.pointer (some ⟨l, 0, none⟩)] w fun e w' => e = .returned (.tuple #[.int .i64 ((firstL M : Nat) : Int), .int .i64 (M.next : Int)]) ∧ Below w.heap.size w w' := by
  obtain ⟨P, ⟨F, G, hbo, hF, hG⟩, ht, hB, hp, hmo⟩ := h
  refine (pbounds_any w G l dp s P hbo.log).mono ?_
  rintro e w' ⟨rfl, d, rfl⟩
  rw [ht.first, ht.next]
  exact ⟨rfl, below_drewN (Below.refl _ _) d⟩
theorem getE_dirty (S : List Sg) (n : Nat) (d d' : List Nat) (z : Int) : getE ⟨S, n, d⟩ z = getE ⟨S, n, d'⟩ z := rfl
/-- A log that may be asked, whatever became of its disk. -/
def Read (w : World) (l : Nat) (M : LogL) : Prop := ∃ (G : Nat → Prop) (dp room : Nat) (s : ByteArray) (P : PLog) (L : DiskL), PLogAt w G l dp s P ∧ Twin s.data.toList P M L ∧ Sane room L ∧ M.next ≤ 1099511627776
theorem Read.below {w w' : World} {l : Nat} {M : LogL} (h : Read w l M) (k : Below w.heap.size w w') : Read w' l M := by
  obtain ⟨G, dp, room, s, P, L, h1, h2⟩ := h
  exact ⟨G, dp, room, s, P, L, h1.below k, h2⟩
theorem Run.read {B : Nat} {w : World} {dp l room : Nat} {s : ByteArray} {M : LogL} {L : DiskL} (h : Run B w dp l room s M L) : Read w l M := by
  obtain ⟨P, ⟨F, G, hbo, _, _⟩, ht, _, _, hmo⟩ := h
  exact ⟨G, dp, room, s, P, L, hbo.log, ht, hbo.disk.sane, hmo⟩
theorem read_get {w : World} {l : Nat} {M : LogL} (h : Read w l M) (z : Int) :
    Calls Tryz.prog 45 #[.pointer (some ⟨l, 0, none⟩), .int .i64 z] w fun e w' => ∃ v, e = .returned (.tuple #[v, .int .i64 ((getE M z).2 : Int)]) ∧ Own w' w.heap.size v (getE M z).1 ∧ Below w.heap.size w w' := by
  obtain ⟨G, dp, room, s, P, L, hlog, ht, hS, hmo⟩ := h
  obtain ⟨b1, b2⟩ := ht.bounds hS
  obtain ⟨i, hc⟩ := ht.chain
  have hfi : firstL M = i := chain_first (d := M.dirty) hc
  obtain ⟨vS, X, eX, hW⟩ := hlog
  have hbare : M.segs = X.map fun x => (x.1, x.2.2.2) := by rw [ht.segs, chain_segP eX]
  have hfull := ht.full
  by_cases hz : z < (i : Int) ∨ (M.next : Int) ≤ z
  · have hg : getE M z = ([], 7) := getE_out (d := M.dirty) hc hz
    rw [hg]
    refine (pget_out w G l dp s P z ⟨vS, X, eX, hW⟩ (by rw [ht.first, hfi, ← ht.next]; exact hz)).mono ?_
    rintro e w' ⟨rfl, k⟩
    exact ⟨_, rfl, World.ownsRow_nil _ _ _ _, k⟩
  · obtain ⟨P1, P2⟩ := P
    have hn : M.next = P2 := ht.next
    have e0 : (X.map segP) = P1 := eX.symm
    rw [hbare, hn] at hc
    rw [hbare] at hfull
    have hXl : X.length = P1.length := by rw [← e0, List.length_map]
    have b1 : P1.length ≤ 256 := b1
    have hgm : getE M z = getE ⟨X.map fun x => (x.1, x.2.2.2), P2, []⟩ z := by
      rw [show M = ⟨M.segs, M.next, M.dirty⟩ from rfl, hbare, hn]
      rfl
    have hXm : ∀ x ∈ X, segP x ∈ P1 := fun x hx => by rw [← e0]; exact List.mem_map.2 ⟨x, hx, rfl⟩
    obtain ⟨j, hj1, hj2⟩ := ahead_ex X (z + 1) (rise_of_chain hc hfull)
    obtain ⟨_, k2, _, _, k5⟩ := getE_ahead (j := j) (d := []) hc hfull (z := z) (by omega) (by omega) (by simpa using hj1) (fun k hk => by simpa using hj2 k (by simpa using hk))
    have h2 : (getE M z).2 = 0 := by rw [hgm, k5]
    rw [h2, hgm]
    refine (pget_in w G l dp s vS X P2 i z hW hc hfull (by have h9 := ht.first; rw [hfi] at h9; rw [e0]; exact_mod_cast h9) (by omega) (by omega) (by omega) (by omega) (fun x hx p hp => ?_)).mono ?_
    · have h3 := (b2 (segP x) (hXm x hx)).2.2.1
      have h4 := recs_mem x.2.2.2 x.1 p hp
      have h3 : (recsL x.1 x.2.2.2).length ≤ 1073741824 := h3
      omega
    · rintro e w' ⟨v, rfl, o, k⟩
      exact ⟨v, rfl, o, k⟩
theorem run_get {B : Nat} {w : World} {dp l room : Nat} {s : ByteArray} {M : LogL} {L : DiskL} (h : Run B w dp l room s M L) (z : Int) :
    Calls Tryz.prog 45 #[.pointer (some ⟨l, 0, none⟩), .int .i64 z] w fun e w' => ∃ v, e = .returned (.tuple #[v, .int .i64 ((getE M z).2 : Int)]) ∧ Own w' w.heap.size v (getE M z).1 ∧ Below w.heap.size w w' := read_get h.read z
end Go.Proofs.YtejhoefmcldpnaaGreat
namespace Go.Proofs.YtejhoefmcldpnaaGreat
open Go.RowKit Go.Maps
theorem run_cut {B : Nat} {w : World} {dp l room : Nat} {s : ByteArray} {M : LogL} {L : DiskL} (h : Run B w dp l room s M L) (i : Nat) (hi1 : firstL M ≤ i) (hi2 : i ≤ M.next) :
    Calls Tryz.prog 81 #[.pointer (some ⟨l, 0, none⟩), .int .i64 (i : Int)] w fun e w' => e = .returned (.int .i64 0) ∧ Run B w' dp l room s (cutW s.data.toList i M L).1 (cutW s.data.toList i M L).2 ∧ Below B w w' := by
  obtain ⟨P, ⟨F, G, hbo, hF, hG⟩, ht, hB, hp, hmo⟩ := h
  have hS := hbo.disk.sane
  obtain ⟨b1, b2⟩ := ht.bounds hS
  have hr := ht.rises
  obtain ⟨left, hl, hc⟩ : ∃ left, left ≤ P.segs.length ∧ ∀ j (hj : j < P.segs.length), j < left ↔ (P.segs[j].1 : Int) < (i : Int) := by
    have key : ∀ (S : List Sgf) (z : Int), (∀ a b (ha : a < S.length) (hb : b < S.length), a < b → S[a].1 < S[b].1) → ∃ j : Nat, j ≤ S.length ∧ ∀ k (hk : k < S.length), k < j ↔ (S[k].1 : Int) < z := fun S z hr => by
      obtain ⟨j, h1, h2⟩ := ahead_ex (S.map fun x => (x.1, Value.slice none 0 0, x.2.2, x.2.1)) z (fun a b ha hb hab => by
        have := hr a b (by simpa using ha) (by simpa using hb) hab
        simpa using this)
      exact ⟨j, by simpa using h1, fun k hk => by have := h2 k (by simpa using hk); simpa using this⟩
    exact key P.segs i hr
  obtain ⟨e1, e2, e3⟩ := twin_cut ht hS.rise hi1 hi2 hc
  have hfin : Calls Tryz.prog 81 #[.pointer (some ⟨l, 0, none⟩), .int .i64 (i : Int)] w fun e w' => ∃ R : PLog × DiskL, R = cutP s.data.toList i left P L ∧ e = .returned (.int .i64 0) ∧ ∃ F', PBoth w' F' G dp l room s R.1 R.2 ∧ Turn (fun k => F k ∨ G k) w w' ∧ ∀ k, F' k → F k ∨ w.heap.size ≤ k := by
    have q1 : firstP P ≤ i := by rw [ht.first]; exact hi1
    have q2 : i ≤ P.next := by rw [← ht.next]; exact hi2
    have q3 : P.next ≤ 1099511627776 := by rw [← ht.next]; exact hmo
    have q4 : ∀ x ∈ P.segs, x.1 ≤ 1099511627776 := fun x hx => by have := (b2 x hx).1; omega
    rcases Nat.eq_zero_or_pos P.segs.length with h0 | h0
    · exact pcut_empty w F G dp l room s P L i left hbo (by omega) q1 q2 q3 (by omega) hl hr hc q4 (List.eq_nil_of_length_eq_zero h0)
    · rcases Nat.eq_zero_or_pos left with hl0 | hl0
      · exact pcut_zero w F G dp l room s P L i left hbo (by omega) q1 q2 q3 (by omega) hl hr hc q4 h0 hl0
      · obtain ⟨x, hx⟩ : ∃ x, (P.segs.take left).getLast? = some x := by
          rcases e : (P.segs.take left).getLast? with _ | x
          · have := List.getLast?_eq_none_iff.1 e
            have := congrArg List.length this
            rw [List.length_take, List.length_nil] at this
            omega
          · exact ⟨x, rfl⟩
        have hxm : x ∈ P.segs := List.mem_of_mem_take (List.mem_of_getLast? hx)
        by_cases hie : i < x.1 + x.2.1.length
        · exact pcut_short w F G dp l room s P L i left hbo (by omega) q1 q2 q3 (by omega) hl hr hc q4 x hx hie (b2 x hxm).2.1 (by have := (b2 x hxm).2.2.1; omega) (e3 x hx hie)
        · exact pcut_keep w F G dp l room s P L i left hbo (by omega) q1 q2 q3 (by omega) hl hr hc q4 x hx (by omega) (b2 x hxm).2.1
  refine hfin.mono ?_
  rintro e w' ⟨R, rfl, rfl, F', h1, h2, h3⟩
  refine ⟨rfl, ⟨_, ⟨F', G, by rw [e1]; exact h1, fun q hq => (h3 q hq).elim (hF q) (fun h => by omega), hG⟩, by rw [e1]; exact e2, Nat.le_trans hB h2.size, hp, ?_⟩, below_of_turn h2 hB (fun q hq => hq.elim (hF q) (hG q))⟩
  show i ≤ 1099511627776
  omega
theorem run_cut_bad {B : Nat} {w : World} {dp l room : Nat} {s : ByteArray} {M : LogL} {L : DiskL} (h : Run B w dp l room s M L) (z : Int) (hz : z < (firstL M : Int) ∨ (M.next : Int) < z) :
    Calls Tryz.prog 81 #[.pointer (some ⟨l, 0, none⟩), .int .i64 z] w fun e w' => e = .returned (.int .i64 1) ∧ Below w.heap.size w w' := by
  obtain ⟨P, ⟨F, G, hbo, hF, hG⟩, ht, hB, hp, hmo⟩ := h
  exact pcut_bad w G l dp s P z hbo.log (by rw [ht.first, ← ht.next]; exact hz)
/-- The disk of a log that is left. -/
theorem Run.disk {B : Nat} {w : World} {dp l room : Nat} {s : ByteArray} {M : LogL} {L : DiskL} (h : Run B w dp l room s M L) : ∃ F, DiskAt w F dp room L ∧ (∀ q, F q → B ≤ q) ∧ B ≤ w.heap.size := by
  obtain ⟨P, ⟨F, G, hbo, hF, hG⟩, ht, hB, hp, hmo⟩ := h
  exact ⟨F, hbo.disk, hF, hB⟩
theorem open_turn {B : Nat} {w : World} {F : Nat → Prop} {dp room : Nat} (s : ByteArray) {L : DiskL} (hD : DiskAt w F dp room L) (hF : ∀ q, F q → B ≤ q) (hB : B ≤ w.heap.size) (h1 : 1 ≤ s.size) (h2 : s.size ≤ 55) :
    Calls Tryz.prog 43 #[.pointer (some ⟨dp, 0, none⟩), .string s] w fun e w' => ∃ l, e = .returned (.tuple #[.pointer (some ⟨l, 0, none⟩), .int .i64 0]) ∧ Run B w' dp l room s (openR s.data.toList L).log (openR s.data.toList L).disk ∧ Below B w w' ∧ Turn F w w' := by
  have hS := hD.sane
  obtain ⟨e1, e2⟩ := twin_open (k := s.data.toList) hS.rise (fun q hq => (hD.facts.2.2.2.2.1 q hq).2)
  refine (popen_any w F dp room s L hD h1 h2).mono ?_
  rintro e w' ⟨l, rfl, F', G, h3, h4, h5, h6⟩
  refine ⟨l, rfl, ⟨_, ⟨F', G, by rw [e1]; exact h3, fun q hq => (h5 q hq).elim (hF q) (fun h => by omega), fun q hq => by have := h6 q hq; omega⟩, by rw [e1]; exact e2, Nat.le_trans hB h4.size, ⟨h1, h2⟩, ?_⟩, below_of_turn h4 hB hF, h4⟩
  have hb := e2.bounds h3.disk.sane
  obtain ⟨i, hc⟩ := e2.chain
  rcases List.eq_nil_or_concat (openR s.data.toList L).log.segs with q | ⟨S0, y, q⟩
  · have hgen : ∀ (N : List Str) (o : OpenS), (o.log.segs = [] → o.log.next = 1) → ((N.foldl (openStep s.data.toList) o).log.segs = [] → (N.foldl (openStep s.data.toList) o).log.next = 1) := by
      intro N
      induction N with
      | nil => intro o h; exact h
      | cons t N ih =>
        intro o h
        rw [List.foldl_cons]
        refine ih _ ?_
        unfold openStep
        split
        · exact h
        · split
          · exact h
          · split
            · intro e; simp at e
            · split
              · exact h
              · intro e; simp at e
    have h9 : (openR s.data.toList L).log.segs = [] → (openR s.data.toList L).log.next = 1 := hgen (L.map (fun x : Str × (List Nat × Nat) => x.1)) ⟨false, ⟨[], 1, []⟩, L⟩ (fun _ => rfl)
    have := h9 q
    omega
  · rw [List.concat_eq_append] at q
    rw [q] at hc
    have h7 := (chain_last hc).2
    have hy : y ∈ (openR s.data.toList L).log.segs := by rw [q]; simp
    rw [e2.segs] at hy
    obtain ⟨x, hx, rfl⟩ := List.mem_map.1 hy
    have h8 := hb.2 x hx
    have h7 : (openR s.data.toList L).log.next = x.1 + x.2.1.length := h7
    omega
theorem run_open {B : Nat} {w : World} {F : Nat → Prop} {dp room : Nat} (s : ByteArray) {L : DiskL} (hD : DiskAt w F dp room L) (hF : ∀ q, F q → B ≤ q) (hB : B ≤ w.heap.size) (h1 : 1 ≤ s.size) (h2 : s.size ≤ 55) :
    Calls Tryz.prog 43 #[.pointer (some ⟨dp, 0, none⟩), .string s] w fun e w' => ∃ l, e = .returned (.tuple #[.pointer (some ⟨l, 0, none⟩), .int .i64 0]) ∧ Run B w' dp l room s (openR s.data.toList L).log (openR s.data.toList L).disk ∧ Below B w w' := by
  refine (open_turn s hD hF hB h1 h2).mono ?_
  rintro e w' ⟨l, h3, h4, h5, _⟩
  exact ⟨l, h3, h4, h5⟩
/-- A second log on the same disk; the first one may still be asked. -/
theorem run_open2 {B : Nat} {w : World} {dp l room : Nat} {s0 : ByteArray} {M : LogL} {L : DiskL} (h : Run B w dp l room s0 M L) (s : ByteArray) (h1 : 1 ≤ s.size) (h2 : s.size ≤ 55) :
    Calls Tryz.prog 43 #[.pointer (some ⟨dp, 0, none⟩), .string s] w fun e w' => ∃ l2, e = .returned (.tuple #[.pointer (some ⟨l2, 0, none⟩), .int .i64 0]) ∧ Run B w' dp l2 room s (openR s.data.toList L).log (openR s.data.toList L).disk ∧ Below B w w' ∧ Read w' l M := by
  obtain ⟨P, ⟨F, G, hbo, hF, hG⟩, ht, hB, hp, hmo⟩ := h
  refine (open_turn s hbo.disk hF hB h1 h2).mono ?_
  rintro e w' ⟨l2, h3, h4, h5, h6⟩
  exact ⟨l2, h3, h4, h5, G, dp, room, s0, P, L, hbo.log.turn h6 (fun q hg hf => hbo.apart q hf hg), ht, hbo.disk.sane, hmo⟩
theorem run_crash {B : Nat} {w : World} {dp l room : Nat} {s : ByteArray} {M : LogL} {L : DiskL} (h : Run B w dp l room s M L) (z : Int) :
    Calls Tryz.prog 12 #[.pointer (some ⟨dp, 0, none⟩), .int .i64 z] w fun e w' => e = .returned (.tuple #[]) ∧ ∃ F', DiskAt w' F' dp room (crashD z.toNat L) ∧ (∀ q, F' q → B ≤ q) ∧ B ≤ w'.heap.size ∧ Below B w w' := by
  obtain ⟨F, hD, hF, hB⟩ := h.disk
  refine (crash_any F dp room L z w hD).mono ?_
  rintro e w' ⟨rfl, F', d, n⟩
  exact ⟨rfl, F', d, n.up hB hF, Nat.le_trans hB n.turn.size, n.below hB hF⟩
end Go.Proofs.YtejhoefmcldpnaaGreat
