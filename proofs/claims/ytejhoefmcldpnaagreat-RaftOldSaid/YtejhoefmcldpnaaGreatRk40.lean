/- The contracts of raft's load, logOf and Open. Condition: the file of the term and the log are as a node wrote them. The contracts of what a node does with a message: its numbers, whether it is meant, its entries where it has none, answers. Condition: as each says. The contracts of entriesOf without bytes, follow, has, join of nothing, answer. Condition: as each says. -/
import Derived.Test.YtejhoefmcldpnaaGreatRk37
import Derived.Test.YtejhoefmcldpnaaGreatRk26
import Derived.Test.YtejhoefmcldpnaaGreatRk25
import Derived.Test.YtejhoefmcldpnaaGreatRk39
import Derived.Test.YtejhoefmcldpnaaGreatRk6
namespace Go.Proofs.YtejhoefmcldpnaaGreat
open Go.RowKit Go.Maps
set_option maxRecDepth 100000 in
theorem rend_ok (g : Nat) (A : Option Addr) (c : Nat) (w : World) (hB : RdrB w g A 0 c 0) :
    Calls Tryz.prog 42 #[.pointer (some ⟨g, 0, none⟩)] w fun e w' => e = .returned (.int .i64 0) ∧ Below w.heap.size w w' := by
  have q0 : w.cell? ⟨g, 0, none⟩ = some (.slice A 0 c) := hB.cell 0
  have q1 : w.cell? ⟨g, 1, none⟩ = some (.int .i64 0) := hB.cell 1
  clear hB
  have HG : Hid (Calls Tryz.prog 50 #[.pointer (some ⟨g, 0, none⟩)] w fun e w' => e = .returned (.bool false) ∧ w = w') := by
    refine hide ?_
    go_enter Tryz.func50, Tryz.ntmps50
    go_wp2_with fail
    go_ret
    exact ⟨rfl, rfl⟩
  go_enter Tryz.func42, Tryz.ntmps42
  go_wp2_with fail
  refine HG.out.mono ?_
  rintro e w1 ⟨rfl, rfl⟩
  go_wp2_with fail
  go_ret
  exact ⟨rfl, Below.refl _ _⟩
/-- What a disk says of term and vote: nothing, or what was written. -/
def TermD (L : DiskL) (t v1 : Nat) : Prop := (loadL termK L = ([], 7) ∧ t = 0 ∧ v1 = 0) ∨ loadL termK L = (numsL [t, v1], 0)
set_option maxRecDepth 100000 in
set_option maxHeartbeats 3200000 in
theorem rload_any (F : Nat → Prop) (d room : Nat) (L : DiskL) (n t v1 : Nat) (w : World) (hD : DiskAt w F d room L) (ht : TermD L t v1) (ht9 : t ≤ 9223372036854775807) (hv : v1 ≤ n) (hn : n ≤ 100) :
    Calls Tryz.prog 19 #[.pointer (some ⟨d, 0, none⟩), .int .i64 (n : Int)] w fun e w' => e = .returned (.tuple #[.int .i64 (t : Int), .int .i64 ((v1 : Int) - 1), .int .i64 0]) ∧ Below w.heap.size w w' := by
  have LD := hide (load_any F d room L ⟨#[116, 101, 114, 109]⟩ w hD (by decide))
  rcases ht with ⟨he, rfl, rfl⟩ | he
  · rw [show loadL (⟨#[116, 101, 114, 109]⟩ : ByteArray).data.toList L = _ from he] at LD
    clear hD he
    go_enter Tryz.func19, Tryz.ntmps19
    go_wp2_with fail
    refine LD.out.mono ?_
    rintro e w1 ⟨v, rfl, o1, k1⟩
    have K1 := hide k1
    clear o1 k1 LD
    go_wp2_with fail
    refine bodyPost_ret (v := .tuple #[.int .i64 0, .int .i64 (-1), .int .i64 0]) (by simp [results, Tryz.results19, go_sem]) rfl ?_
    exact ⟨rfl, K1.out⟩
  · rw [show loadL (⟨#[116, 101, 114, 109]⟩ : ByteArray).data.toList L = _ from he] at LD
    clear hD he
    go_enter Tryz.func19, Tryz.ntmps19
    go_wp2_with fail
    refine LD.out.mono ?_
    rintro e w1 ⟨v, rfl, o1, k1⟩
    obtain ⟨m, hm⟩ : ∃ m, m = (numsL [t, v1]).length := ⟨_, rfl⟩
    obtain ⟨A, c, rfl, _⟩ := o1.isB.form hm.symm
    have hlow := own_lowB o1 hm.symm
    have K1 := hide k1
    have HLOW := hide hlow
    have HM := hide hm
    clear o1 k1 hlow hm LD
    go_wp2_with fail
    have kb := below_alloc w1 (.cells #[.slice A m c, .int .i64 0] 91)
    have br := Blk.new w1 (B := 0) 91 #[.slice A m c, .int .i64 0] (Nat.zero_le _)
    obtain ⟨g, hg⟩ : ∃ g, g = w1.heap.size := ⟨_, rfl⟩
    obtain ⟨W, hW⟩ : ∃ W, W = w1.alloc (.cells #[.slice A m c, .int .i64 0] 91) := ⟨_, rfl⟩
    have low2 := HLOW.out.keep kb
    rw [← hW] at kb br low2
    rw [← hg] at br low2
    rw [← hW, ← hg]
    have hnl : numsL [t, v1] = uvl t ++ (uvl v1 ++ []) := rfl
    rw [hnl] at low2
    have hlen := low2.len
    rw [List.length_append] at hlen
    have K2 := hide (K1.out.trans (kb.mono K1.out.size))
    have HGS : Hid (w.heap.size ≤ g) := hide (by rw [hg]; exact K1.out.size)
    have R1 := hide (rdr_num_ok g A m c _ W t (uvl t).length 9223372036854775807 br low2 (fun x hx => (List.mem_append.1 hx).elim (uvl_byte t x) (fun h => uvl_byte v1 x (by simpa using h))) (rvl_back t _ (by omega)) ht9 (by omega) (by omega))
    rw [List.drop_left] at R1
    clear hW hg kb br low2 hnl hlen
    refine R1.out.mono ?_
    rintro e w2 ⟨rfl, A2, c2, hs2, b2, l2, t2⟩
    have hlen2 := l2.len
    rw [List.append_nil] at hlen2
    have R2 := hide (rdr_num_ok g A2 _ c2 _ w2 v1 (uvl v1).length n b2 l2 (fun x hx => uvl_byte v1 x (by simpa using hx)) (rvl_back v1 [] (by omega)) hv (by omega) (by omega))
    have T2 := hide t2
    rw [← hlen2, Nat.sub_self] at R2
    clear b2 l2 t2 hs2 hlen2 R1
    go_wp2_with fail
    refine R2.out.mono ?_
    rintro e w3 ⟨rfl, A3, c3, hs3, b3, l3, t3⟩
    have RE := hide (rend_ok g A3 c3 w3 b3)
    have T3 := hide (T2.out.trans t3)
    clear b3 l3 t3 hs3 R2
    go_wp2_with fail
    refine RE.out.mono ?_
    rintro e w4 ⟨rfl, k4⟩
    have K4 := hide ((K2.out.trans (T3.out.below K2.out.size (fun k e => by rw [e]; exact HGS.out))).trans (k4.mono (Nat.le_trans K2.out.size T3.out.size)))
    clear k4 RE
    go_wp2_with fail
    refine bodyPost_ret (v := .tuple #[.int .i64 (t : Int), .int .i64 ((v1 : Int) - 1), .int .i64 0]) (by simp [results, Tryz.results19, go_sem]) rfl ?_
    exact ⟨rfl, K4.out⟩
/-- Each entry of a log is one of raft's. -/
def AllE (M : LogL) : Prop := ∀ i : Nat, 1 ≤ i → i < M.next → ∃ t dat, HasE M (i : Int) t dat
set_option maxRecDepth 100000 in
set_option maxHeartbeats 3200000 in
theorem rlogOf_any (F : Nat → Prop) (d room : Nat) (L : DiskL) (w : World) (hD : DiskAt w F d room L) (h1 : firstL (openR logK L).log = 1) (hA : AllE (openR logK L).log) :
    Calls Tryz.prog 20 #[.pointer (some ⟨d, 0, none⟩)] w fun e w' => ∃ l, e = .returned (.tuple #[.pointer (some ⟨l, 0, none⟩), .int .i64 0]) ∧ ∃ F' G', Pro w' F' G' d l room logS ⟨(openR logK L).log.segs, (openR logK L).log.next, []⟩ (syncsL logK (openR logK L).log.dirty (openR logK L).disk) ∧ Turn F w w' ∧ (∀ k, F' k → F k ∨ w.heap.size ≤ k) ∧ (∀ k, G' k → w.heap.size ≤ k) := by
  have PO := hide (pro_open logS hD (by decide) (by decide))
  obtain ⟨M, hM⟩ : ∃ M, M = (openR logK L).log := ⟨_, rfl⟩
  obtain ⟨L1, hL1⟩ : ∃ M, M = (openR logK L).disk := ⟨_, rfl⟩
  rw [show logS.data.toList = logK from rfl, ← hM, ← hL1] at PO
  rw [← hM] at h1 hA
  rw [← hM, ← hL1]
  have HA := hide hA
  have H1 := hide h1
  clear hD h1 hA hM hL1
  go_enter Tryz.func20, Tryz.ntmps20
  go_wp2_with fail
  refine PO.out.mono ?_
  rintro e w1 ⟨l, rfl, F1, G1, p1, t1, hf1, hg1⟩
  have P1 := hide p1
  have T1 := hide t1
  have HF1 := hide hf1
  have HG1 := hide hg1
  clear p1 t1 hf1 hg1 PO
  go_wp2_with fail
  refine (pro_bounds P1.out).mono ?_
  rintro e w2 ⟨rfl, k2⟩
  have P2 := hide (P1.out.below k2)
  have T2 := hide (T1.out.trans (Turn.of_below F k2))
  rw [H1.out]
  obtain ⟨nx, hnx⟩ : ∃ n, n = M.next := ⟨_, rfl⟩
  have hnx9 : nx ≤ 1099511627776 := by rw [hnx]; exact P2.out.next_pos
  rw [← hnx]
  have HNX := hide hnx
  clear k2 hnx
  go_wp2_with fail
  go_loopw [8, 9, 10, 11] (fun i _ _ _ wr => ∃ j : Nat, 1 ≤ j ∧ (j ≤ nx ∨ j = 1) ∧ i = .int .i64 (j : Int) ∧ Hid (Pro wr F1 G1 d l room logS M L1) ∧ Hid (Turn F w wr)) (fun i _ _ _ _ => nx - (intOf i).toNat)
  case atStart => exact ⟨1, Nat.le_refl _, .inr rfl, rfl, P2, T2⟩
  case round =>
    obtain ⟨j, hj1, hj2, rfl, HP, HT⟩ := hrel
    by_cases hlt : j < nx
    · have hjz : (j : Int) < (nx : Int) := by omega
      obtain ⟨t, dat, hg, ht9, hb⟩ := HA.out j hj1 (by rw [← HNX.out]; exact hlt)
      have GT := hide (read_get HP.out.read (j : Int))
      rw [hg] at GT
      have HTB := hide (And.intro ht9 hb)
      clear hg ht9 hb
      go_wp2_with fail
      refine GT.out.mono ?_
      rintro e w3 ⟨v, rfl, o3, k3⟩
      obtain ⟨m, hm⟩ : ∃ m, m = (uvl t ++ dat).length := ⟨_, rfl⟩
      obtain ⟨A, c, rfl, _⟩ := o3.isB.form hm.symm
      have hlow := own_lowB o3 hm.symm
      have P3 := hide (HP.out.below k3)
      have T3 := hide (HT.out.trans (Turn.of_below F k3))
      have HLOW := hide hlow
      clear o3 k3 hlow hm GT
      go_wp2_with fail
      have kb := below_alloc w3 (.cells #[.slice A m c, .int .i64 0] 91)
      have br := Blk.new w3 (B := 0) 91 #[.slice A m c, .int .i64 0] (Nat.zero_le _)
      obtain ⟨g, hgg⟩ : ∃ g, g = w3.heap.size := ⟨_, rfl⟩
      obtain ⟨W, hW⟩ : ∃ W, W = w3.alloc (.cells #[.slice A m c, .int .i64 0] 91) := ⟨_, rfl⟩
      have low2 := HLOW.out.keep kb
      rw [← hW] at kb br low2
      rw [← hgg] at br low2
      rw [← hW, ← hgg]
      have LD := hide (rdr_laid_ok g A m c t dat W br low2 HTB.out.2 HTB.out.1)
      have P4 := hide (P3.out.below kb)
      have T4 := hide (T3.out.trans (Turn.of_below F kb))
      have HGG : Hid (g = w3.heap.size ∧ w3.heap.size ≤ W.heap.size) := hide ⟨hgg, kb.size⟩
      clear hW hgg kb br low2
      refine LD.out.mono ?_
      rintro e w5 ⟨A5, n5, c5, rfl, hs5, l5, A6, c6, b6, t6⟩
      have q1 : w5.cell? ⟨g, 1, none⟩ = some (.int .i64 0) := b6.cell 1
      have hwg : w.heap.size ≤ w3.heap.size := T3.out.size
      have hFl := P3.out.low
      have P5 := hide (P4.out.turn t6 (fun k hk e => by have h7 := hFl.1 k hk; have h8 := HGG.out.1; rw [e] at h7; omega) (fun k hk e => by have h7 := hFl.2 k hk; have h8 := HGG.out.1; rw [e] at h7; omega))
      have T5 := hide (T4.out.then t6 (fun k e => .inr (by rw [e, HGG.out.1]; exact hwg)))
      clear hs5 l5 b6 t6 hFl hwg LD
      go_wp2_with fail
      go_roundw
      case rel => exact ⟨j + 1, by omega, .inl (by omega), by go_num, P5, T5⟩
      case measure => simp [intOf]; omega
    · have hjz : ¬ (j : Int) < (nx : Int) := by omega
      go_wp2_with fail
      refine (pro_sync HP.out).mono ?_
      rintro e w3 ⟨rfl, F3, G3, p3, t3, hf3, hg3⟩
      have P3 := hide p3
      have T3 := hide t3
      have HF3 := hide hf3
      have HG3 := hide hg3
      clear p3 t3 hf3 hg3
      go_wp2_with fail
      go_ret2
      refine ⟨l, rfl, F3, G3, P3.out, HT.out.then T3.out (fun k hk => hk.elim (fun h => HF1.out k h) (fun h => .inr (HG1.out k h))), fun k hk => (HF3.out k hk).elim (fun h => HF1.out k h) (fun h => .inr (Nat.le_trans HT.out.size h)), fun k hk => (HG3.out k hk).elim (fun h => HG1.out k h) (fun h => Nat.le_trans HT.out.size h)⟩
end Go.Proofs.YtejhoefmcldpnaaGreat
namespace Go.Proofs.YtejhoefmcldpnaaGreat
open Go.RowKit Go.Maps
/-- Numbers in a block of their own. -/
def NumsAt (w : World) (g : Nat) (zs : List Int) : Prop := ∀ i (h : i < zs.length), w.cell? ⟨g, i, none⟩ = some (.int .i64 zs[i])
theorem NumsAt.turn {S : Nat → Prop} {w w' : World} {g : Nat} {zs : List Int} (h : NumsAt w g zs) (t : Turn S w w') (hg : ¬ S g) : NumsAt w' g zs := fun i hi => by
  have h1 := h i hi
  have hb := t.block g (cell_lt h1) hg
  rw [← h1]
  exact World.cell?_of_block hb
theorem NumsAt.keep {w w' : World} {g : Nat} {zs : List Int} (h : NumsAt w g zs) (k : Below w.heap.size w w') : NumsAt w' g zs := fun i hi => (k.cell (cell_lt (h i hi))).trans (h i hi)
/-- Numbers as messages may tell them. -/
def okN (zs : List Int) : Prop := ∀ z ∈ zs, 0 ≤ z ∧ z ≤ 1099511627776
set_option maxRecDepth 100000 in
theorem are_ok (g c : Nat) (zs : List Int) (w : World) (n : Nat) (hn : zs.length = n) (hc : n ≤ c) (h : NumsAt w g zs) (hz : okN zs) (h9 : n ≤ 100) :
    Calls Tryz.prog 49 #[.slice (some ⟨g, 0, none⟩) n c, .int .i64 (n : Int)] w fun e w' => e = .returned (.bool true) ∧ w = w' := by
  have H := hide h
  have HN := hide hn
  have HZ := hide hz
  clear h hn hz
  go_enter Tryz.func49, Tryz.ntmps49
  go_wp2_with fail
  go_loopw [6, 9] (fun _ i wr => ∃ j : Nat, j ≤ n ∧ i = .int .i64 (j : Int) ∧ wr = w) (fun _ i _ => n - (intOf i).toNat)
  case atStart => exact ⟨0, Nat.zero_le _, rfl, rfl⟩
  case round =>
    obtain ⟨j, hj, rfl, rfl⟩ := hrel
    by_cases hlt : j < n
    · have hjx : j < zs.length := by rw [HN.out]; exact hlt
      have hc0 := H.out j hjx
      obtain ⟨z, hz⟩ : ∃ z, z = zs[j] := ⟨_, rfl⟩
      obtain ⟨hz1, hz2⟩ := HZ.out z (by rw [hz]; exact List.getElem_mem hjx)
      rw [← hz] at hc0
      have hz3 : ¬ z < 0 := by omega
      have hz4 : ¬ 1099511627776 < z := by omega
      have hjz : (j : Int) < (n : Int) := by omega
      clear hz hjx
      go_wp2_with fail
      go_roundw
      case rel => exact ⟨j + 1, by omega, by go_num, trivial⟩
      case measure => simp [intOf]; omega
    · obtain rfl : j = n := by omega
      have hjz : ¬ (j : Int) < (j : Int) := by omega
      go_wp2_with fail
      go_ret
      exact ⟨rfl, rfl⟩
/-- A message's five cells as a value. -/
def msgV (f t k : Int) (g n c : Nat) (D : Option Addr) (m dc : Nat) : Value := .agg #[.int .i64 f, .int .i64 t, .int .i64 k, .slice (some ⟨g, 0, none⟩) n c, .slice D m dc]
/-- The numbers that each Kind has. -/
def kindN (k : Int) (zs : List Int) : Prop := (k = 1 ∧ zs.length = 3) ∨ (k = 2 ∧ zs.length = 2 ∧ zs.getD 1 0 ≤ 1) ∨ (k = 3 ∧ zs.length = 4) ∨ (k = 4 ∧ zs.length = 3 ∧ zs.getD 1 0 ≤ 1)
set_option maxRecDepth 100000 in
set_option maxHeartbeats 6400000 in
theorem meant_ok {w : World} {S : Nat → Prop} {r d l room : Nat} {N : Nd} {M : LogL} {L : DiskL} (h : NdS w S r d l room N M L) (f t k : Int) (g n c : Nat) (D : Option Addr) (m dc : Nat) (zs : List Int) (hn : zs.length = n) (hc : n ≤ c) (hN : NumsAt w g zs) (hz : okN zs) (ht : t = (N.id : Int)) (hf1 : f ≠ (N.id : Int)) (hf2 : 0 ≤ f) (hf3 : f < (N.n : Int)) (hk : kindN k zs) :
    Calls Tryz.prog 24 #[.pointer (some ⟨r, 0, none⟩), msgV f t k g n c D m dc] w fun e w' => e = .returned (.bool true) ∧ Below w.heap.size w w' := by
  have ka := below_alloc w (.cells #[.int .i64 f, .int .i64 t, .int .i64 k, .slice (some ⟨g, 0, none⟩) n c, .slice D m dc] 34)
  have bg := Blk.new w (B := 0) 34 #[.int .i64 f, .int .i64 t, .int .i64 k, .slice (some ⟨g, 0, none⟩) n c, .slice D m dc] (Nat.zero_le _)
  obtain ⟨q, hq⟩ : ∃ q, q = w.heap.size := ⟨_, rfl⟩
  obtain ⟨W, hW⟩ : ∃ W, W = w.alloc (.cells #[.int .i64 f, .int .i64 t, .int .i64 k, .slice (some ⟨g, 0, none⟩) n c, .slice D m dc] 34) := ⟨_, rfl⟩
  have HN0 := h.below ka
  have NN := hN.keep ka
  rw [← hW] at ka bg HN0 NN
  rw [← hq] at bg
  have x0 : W.cell? ⟨q, 0, none⟩ = some (.int .i64 f) := bg.cell 0
  have x1 : W.cell? ⟨q, 1, none⟩ = some (.int .i64 t) := bg.cell 1
  have x2 : W.cell? ⟨q, 2, none⟩ = some (.int .i64 k) := bg.cell 2
  have x3 : W.cell? ⟨q, 3, none⟩ = some (.slice (some ⟨g, 0, none⟩) n c) := bg.cell 3
  have r0 : W.cell? ⟨r, 0, none⟩ = some (.int .i64 (N.id : Int)) := nds_cell HN0 0
  have r1 : W.cell? ⟨r, 1, none⟩ = some (.int .i64 (N.n : Int)) := nds_cell HN0 1
  obtain ⟨nid, hid⟩ : ∃ z, z = N.id := ⟨_, rfl⟩
  obtain ⟨nn, hnn⟩ : ∃ z, z = N.n := ⟨_, rfl⟩
  rw [← hid] at r0 ht hf1
  rw [← hnn] at r1 hf3
  subst ht
  have hfz : ((f : Int) == (nid : Int)) = false := by simp; exact hf1
  have hf4 : decide (f < 0) = false := by simp; omega
  have hf5 : decide ((nn : Int) ≤ f) = false := by simp; omega
  have KA := hide ka
  have HZ := hide hz
  have HN2 := hide hn
  clear h hN hz hid hnn hf1 bg HN0 hf2 hf3 ka hn
  unfold msgV
  go_enter Tryz.func24, Tryz.ntmps24
  go_wp2_with fail
  rw [← hW, ← hq]
  clear hW hq
  refine heldT_top (fun W' : World => W'.cell? ⟨q, 0, none⟩ = some (.int .i64 f) ∧ W'.cell? ⟨q, 1, none⟩ = some (.int .i64 (nid : Int)) ∧ W'.cell? ⟨r, 0, none⟩ = some (.int .i64 (nid : Int)) ∧ W'.cell? ⟨r, 1, none⟩ = some (.int .i64 (nn : Int))) 30 #[false, false, false, false, false, false, false, false, false, false, false, false, false, false, false, false, false, false, false, false, false, false, false, false, false, false, false, false, false, false] (by kernel_rfl) (by kernel_rfl) (by kernel_rfl) ?_
  have hHeld : (fun W' : World => W'.cell? ⟨q, 0, none⟩ = some (.int .i64 f) ∧ W'.cell? ⟨q, 1, none⟩ = some (.int .i64 (nid : Int)) ∧ W'.cell? ⟨r, 0, none⟩ = some (.int .i64 (nid : Int)) ∧ W'.cell? ⟨r, 1, none⟩ = some (.int .i64 (nn : Int))) (W.drewN 1) := ⟨x0, x1, r0, r1⟩
  have KU := hide (KA.out.trans ((below_drewN (Below.refl W.heap.size W) 1).mono KA.out.size))
  have x2' : (W.drewN 1).cell? ⟨q, 2, none⟩ = some (.int .i64 k) := x2
  have x3' : (W.drewN 1).cell? ⟨q, 3, none⟩ = some (.slice (some ⟨g, 0, none⟩) n c) := x3
  have NU : NumsAt (W.drewN 1) g zs := NN
  clear x0 x1 x2 x3 r0 r1 KA NN
  change wpAnyH _ _ _ _ _ _ _ _ (W.drewN 1)
  generalize W.drewN 1 = U at *
  refine' wpAnyH_take (i := 0) (oi := ⟨_, _, _, _, _, _⟩) (v := _) rfl (by kernel_rfl) (by kernel_rfl) (by kernel_rfl) (fun _ _ _ h => h) (Or.inl ⟨rfl, ?_⟩) hHeld ?_
  rotate_left
  · (intro W' hW; (try dsimp only at hW); obtain ⟨z0, z1, z2, z3⟩ := hW; go_simp; (try with_reducible rfl))
  try simp only [Act.put, List.setIfInBounds_toArray, List.set_cons_zero, List.set_cons_succ]
  refine' wpAnyH_take (i := 1) (oi := ⟨_, _, _, _, _, _⟩) (v := _) rfl (by kernel_rfl) (by kernel_rfl) (by kernel_rfl) (fun _ _ _ h => h) (Or.inl ⟨rfl, ?_⟩) hHeld ?_
  rotate_left
  · (intro W' hW; (try dsimp only at hW); obtain ⟨z0, z1, z2, z3⟩ := hW; go_simp; (try with_reducible rfl))
  try simp only [Act.put, List.setIfInBounds_toArray, List.set_cons_zero, List.set_cons_succ]
  refine' wpAnyH_take (i := 2) (oi := ⟨_, _, _, _, _, _⟩) (v := _) rfl (by kernel_rfl) (by kernel_rfl) (by kernel_rfl) (fun _ _ _ h => h) (Or.inl ⟨rfl, ?_⟩) hHeld ?_
  rotate_left
  · (intro W' hW; (try dsimp only at hW); obtain ⟨z0, z1, z2, z3⟩ := hW; go_simp; (try with_reducible rfl))
  try simp only [Act.put, List.setIfInBounds_toArray, List.set_cons_zero, List.set_cons_succ]
  refine' wpAnyH_take (i := 3) (oi := ⟨_, _, _, _, _, _⟩) (v := _) rfl (by kernel_rfl) (by kernel_rfl) (by kernel_rfl) (fun _ _ _ h => h) (Or.inl ⟨rfl, ?_⟩) hHeld ?_
  rotate_left
  · (intro W' hW; (try dsimp only at hW); obtain ⟨z0, z1, z2, z3⟩ := hW; go_simp; (try with_reducible rfl))
  try simp only [Act.put, List.setIfInBounds_toArray, List.set_cons_zero, List.set_cons_succ]
  refine' wpAnyH_take (i := 4) (oi := ⟨_, _, _, _, _, _⟩) (v := _) rfl (by kernel_rfl) (by kernel_rfl) (by kernel_rfl) (fun _ _ _ h => h) (Or.inl ⟨rfl, ?_⟩) hHeld ?_
  rotate_left
  · (intro W' hW; (try dsimp only at hW); obtain ⟨z0, z1, z2, z3⟩ := hW; go_simp; (try with_reducible rfl))
  try simp only [Act.put, List.setIfInBounds_toArray, List.set_cons_zero, List.set_cons_succ]
  refine' wpAnyH_take (i := 5) (oi := ⟨_, _, _, _, _, _⟩) (v := _) rfl (by kernel_rfl) (by kernel_rfl) (by kernel_rfl) (fun _ _ _ h => h) (Or.inl ⟨rfl, ?_⟩) hHeld ?_
  rotate_left
  · (intro W' hW; (try dsimp only at hW); obtain ⟨z0, z1, z2, z3⟩ := hW; go_simp; (try with_reducible rfl))
  try simp only [Act.put, List.setIfInBounds_toArray, List.set_cons_zero, List.set_cons_succ]
  refine' wpAnyH_take (i := 6) (oi := ⟨_, _, _, _, _, _⟩) (v := _) rfl (by kernel_rfl) (by kernel_rfl) (by kernel_rfl) (fun _ _ _ h => h) (Or.inl ⟨rfl, ?_⟩) hHeld ?_
  rotate_left
  · (intro W' hW; (try dsimp only at hW); obtain ⟨z0, z1, z2, z3⟩ := hW; go_simp; (try with_reducible rfl))
  try simp only [Act.put, List.setIfInBounds_toArray, List.set_cons_zero, List.set_cons_succ]
  refine' wpAnyH_take (i := 7) (oi := ⟨_, _, _, _, _, _⟩) (v := _) rfl (by kernel_rfl) (by kernel_rfl) (by kernel_rfl) (fun _ _ _ h => h) (Or.inl ⟨rfl, ?_⟩) hHeld ?_
  rotate_left
  · (intro W' hW; (try dsimp only at hW); obtain ⟨z0, z1, z2, z3⟩ := hW; go_simp; (try with_reducible rfl))
  try simp only [Act.put, List.setIfInBounds_toArray, List.set_cons_zero, List.set_cons_succ]
  refine' wpAnyH_take (i := 8) (oi := ⟨_, _, _, _, _, _⟩) (v := _) rfl (by kernel_rfl) (by kernel_rfl) (by kernel_rfl) (fun _ _ _ h => h) (Or.inl ⟨rfl, ?_⟩) hHeld ?_
  rotate_left
  · (intro W' hW; (try dsimp only at hW); obtain ⟨z0, z1, z2, z3⟩ := hW; go_simp; (try with_reducible rfl))
  try simp only [Act.put, List.setIfInBounds_toArray, List.set_cons_zero, List.set_cons_succ]
  refine' wpAnyH_take (i := 9) (oi := ⟨_, _, _, _, _, _⟩) (v := _) rfl (by kernel_rfl) (by kernel_rfl) (by kernel_rfl) (fun _ _ _ h => h) (Or.inl ⟨rfl, ?_⟩) hHeld ?_
  rotate_left
  · (intro W' hW; (try dsimp only at hW); obtain ⟨z0, z1, z2, z3⟩ := hW; go_simp; (try with_reducible rfl))
  try simp only [Act.put, List.setIfInBounds_toArray, List.set_cons_zero, List.set_cons_succ]
  refine' wpAnyH_take (i := 10) (oi := ⟨_, _, _, _, _, _⟩) (v := _) rfl (by kernel_rfl) (by kernel_rfl) (by kernel_rfl) (fun _ _ _ h => h) (Or.inl ⟨rfl, ?_⟩) hHeld ?_
  rotate_left
  · (intro W' hW; (try dsimp only at hW); obtain ⟨z0, z1, z2, z3⟩ := hW; go_simp; (try with_reducible rfl))
  try simp only [Act.put, List.setIfInBounds_toArray, List.set_cons_zero, List.set_cons_succ]
  refine' wpAnyH_take (i := 11) (oi := ⟨_, _, _, _, _, _⟩) (v := _) rfl (by kernel_rfl) (by kernel_rfl) (by kernel_rfl) (fun _ _ _ h => h) (Or.inl ⟨rfl, ?_⟩) hHeld ?_
  rotate_left
  · (intro W' hW; (try dsimp only at hW); obtain ⟨z0, z1, z2, z3⟩ := hW; go_simp; (try with_reducible rfl))
  try simp only [Act.put, List.setIfInBounds_toArray, List.set_cons_zero, List.set_cons_succ]
  refine' wpAnyH_take (i := 12) (oi := ⟨_, _, _, _, _, _⟩) (v := _) rfl (by kernel_rfl) (by kernel_rfl) (by kernel_rfl) (fun _ _ _ h => h) (Or.inl ⟨rfl, ?_⟩) hHeld ?_
  rotate_left
  · (intro W' hW; (try dsimp only at hW); obtain ⟨z0, z1, z2, z3⟩ := hW; go_simp; (try with_reducible rfl))
  try simp only [Act.put, List.setIfInBounds_toArray, List.set_cons_zero, List.set_cons_succ]
  refine' wpAnyH_take (i := 13) (oi := ⟨_, _, _, _, _, _⟩) (v := _) rfl (by kernel_rfl) (by kernel_rfl) (by kernel_rfl) (fun _ _ _ h => h) (Or.inl ⟨rfl, ?_⟩) hHeld ?_
  rotate_left
  · (intro W' hW; (try dsimp only at hW); obtain ⟨z0, z1, z2, z3⟩ := hW; go_simp; (try with_reducible rfl))
  try simp only [Act.put, List.setIfInBounds_toArray, List.set_cons_zero, List.set_cons_succ]
  refine' wpAnyH_take (i := 14) (oi := ⟨_, _, _, _, _, _⟩) (v := _) rfl (by kernel_rfl) (by kernel_rfl) (by kernel_rfl) (fun _ _ _ h => h) (Or.inl ⟨rfl, ?_⟩) hHeld ?_
  rotate_left
  · (intro W' hW; (try dsimp only at hW); obtain ⟨z0, z1, z2, z3⟩ := hW; go_simp; (try with_reducible rfl))
  try simp only [Act.put, List.setIfInBounds_toArray, List.set_cons_zero, List.set_cons_succ]
  refine' wpAnyH_take (i := 15) (oi := ⟨_, _, _, _, _, _⟩) (v := _) rfl (by kernel_rfl) (by kernel_rfl) (by kernel_rfl) (fun _ _ _ h => h) (Or.inl ⟨rfl, ?_⟩) hHeld ?_
  rotate_left
  · (intro W' hW; (try dsimp only at hW); obtain ⟨z0, z1, z2, z3⟩ := hW; go_simp; (try with_reducible rfl))
  try simp only [Act.put, List.setIfInBounds_toArray, List.set_cons_zero, List.set_cons_succ]
  refine' wpAnyH_take (i := 16) (oi := ⟨_, _, _, _, _, _⟩) (v := _) rfl (by kernel_rfl) (by kernel_rfl) (by kernel_rfl) (fun _ _ _ h => h) (Or.inl ⟨rfl, ?_⟩) hHeld ?_
  rotate_left
  · (intro W' hW; (try dsimp only at hW); obtain ⟨z0, z1, z2, z3⟩ := hW; go_simp; (try with_reducible rfl))
  try simp only [Act.put, List.setIfInBounds_toArray, List.set_cons_zero, List.set_cons_succ]
  refine' wpAnyH_take (i := 17) (oi := ⟨_, _, _, _, _, _⟩) (v := _) rfl (by kernel_rfl) (by kernel_rfl) (by kernel_rfl) (fun _ _ _ h => h) (Or.inl ⟨rfl, ?_⟩) hHeld ?_
  rotate_left
  · (intro W' hW; (try dsimp only at hW); obtain ⟨z0, z1, z2, z3⟩ := hW; go_simp; (try with_reducible rfl))
  try simp only [Act.put, List.setIfInBounds_toArray, List.set_cons_zero, List.set_cons_succ]
  refine' wpAnyH_take (i := 18) (oi := ⟨_, _, _, _, _, _⟩) (v := _) rfl (by kernel_rfl) (by kernel_rfl) (by kernel_rfl) (fun _ _ _ h => h) (Or.inl ⟨rfl, ?_⟩) hHeld ?_
  rotate_left
  · (intro W' hW; (try dsimp only at hW); obtain ⟨z0, z1, z2, z3⟩ := hW; go_simp; (try with_reducible rfl))
  try simp only [Act.put, List.setIfInBounds_toArray, List.set_cons_zero, List.set_cons_succ]
  refine' wpAnyH_take (i := 19) (oi := ⟨_, _, _, _, _, _⟩) (v := _) rfl (by kernel_rfl) (by kernel_rfl) (by kernel_rfl) (fun _ _ _ h => h) (Or.inl ⟨rfl, ?_⟩) hHeld ?_
  rotate_left
  · (intro W' hW; (try dsimp only at hW); obtain ⟨z0, z1, z2, z3⟩ := hW; go_simp; (try with_reducible rfl))
  try simp only [Act.put, List.setIfInBounds_toArray, List.set_cons_zero, List.set_cons_succ]
  refine' wpAnyH_take (i := 20) (oi := ⟨_, _, _, _, _, _⟩) (v := _) rfl (by kernel_rfl) (by kernel_rfl) (by kernel_rfl) (fun _ _ _ h => h) (Or.inl ⟨rfl, ?_⟩) hHeld ?_
  rotate_left
  · (intro W' hW; (try dsimp only at hW); obtain ⟨z0, z1, z2, z3⟩ := hW; go_simp; (try with_reducible rfl))
  try simp only [Act.put, List.setIfInBounds_toArray, List.set_cons_zero, List.set_cons_succ]
  refine' wpAnyH_take (i := 21) (oi := ⟨_, _, _, _, _, _⟩) (v := _) rfl (by kernel_rfl) (by kernel_rfl) (by kernel_rfl) (fun _ _ _ h => h) (Or.inl ⟨rfl, ?_⟩) hHeld ?_
  rotate_left
  · (intro W' hW; (try dsimp only at hW); obtain ⟨z0, z1, z2, z3⟩ := hW; go_simp; (try with_reducible rfl))
  try simp only [Act.put, List.setIfInBounds_toArray, List.set_cons_zero, List.set_cons_succ]
  refine' wpAnyH_take (i := 22) (oi := ⟨_, _, _, _, _, _⟩) (v := _) rfl (by kernel_rfl) (by kernel_rfl) (by kernel_rfl) (fun _ _ _ h => h) (Or.inl ⟨rfl, ?_⟩) hHeld ?_
  rotate_left
  · (intro W' hW; (try dsimp only at hW); obtain ⟨z0, z1, z2, z3⟩ := hW; go_simp; (try with_reducible rfl))
  try simp only [Act.put, List.setIfInBounds_toArray, List.set_cons_zero, List.set_cons_succ]
  refine' wpAnyH_take (i := 23) (oi := ⟨_, _, _, _, _, _⟩) (v := _) rfl (by kernel_rfl) (by kernel_rfl) (by kernel_rfl) (fun _ _ _ h => h) (Or.inl ⟨rfl, ?_⟩) hHeld ?_
  rotate_left
  · (intro W' hW; (try dsimp only at hW); obtain ⟨z0, z1, z2, z3⟩ := hW; go_simp; (try with_reducible rfl))
  try simp only [Act.put, List.setIfInBounds_toArray, List.set_cons_zero, List.set_cons_succ]
  refine' wpAnyH_take (i := 24) (oi := ⟨_, _, _, _, _, _⟩) (v := _) rfl (by kernel_rfl) (by kernel_rfl) (by kernel_rfl) (fun _ _ _ h => h) (Or.inl ⟨rfl, ?_⟩) hHeld ?_
  rotate_left
  · (intro W' hW; (try dsimp only at hW); obtain ⟨z0, z1, z2, z3⟩ := hW; go_simp; (try with_reducible rfl))
  try simp only [Act.put, List.setIfInBounds_toArray, List.set_cons_zero, List.set_cons_succ]
  refine' wpAnyH_take (i := 25) (oi := ⟨_, _, _, _, _, _⟩) (v := _) rfl (by kernel_rfl) (by kernel_rfl) (by kernel_rfl) (fun _ _ _ h => h) (Or.inl ⟨rfl, ?_⟩) hHeld ?_
  rotate_left
  · (intro W' hW; (try dsimp only at hW); obtain ⟨z0, z1, z2, z3⟩ := hW; go_simp; (try with_reducible rfl))
  try simp only [Act.put, List.setIfInBounds_toArray, List.set_cons_zero, List.set_cons_succ]
  refine' wpAnyH_take (i := 26) (oi := ⟨_, _, _, _, _, _⟩) (v := _) rfl (by kernel_rfl) (by kernel_rfl) (by kernel_rfl) (fun _ _ _ h => h) (Or.inl ⟨rfl, ?_⟩) hHeld ?_
  rotate_left
  · (intro W' hW; (try dsimp only at hW); obtain ⟨z0, z1, z2, z3⟩ := hW; go_simp; (try with_reducible rfl))
  try simp only [Act.put, List.setIfInBounds_toArray, List.set_cons_zero, List.set_cons_succ]
  refine' wpAnyH_take (i := 27) (oi := ⟨_, _, _, _, _, _⟩) (v := _) rfl (by kernel_rfl) (by kernel_rfl) (by kernel_rfl) (fun _ _ _ h => h) (Or.inl ⟨rfl, ?_⟩) hHeld ?_
  rotate_left
  · (intro W' hW; (try dsimp only at hW); obtain ⟨z0, z1, z2, z3⟩ := hW; go_simp; (try with_reducible rfl))
  try simp only [Act.put, List.setIfInBounds_toArray, List.set_cons_zero, List.set_cons_succ]
  refine' wpAnyH_take (i := 28) (oi := ⟨_, _, _, _, _, _⟩) (v := _) rfl (by kernel_rfl) (by kernel_rfl) (by kernel_rfl) (fun _ _ _ h => h) (Or.inl ⟨rfl, ?_⟩) hHeld ?_
  rotate_left
  · (intro W' hW; (try dsimp only at hW); obtain ⟨z0, z1, z2, z3⟩ := hW; go_simp; (try with_reducible rfl))
  try simp only [Act.put, List.setIfInBounds_toArray, List.set_cons_zero, List.set_cons_succ]
  refine' wpAnyH_take (i := 29) (oi := ⟨_, _, _, _, _, _⟩) (v := _) rfl (by kernel_rfl) (by kernel_rfl) (by kernel_rfl) (fun _ _ _ h => h) (Or.inl ⟨rfl, ?_⟩) hHeld ?_
  rotate_left
  · (intro W' hW; (try dsimp only at hW); obtain ⟨z0, z1, z2, z3⟩ := hW; go_simp; (try with_reducible rfl))
  try simp only [Act.put, List.setIfInBounds_toArray, List.set_cons_zero, List.set_cons_succ]
  refine wpAnyH_done (by kernel_rfl) ?_ _
  clear hHeld
  have AR := hide (fun hn9 => are_ok g c zs U n HN2.out hc NU HZ.out hn9)
  have HNU := hide NU
  clear NU HZ
  rcases hk with ⟨rfl, hl⟩ | ⟨rfl, hl, h1⟩ | ⟨rfl, hl⟩ | ⟨rfl, hl, h1⟩
  · obtain rfl : n = 3 := by have := HN2.out; omega
    have ARE := hide (AR.out (by decide))
    clear hl AR HN2
    go_wp2_with fail
    refine Calls.mono (show Calls Tryz.prog 49 #[.slice (some ⟨g, 0, none⟩) 3 c, .int .i64 3] U _ from ARE.out) ?_
    rintro e w1 ⟨rfl, rfl⟩
    go_wp2_with fail
    go_ret
    exact ⟨rfl, KU.out⟩
  · obtain rfl : n = 2 := by have := HN2.out; omega
    have ARE := hide (AR.out (by decide))
    have c1 := HNU.out 1 (by omega)
    rw [show zs[1]'(by omega) = zs.getD 1 0 by simp [hl]] at c1
    obtain ⟨z1, hz1⟩ : ∃ z, z = zs.getD 1 0 := ⟨_, rfl⟩
    rw [← hz1] at c1 h1
    clear hl AR HN2 hz1
    go_wp2_with fail
    refine Calls.mono (show Calls Tryz.prog 49 #[.slice (some ⟨g, 0, none⟩) 2 c, .int .i64 2] U _ from ARE.out) ?_
    rintro e w1 ⟨rfl, rfl⟩
    go_wp2_with fail
    go_ret
    exact ⟨rfl, KU.out⟩
  · obtain rfl : n = 4 := by have := HN2.out; omega
    have ARE := hide (AR.out (by decide))
    clear hl AR HN2
    go_wp2_with fail
    refine Calls.mono (show Calls Tryz.prog 49 #[.slice (some ⟨g, 0, none⟩) 4 c, .int .i64 4] U _ from ARE.out) ?_
    rintro e w1 ⟨rfl, rfl⟩
    go_wp2_with fail
    go_ret
    exact ⟨rfl, KU.out⟩
  · obtain rfl : n = 3 := by have := HN2.out; omega
    have ARE := hide (AR.out (by decide))
    have c1 := HNU.out 1 (by omega)
    rw [show zs[1]'(by omega) = zs.getD 1 0 by simp [hl]] at c1
    obtain ⟨z1, hz1⟩ : ∃ z, z = zs.getD 1 0 := ⟨_, rfl⟩
    rw [← hz1] at c1 h1
    clear hl AR HN2 hz1
    go_wp2_with fail
    refine Calls.mono (show Calls Tryz.prog 49 #[.slice (some ⟨g, 0, none⟩) 3 c, .int .i64 3] U _ from ARE.out) ?_
    rintro e w1 ⟨rfl, rfl⟩
    go_wp2_with fail
    go_ret
    exact ⟨rfl, KU.out⟩
end Go.Proofs.YtejhoefmcldpnaaGreat
namespace Go.Proofs.YtejhoefmcldpnaaGreat
open Go.RowKit Go.Maps
set_option maxRecDepth 100000 in
theorem goes_no (g : Nat) (A : Option Addr) (c : Nat) (w : World) (hB : RdrB w g A 0 c 0) :
    Calls Tryz.prog 50 #[.pointer (some ⟨g, 0, none⟩)] w fun e w' => e = .returned (.bool false) ∧ w = w' := by
  have q0 : w.cell? ⟨g, 0, none⟩ = some (.slice A 0 c) := hB.cell 0
  have q1 : w.cell? ⟨g, 1, none⟩ = some (.int .i64 0) := hB.cell 1
  clear hB
  go_enter Tryz.func50, Tryz.ntmps50
  go_wp2_with fail
  go_ret
  exact ⟨rfl, rfl⟩
set_option maxRecDepth 100000 in
set_option maxHeartbeats 1600000 in
/-- A message without bytes has no entry. -/
theorem entries_none (f t k : Int) (g n c : Nat) (D : Option Addr) (dc : Nat) (w : World) :
    Calls Tryz.prog 25 #[msgV f t k g n c D 0 dc] w fun e w' => e = .returned (.tuple #[.slice none 0 0, .int .i64 0]) ∧ Below w.heap.size w w' := by
  have ka := below_alloc w (.cells #[.int .i64 f, .int .i64 t, .int .i64 k, .slice (some ⟨g, 0, none⟩) n c, .slice D 0 dc] 34)
  have bg := Blk.new w (B := 0) 34 #[.int .i64 f, .int .i64 t, .int .i64 k, .slice (some ⟨g, 0, none⟩) n c, .slice D 0 dc] (Nat.zero_le _)
  obtain ⟨q, hq⟩ : ∃ q, q = w.heap.size := ⟨_, rfl⟩
  obtain ⟨W, hW⟩ : ∃ W, W = w.alloc (.cells #[.int .i64 f, .int .i64 t, .int .i64 k, .slice (some ⟨g, 0, none⟩) n c, .slice D 0 dc] 34) := ⟨_, rfl⟩
  have x4l : (w.alloc (.cells #[.int .i64 f, .int .i64 t, .int .i64 k, .slice (some ⟨g, 0, none⟩) n c, .slice D 0 dc] 34)).cell? ⟨w.heap.size, 4, none⟩ = some (.slice D 0 dc) := bg.cell 4
  rw [← hW] at ka bg
  rw [← hq] at bg
  have hqp : q + 1 = W.heap.size := by rw [hW, hq]; simp
  have kb := below_alloc W (.cells #[.slice D 0 dc, .int .i64 0] 91)
  have br := Blk.new W (B := 0) 91 #[.slice D 0 dc, .int .i64 0] (Nat.zero_le _)
  have b2 := bg.keep kb
  obtain ⟨p, hp⟩ : ∃ p, p = W.heap.size := ⟨_, rfl⟩
  obtain ⟨V, hV⟩ : ∃ V, V = W.alloc (.cells #[.slice D 0 dc, .int .i64 0] 91) := ⟨_, rfl⟩
  rw [← hV] at kb br b2
  rw [← hp] at br
  have y2 : V.cell? ⟨q, 2, none⟩ = some (.int .i64 k) := b2.cell 2
  have GN := hide (goes_no p D dc V br)
  have RE := hide (rend_ok p D dc V br)
  have KV := hide (ka.trans (kb.mono ka.size))
  clear ka bg kb br b2
  unfold msgV
  go_enter Tryz.func25, Tryz.ntmps25
  go_wp2_with fail
  rw [← hW, ← hV, ← hq, hqp, ← hp]
  clear hW hq hV hp hqp x4l
  go_loopw [5] (fun l wr => l = .slice none 0 0 ∧ wr = V) (fun _ _ => 1)
  case atStart => exact ⟨rfl, rfl⟩
  case round =>
    obtain ⟨rfl, rfl⟩ := hrel
    by_cases hk : k = 3
    · have hk3 : ((k : Int) == 3) = true := by simp; exact hk
      clear hk
      go_wp2_with fail
      refine GN.out.mono ?_
      rintro e w1 ⟨rfl, rfl⟩
      go_wp2_with fail
      refine RE.out.mono ?_
      rintro e w2 ⟨rfl, k2⟩
      have K2 := hide (KV.out.trans (k2.mono KV.out.size))
      clear k2
      go_wp2_with fail
      go_ret2
      exact ⟨rfl, K2.out⟩
    · have hk3 : ((k : Int) == 3) = false := by simp; exact hk
      clear hk
      go_wp2_with fail
      refine RE.out.mono ?_
      rintro e w2 ⟨rfl, k2⟩
      have K2 := hide (KV.out.trans (k2.mono KV.out.size))
      clear k2
      go_wp2_with fail
      go_ret2
      exact ⟨rfl, K2.out⟩
set_option maxRecDepth 100000 in
theorem follow_ok {w : World} {S : Nat → Prop} {r d l room : Nat} {N : Nd} {M : LogL} {L : DiskL} (h : NdS w S r d l room N M L) (t : Nat) (ht : t < 9223372036854775808) (hd : (draftL room termK (numsL [t, 0]) L).2 = 0) :
    Calls Tryz.prog 26 #[.pointer (some ⟨r, 0, none⟩), .int .i64 (t : Int)] w fun e w' => e = .returned (.bool true) ∧ ∃ S', NdS w' S' r d l room { N with term := t, vote := -1, role := 0, lead := -1 } M (termP (numsL [t, 0]) L) ∧ Next S w S' w' := by
  have SV := hide (rsave_ok h t 0 (-1) rfl ht (by decide) hd)
  clear h
  go_enter Tryz.func26, Tryz.ntmps26
  go_wp2_with fail
  refine SV.out.mono ?_
  rintro e w1 ⟨rfl, S1, d1, n1⟩
  have x6 : w1.cell? ⟨r, 6, none⟩ = some (.int .i64 (N.role : Int)) := nds_cell d1 6
  have x7 : w1.cell? ⟨r, 7, none⟩ = some (.int .i64 N.lead) := nds_cell d1 7
  have f6 := d1.blk.frozen 6
  have f7 := d1.blk.frozen 7
  have S2 := d1.set (N' := { N with term := t, vote := -1, role := 0 }) 6 (.int .i64 0) rfl d1.fit
  have S3 := hide (S2.set (N' := { N with term := t, vote := -1, role := 0, lead := -1 }) 7 (.int .i64 (-1)) rfl d1.fit)
  have N3 := hide (n1.trans ((set_next (u := .int .i64 0) (i := 6) d1.self).trans (set_next (u := .int .i64 (-1)) (i := 7) S2.self)))
  clear d1 n1 S2 SV
  go_wp2_with fail
  go_ret
  exact ⟨rfl, S1, S3.out, N3.out⟩
set_option maxRecDepth 100000 in
theorem has_start {w : World} {S : Nat → Prop} {r d l room : Nat} {N : Nd} {M : LogL} {L : DiskL} (h : NdS w S r d l room N M L) (h1 : 1 ≤ M.next) (h2 : M.next ≤ 1099511627776) (ht : TermE M 0 0) :
    Calls Tryz.prog 57 #[.pointer (some ⟨r, 0, none⟩), .int .i64 0, .int .i64 0] w fun e w' => e = .returned (.bool true) ∧ Below w.heap.size w w' := by
  have HL := hide (last_any h h1 h2)
  have H := hide h
  have HT := hide ht
  obtain ⟨la, hla⟩ : ∃ k, k = M.next - 1 := ⟨_, rfl⟩
  rw [← hla] at HL
  have hl0 : (0 : Int) ≤ (la : Int) := by omega
  clear h ht h1 h2 hla
  go_enter Tryz.func57, Tryz.ntmps57
  go_wp2_with fail
  refine HL.out.mono ?_
  rintro e w1 ⟨rfl, k1⟩
  have K1 := hide k1
  have TE := hide (termOf_any (H.out.below k1) 0 0 HT.out)
  clear k1 HL
  go_wp2_with fail
  refine TE.out.mono ?_
  rintro e w2 ⟨rfl, k2⟩
  have K2 := hide (K1.out.trans (k2.mono K1.out.size))
  clear k2 TE
  go_wp2_with fail
  go_ret
  exact ⟨rfl, K2.out⟩
theorem join_none (r : Nat) (z : Int) (w : World) :
    Calls Tryz.prog 58 #[.pointer (some ⟨r, 0, none⟩), .int .i64 z, .slice none 0 0] w fun e w' => e = .returned (.bool true) ∧ w = w' := by
  go_enter Tryz.func58, Tryz.ntmps58
  go_wp2_with fail
  go_loopw [1, 2] (fun a l wr => a = .int .i64 z ∧ l = .slice none 0 0 ∧ wr = w) (fun _ _ _ => 1)
  case atStart => exact ⟨rfl, rfl, rfl⟩
  case round =>
    obtain ⟨rfl, rfl, rfl⟩ := hrel
    go_wp2_with fail
    go_ret
    exact ⟨rfl, rfl⟩
/-- One answer: a row of one message. -/
def OneA (w : World) (v : Value) (id f k : Int) (g n c : Nat) : Prop := ∃ b, v = .slice (some ⟨b, 0, none⟩) 1 1 ∧ w.cell? ⟨b, 0, none⟩ = some (.int .i64 id) ∧ w.cell? ⟨b, 1, none⟩ = some (.int .i64 f) ∧ w.cell? ⟨b, 2, none⟩ = some (.int .i64 k) ∧ w.cell? ⟨b, 3, none⟩ = some (.slice (some ⟨g, 0, none⟩) n c) ∧ w.cell? ⟨b, 4, none⟩ = some (.slice none 0 0)
set_option maxRecDepth 100000 in
theorem answer_any {w : World} {S : Nat → Prop} {r d l room : Nat} {N : Nd} {M : LogL} {L : DiskL} (h : NdS w S r d l room N M L) (f t k k2 : Int) (g n c : Nat) (D : Option Addr) (m dc : Nat) (ga na ca : Nat) :
    Calls Tryz.prog 54 #[.pointer (some ⟨r, 0, none⟩), msgV f t k g n c D m dc, .int .i64 k2, .slice (some ⟨ga, 0, none⟩) na ca] w fun e w' => ∃ v, e = .returned v ∧ OneA w' v (N.id : Int) f k2 ga na ca ∧ Below w.heap.size w w' := by
  have ka := below_alloc w (.cells #[.int .i64 f, .int .i64 t, .int .i64 k, .slice (some ⟨g, 0, none⟩) n c, .slice D m dc] 34)
  have bg := Blk.new w (B := 0) 34 #[.int .i64 f, .int .i64 t, .int .i64 k, .slice (some ⟨g, 0, none⟩) n c, .slice D m dc] (Nat.zero_le _)
  have x0 : (w.alloc (.cells #[.int .i64 f, .int .i64 t, .int .i64 k, .slice (some ⟨g, 0, none⟩) n c, .slice D m dc] 34)).cell? ⟨w.heap.size, 0, none⟩ = some (.int .i64 f) := bg.cell 0
  have MA := hide (message_any (h.below ka) f k2 (some ⟨ga, 0, none⟩) na ca)
  have KA := hide ka
  obtain ⟨nid, hid⟩ : ∃ z, z = N.id := ⟨_, rfl⟩
  rw [← hid] at MA ⊢
  clear h bg ka hid
  unfold msgV
  go_enter Tryz.func54, Tryz.ntmps54
  go_wp2_with fail
  refine MA.out.mono ?_
  rintro e w1 ⟨rfl, k1⟩
  have K1 := hide (KA.out.trans (k1.mono KA.out.size))
  clear k1 MA x0
  go_wp2_with fail
  go_ret
  have b1 := Blk.new w1 (B := 0) 34 #[.int .i64 (nid : Int), .int .i64 f, .int .i64 k2, .slice (some ⟨ga, 0, none⟩) na ca, .slice none 0 0] (Nat.zero_le _)
  exact ⟨_, rfl, ⟨w1.heap.size, rfl, b1.cell 0, b1.cell 1, b1.cell 2, b1.cell 3, b1.cell 4⟩, K1.out.trans ((below_alloc w1 _).mono K1.out.size)⟩
end Go.Proofs.YtejhoefmcldpnaaGreat
