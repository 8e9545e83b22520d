/- The contract of the document's ReadIndex: the places whose index the bytes are, or an error. Condition: at most 1000000000 bytes. -/
import Derived.Test.YtdbngchbhoanpaaSr22
import Derived.Test.YtdbngchbhoanpaaSr14
import Derived.Test.YtdbngchbhoanpaaSr12
import Derived.Test.YtdbngchbhoanpaaSr6
import Derived.Deep.AppendLies
namespace Go.Proofs.Ytdbngchbhoanpaa
open Go.RowKit Go.Maps
attribute [local go_sem] Oper.semAt_some
/-- Bytes that are read, in a block that lies below. -/
structure FrS (w : World) (base : Nat) (A : Option Addr) (n c : Nat) (r : List Nat) : Prop where
  isB : IsB w (.slice A n c) r
  len : r.length = n
  low : A = none ∨ ∃ b o, A = some ⟨b, o, none⟩ ∧ b < base
theorem FrS.turn {S : Nat → Prop} {w w' : World} {base : Nat} {A : Option Addr} {n c : Nat} {r : List Nat} (h : FrS w base A n c r) (t : Turn S w w') (hS : ∀ j, S j → base ≤ j) : FrS w' base A n c r := by
  refine ⟨?_, h.len, h.low⟩
  obtain ⟨A', c', q, rd, z⟩ := h.isB
  refine ⟨A', c', q, fun hne => ?_, z⟩
  obtain ⟨b, off, e1, hc⟩ := rd hne
  refine ⟨b, off, e1, fun j hj => t.cell (hc j hj) (fun hs => ?_)⟩
  cases q
  rcases h.low with h4 | ⟨b2, o2, e2, hb⟩
  · rw [h4] at e1; cases e1
  · rw [e2] at e1
    cases e1
    have : base ≤ b := hS b hs
    omega
theorem FrS.keep {w w' : World} {base : Nat} {A : Option Addr} {n c : Nat} {r : List Nat} (h : FrS w base A n c r) (k : Below w.heap.size w w') : FrS w' base A n c r := h.turn (Turn.of_below (fun _ => False) k) (fun _ e => e.elim)
theorem FrS.some {w : World} {base : Nat} {A : Option Addr} {n c : Nat} {r : List Nat} (h : FrS w base A n c r) (hn : 0 < n) : ∃ b o, A = some ⟨b, o, none⟩ := by
  have hne : r ≠ [] := by
    intro e
    have := h.len
    rw [e] at this
    simp at this
    omega
  obtain ⟨b, off, e1, _⟩ := h.isB.rd hne
  exact ⟨b, off, e1⟩
theorem FrS.tail {w : World} {base b off n c k : Nat} {r : List Nat} (h : FrS w base (Option.some ⟨b, off, none⟩) n c r) (hk : k ≤ n) : FrS w base (Option.some ⟨b, if c = k then off else off + k, none⟩) (n - k) (c - k) (r.drop k) := by
  refine ⟨isB_tail h.isB k hk, by rw [List.length_drop]; have := h.len; omega, ?_⟩
  rcases h.low with h4 | ⟨b2, o2, e2, hb⟩
  · cases h4
  · cases e2
    exact .inr ⟨_, _, rfl, hb⟩
theorem FrS.cut {w : World} {base b off n c k : Nat} {r : List Nat} (h : FrS w base (Option.some ⟨b, off, none⟩) n c r) (hk : k ≤ n) :
    ∃ A2 c2, FrS w base A2 (n - k) c2 (r.drop k) ∧ ∀ W : World, (Instr.sliceAt 24 (.slice (Option.some ⟨b, off, none⟩) n c) (Option.some (.int .i64 (k : Int))) none none).run Try.prog W = .ok (.slice A2 (n - k) c2) W := by
  refine ⟨_, _, h.tail hk, fun W => ?_⟩
  have h0 : (0 : Int) ≤ (k : Int) := by omega
  have h1 : (k : Int) ≤ (n : Int) := by omega
  by_cases hc : c = k
  · subst hc
    simp [go_sem, h1]
  · simp [go_sem, h1, hc]
theorem ownPs_set {w : World} {base : Nat} {v : Value} {l : List Plc} {ga : Nat} {cs : List Value} (h : OwnPs w base v l) (hb : Blk w 0 62 ga cs) (k : Nat) (u : Value) : OwnPs (w.setCell ⟨ga, k, none⟩ u) base v l := by
  have ts : Turn (fun q => q = ga) w (w.setCell ⟨ga, k, none⟩ u) := (Turn.of_grown (grown_set w ga k u)).mono (fun q e => by simpa using e)
  obtain ⟨h1, h2 | ⟨g, cap, cur, rfl, h3, h4, h5⟩⟩ := h
  · exact ⟨h1, .inl h2⟩
  · refine ⟨h1, .inr ⟨g, cap, cur, rfl, h3, ts.at_ h4 (fun e => ?_), h5⟩⟩
    obtain ⟨_, cur2, e2, _⟩ := hb
    rw [← e, h4] at e2
    simp only [Option.some.injEq, Obj.cells.injEq] at e2
    exact absurd e2.2.1 (by decide)
theorem row_neA {w : World} {base : Nat} {v : Value} {l : List Plc} {ga : Nat} {cs : List Value} (h : OwnPs w base v l) (hb : Blk w 0 62 ga cs) (q : Nat) (hq : v.ownBlock = Option.some q) : q ≠ ga := by
  obtain ⟨_, h2 | ⟨g, cap, cur, rfl, h3, h4, h5⟩⟩ := h
  · rw [h2.1] at hq; cases hq
  · cases hq
    intro e
    obtain ⟨_, cur2, e2, _⟩ := hb
    rw [← e, h4] at e2
    simp only [Option.some.injEq, Obj.cells.injEq] at e2
    exact absurd e2.2.1 (by decide)
theorem arr3_at {w : World} {ga j : Nat} {a b c : Nat} (h : Blk w 0 62 ga [.int .u64 (a : Int), .int .u64 (b : Int), .int .u64 (c : Int)]) (hj : j < 3) : ∃ y : Nat, w.cell? ⟨ga, j, none⟩ = Option.some (.int .u64 (y : Int)) := by
  match j, hj with
  | 0, _ => exact ⟨a, h.cell 0⟩
  | 1, _ => exact ⟨b, h.cell 1⟩
  | 2, _ => exact ⟨c, h.cell 2⟩
theorem arr3_set {w : World} {ga j : Nat} {vs : List Nat} (h : Blk w 0 62 ga [.int .u64 ((vs.getD 0 0 : Nat) : Int), .int .u64 ((vs.getD 1 0 : Nat) : Int), .int .u64 ((vs.getD 2 0 : Nat) : Int)]) (hl : vs.length = j) (hj : j < 3) (x : Nat) :
    Blk (w.setCell ⟨ga, j, none⟩ (.int .u64 (x : Int))) 0 62 ga [.int .u64 (((vs ++ [x]).getD 0 0 : Nat) : Int), .int .u64 (((vs ++ [x]).getD 1 0 : Nat) : Int), .int .u64 (((vs ++ [x]).getD 2 0 : Nat) : Int)] := by
  have hs := h.stored j (.int .u64 (x : Int))
  subst hl
  match vs, hj with
  | [], _ => exact hs
  | [a], _ => exact hs
  | [a, b], _ => exact hs
theorem own_fr {w : World} {B : Nat} {A : Option Addr} {c : Nat} {xs : List Nat} (h : Own w B (.slice A xs.length c) xs) : FrS w w.heap.size A xs.length c xs := by
  refine ⟨h.isB, rfl, ?_⟩
  obtain ⟨_, h2 | ⟨g, cap, cur, e, h3, h4, h5⟩⟩ := h
  · have h9 := h2.1
    simp only [Value.slice.injEq] at h9
    exact .inl h9.1
  · cases e
    exact .inr ⟨g, 0, rfl, (Array.getElem?_eq_some_iff.1 h4).1⟩
set_option maxRecDepth 100000 in
set_option maxHeartbeats 64000000 in
theorem rrdix_any (A : Option Addr) (n c : Nat) (b : List Nat) (w : World) (hA : IsB w (.slice A n c) b) (hn : b.length = n) (hb : ∀ x ∈ b, x < 256) (h9 : n ≤ 1000000000) :
    Calls Try.prog 13 #[.slice A n c] w fun e w' => ∃ v ps E, e = .returned (.tuple #[v, .int .i64 (E : Nat)]) ∧ OwnPs w' w.heap.size v ps ∧ RdIx b ps E ∧ Below w.heap.size w w' := by
  have hcap := hA.caps
  have DC := hide (rdecode_any A n c b w hA hn hb (by omega) hcap.1 hcap.2)
  obtain ⟨p, m, x, hd⟩ : ∃ p m x, decL b = (p, m, x) := ⟨_, _, _, rfl⟩
  rw [hd] at DC
  have hpb : (decL b).1.length ≤ b.length := decL_len b
  rw [hd] at hpb
  have hpl : p.length ≤ 1000000000 := by have : p.length ≤ b.length := hpb; omega
  have HD := hide hd
  have HN := hide hn
  have HB := hide hb
  have HPL := hide hpl
  clear hcap hd hpb hA hn hb hpl
  by_cases hx : x = 0
  · subst hx
    by_cases hm : m = n
    · subst hm
      have hpby : ∀ y ∈ p, y < 256 := (dec_inv HB.out HD.out).2.2.2.2
      have HD2 : Hid (decL b = (p, b.length, 0)) := by unfold Hid; rw [HD.out, HN.out]
      have HPB := hide hpby
      clear hpby
      obtain ⟨cn, k, e9, hr⟩ : ∃ cn k e9, rvl 0 0 p = (cn, k, e9) := ⟨_, _, _, rfl⟩
      have HR := hide hr
      have hcn64 : cn < 18446744073709551616 := by have := (rvl_le p 0 0 (by omega) (by decide)).1; rw [hr] at this; exact this
      have NOF : Hid ((e9 ≠ 0 ∨ 65536 < cn) → ∀ ps, ¬ IxOf b ps) := hide (fun h => first_no HD2.out (by rw [hr]; exact h))
      clear hr
      go_enter Try.func13, Try.ntmps13
      go_wp2_with fail
      refine DC.out.mono ?_
      rintro e w1 ⟨s, rfl, o1, k1⟩
      obtain ⟨As, cs, rfl, _⟩ := o1.form
      have F1 := hide (own_fr o1)
      have K1 := hide k1
      have hl63 := o1.len
      clear o1 k1 DC
      obtain ⟨ls, hls⟩ : ∃ ls, ls = p.length := ⟨_, rfl⟩
      rw [← hls] at F1 hl63 ⊢
      have HLS := hide hls
      clear hls
      dsimp only
      go_wp2_with fail
      have hcall := ruread_any As ls cs p w1 F1.out.isB.rd HLS.out HPB.out (by omega)
      rw [HR.out] at hcall
      refine hcall.mono ?_
      clear hcall
      rintro e w2 ⟨rfl, rfl⟩
      dsimp only
      by_cases he : e9 = 0
      · subst he
        by_cases hc6 : 65536 < cn
        · have hc6i : (65536 : Int) < (cn : Int) := by omega
          have HC6 := hide hc6
          clear hc6
          go_wp2_with fail
          go_ret2
          exact ⟨.slice none 0 0, [], 3, rfl, ownPs_nil _ _, .inr (.inr ⟨by rw [HD.out], NOF.out (.inr HC6.out), rfl, rfl⟩), K1.out⟩
        · have hc6i : ¬ (65536 : Int) < (cn : Int) := by omega
          have hcw : IntKind.i64.wrap (cn : Int) = (cn : Int) := by rw [IntKind.wrap_i64]; omega
          obtain ⟨hfirst, hkl, hk0⟩ := OutS.first HD2.out HB.out HR.out
          rw [← HLS.out] at hkl
          obtain ⟨g0, o0, rfl⟩ := F1.out.some (by omega)
          obtain ⟨A2, c2, f2, hsl⟩ := F1.out.cut hkl
          have F2 := hide f2
          have hsl1 := hsl w1
          clear f2 hsl
          have HFI := hide hfirst
          have hkli : (k : Int) ≤ (ls : Int) := by omega
          have hk0i : (0 : Int) ≤ (k : Int) := by omega
          have hcaps := F1.out.isB.caps
          have hkci : (k : Int) ≤ (cs : Int) := by omega
          have HSZ := hide K1.out.size
          clear hfirst F1 hcaps
          go_wp2_with fail
          obtain ⟨n2, hn2⟩ : ∃ n2, n2 = ls - k := ⟨_, rfl⟩
          rw [← hn2] at F2 ⊢
          have H9 := hide (show n2 ≤ 1000000000 by rw [hn2, HLS.out]; have := HPL.out; omega)
          have HCN := hide hc6
          clear hn2 hkl hk0 hkli hk0i hkci hsl1 hc6 hc6i HR NOF
          obtain ⟨base, hbase⟩ : ∃ base, base = w1.heap.size := ⟨_, rfl⟩
          rw [← hbase] at F2 HSZ
          have HBW := hide hbase
          clear hbase
          go_loopw [4, 9, 10] (fun pv lv iv wr => ∃ (i : Nat) (L : List Plc) (r : List Nat) (A' AL : Option Addr) (n' c' cL : Nat), i ≤ cn ∧ pv = .slice A' n' c' ∧ lv = .slice AL i cL ∧ iv = .int .i64 (i : Int) ∧ n' ≤ 1000000000 ∧ Hid (FrS wr base A' n' c' r) ∧ Hid (OwnPs wr base (.slice AL i cL) L) ∧ Hid (OutS b p cn i L r) ∧ Hid (Below w.heap.size w wr) ∧ Hid (base ≤ wr.heap.size)) (fun _ _ iv _ => cn - (intOf iv).toNat)
          case atStart => exact ⟨0, [], _, A2, none, n2, c2, 0, Nat.zero_le _, rfl, rfl, rfl, H9.out, F2.out, ownPs_nil _ _, HFI.out, K1.out, Nat.le_of_eq HBW.out⟩
          case round =>
            obtain ⟨i, L, r, A', AL, n', c', cL, hi, rfl, rfl, rfl, hn9, hF, hO, hS, hK, hZ⟩ := hrel
            by_cases hlt : i < cn
            · have hli : (i : Int) < (cn : Int) := by omega
              have IN0 := hide (hS.out.inS hlt)
              have HLT := hide hlt
              have k3 := below_alloc wr (.cells #[.int .u64 0, .int .u64 0, .int .u64 0] 62)
              have B3 : Hid (Blk (wr.alloc (.cells #[.int .u64 0, .int .u64 0, .int .u64 0] 62)) 0 62 wr.heap.size [.int .u64 0, .int .u64 0, .int .u64 0]) := hide (Blk.new wr (B := 0) 62 #[.int .u64 0, .int .u64 0, .int .u64 0] (Nat.zero_le _))
              have F3 := hide (hF.out.keep k3)
              have O3 := hide (ownPs_turn hO.out (Turn.of_below (fun _ => False) k3) (fun _ _ e => e))
              have K3 := hide (below_step hK.out k3)
              have Z3 := hide (Nat.le_trans hZ.out k3.size)
              have HGA := hide (show base ≤ wr.heap.size from hZ.out)
              clear k3 hlt hF hO hK hZ
              go_wp2_with fail
              obtain ⟨ga, hga⟩ : ∃ ga, ga = wr.heap.size := ⟨_, rfl⟩
              rw [← hga] at B3 HGA ⊢
              have HGG := hide hga
              clear hga
              have hno : Hid (∀ (V : World) , OwnPs (wr.alloc (.cells #[.int .u64 0, .int .u64 0, .int .u64 0] 62)) base (.slice AL i cL) L → True) := hide (fun _ _ => trivial)
              clear hno
              generalize wr.alloc (.cells #[.int .u64 0, .int .u64 0, .int .u64 0] 62) = W3 at *
              go_loopw [4, 12] (fun pv jv wi => ∃ (j : Nat) (vs : List Nat) (r' : List Nat) (A'' : Option Addr) (n'' c'' : Nat), j ≤ 3 ∧ pv = .slice A'' n'' c'' ∧ jv = .int .i64 (j : Int) ∧ n'' ≤ 1000000000 ∧ Hid (FrS wi base A'' n'' c'' r') ∧ Hid (Blk wi 0 62 ga [.int .u64 ((vs.getD 0 0 : Nat) : Int), .int .u64 ((vs.getD 1 0 : Nat) : Int), .int .u64 ((vs.getD 2 0 : Nat) : Int)]) ∧ Hid (InS b r i j vs r') ∧ Hid (OwnPs wi base (.slice AL i cL) L) ∧ Hid (Below w.heap.size w wi) ∧ Hid (base ≤ wi.heap.size)) (fun _ jv _ => 3 - (intOf jv).toNat)
              case atStart => exact ⟨0, [], r, A', n', c', by omega, rfl, rfl, hn9, F3.out, B3.out, IN0.out, O3.out, K3.out, Z3.out⟩
              case round =>
                obtain ⟨j, vs, r', A'', n'', c'', hj, rfl, rfl, hn8, hF, hB, hI, hO, hK, hZ⟩ := hrel
                by_cases hj3 : j < 3
                · have hji : (j : Int) < 3 := by omega
                  obtain ⟨x, k', e9, hr⟩ : ∃ x k' e9, rvl 0 0 r' = (x, k', e9) := ⟨_, _, _, rfl⟩
                  have hcall := ruread_any A'' n'' c'' r' wr hF.out.isB.rd hF.out.len.symm hI.out.byt (by omega)
                  rw [hr] at hcall
                  have HC := hide hcall
                  clear hcall
                  by_cases he : e9 = 0
                  · subst he
                    obtain ⟨hst, hkl, hk0⟩ := hI.out.step hS.out HLT.out hj3 hr
                    rw [hF.out.len] at hkl
                    obtain ⟨g1, o1, rfl⟩ := hF.out.some (by omega)
                    obtain ⟨A4, c4, f4, hsl⟩ := hF.out.cut hkl
                    have hsl1 := hsl (wr.setCell ⟨ga, j, none⟩ (.int .u64 (x : Int)))
                    have ts : Turn (fun q => q = ga) wr (wr.setCell ⟨ga, j, none⟩ (.int .u64 (x : Int))) := (Turn.of_grown (grown_set wr ga j _)).mono (fun q e => by simpa using e)
                    have F4 := hide (f4.turn ts (fun q e => by subst e; exact HGA.out))
                    have B4 := hide (arr3_set hB.out hI.out.len hj3 x)
                    have O4 := hide (ownPs_set hO.out hB.out j (.int .u64 (x : Int)))
                    have K4 := hide (hK.out.setCell (p := ⟨ga, j, none⟩) (by have := HGA.out; have := HSZ.out; show w.heap.size ≤ ga; omega) (.int .u64 (x : Int)))
                    have Z4 := hide (Nat.le_trans hZ.out ts.size)
                    have IS := hide hst
                    obtain ⟨y, hy⟩ := arr3_at hB.out hj3
                    have hfz := hB.out.frozen j
                    have hj0 : (0 : Int) ≤ (j : Int) := by omega
                    obtain ⟨n4, hn4⟩ : ∃ n4, n4 = n'' - k' := ⟨_, rfl⟩
                    rw [← hn4] at hsl1 F4
                    have hn49 : n4 ≤ 1000000000 := by omega
                    clear f4 hsl ts hst hkl hk0 hn4 hr
                    go_wp2_with fail
                    refine HC.out.mono ?_
                    rintro e w5 ⟨rfl, rfl⟩
                    dsimp only
                    go_wp2_with fail
                    go_roundw
                    case rel => exact ⟨j + 1, vs ++ [x], r'.drop k', A4, n4, c4, by omega, rfl, by go_num, hn49, F4, B4, IS, O4, K4, Z4⟩
                    case measure => simp [intOf]; omega
                  · have hez : ((e9 : Int) != 0) = true := by simp; omega
                    have HNX := hide (hI.out.no hS.out HLT.out hj3 (by rw [hr]; exact he))
                    clear he hr
                    go_wp2_with fail
                    refine HC.out.mono ?_
                    rintro e w5 ⟨rfl, rfl⟩
                    dsimp only
                    go_wp2_with fail
                    go_ret2
                    exact ⟨.slice none 0 0, [], 3, rfl, ownPs_nil _ _, .inr (.inr ⟨by rw [HD.out], HNX.out, rfl, rfl⟩), hK.out⟩
                · obtain rfl : j = 3 := by omega
                  have hv := hI.out.len
                  obtain ⟨v0, hv0⟩ : ∃ v, v = vs.getD 0 0 := ⟨_, rfl⟩
                  obtain ⟨v1, hv1⟩ : ∃ v, v = vs.getD 1 0 := ⟨_, rfl⟩
                  obtain ⟨v2, hv2⟩ : ∃ v, v = vs.getD 2 0 := ⟨_, rfl⟩
                  rw [← hv0, ← hv1, ← hv2] at hB
                  have HV := hide (And.intro hv0 (And.intro hv1 hv2))
                  have HLN := hide hF.out.len
                  have a0 := hB.out.cell 0
                  have a1 := hB.out.cell 1
                  have a2 := hB.out.cell 2
                  dsimp only [List.getElem?_cons_zero, List.getElem?_cons_succ] at a0 a1 a2
                  clear hv hv0 hv1 hv2 hj3
                  by_cases h5 : n'' < 5
                  · -- too few
                    have HNX : Hid (∀ ps, ¬ IxOf b ps) := by
                      intro ps hp
                      obtain ⟨q, hq, hqf, b1, b2, k0, k1, k2, kr, kk⟩ := hI.out.rest hS.out HLT.out hp
                      have a1 := bnd_nat b1
                      have a2 := bnd_nat b2
                      have := congrArg List.length kr
                      rw [HLN.out, List.length_append, be32_len, List.length_cons] at this
                      omega
                    have h5i : decide ((n'' : Int) < 5) = true := decide_eq_true (by omega)
                    have h5in : decide (n'' < 5) = true := decide_eq_true (by omega)
                    clear h5
                    go_wp2_with fail
                    refine heldT_top (fun W' => W'.cell? ⟨ga, 0, none⟩ = some (.int .u64 (v0 : Int)) ∧ W'.cell? ⟨ga, 1, none⟩ = some (.int .u64 (v1 : Int)) ∧ W'.cell? ⟨ga, 2, none⟩ = some (.int .u64 (v2 : Int))) 34 #[false, false, false, false, false, false, false, false, false, false, false, false, false, false, false, false, false, false, false, false, false, false, false, false, false, false, false, false, false, false, false, false, false, false] (by kernel_rfl) (by kernel_rfl) (by kernel_rfl) ?_
                    have hHeld : (fun W' => W'.cell? ⟨ga, 0, none⟩ = some (.int .u64 (v0 : Int)) ∧ W'.cell? ⟨ga, 1, none⟩ = some (.int .u64 (v1 : Int)) ∧ W'.cell? ⟨ga, 2, none⟩ = some (.int .u64 (v2 : Int))) wr.drew := ⟨a0, a1, a2⟩
                    refine' wpAnyH_take (i := 0) (oi := ⟨_, _, _, _, _, _⟩) (v := _) rfl (by kernel_rfl) (by kernel_rfl) (by kernel_rfl) (fun _ _ _ h => h) (Or.inl ⟨rfl, ?_⟩) hHeld ?_
                    rotate_left
                    · (intro W' hW; (try dsimp only at hW); go_simp; (try with_reducible rfl))
                    try simp only [Act.put, List.setIfInBounds_toArray, List.set_cons_zero, List.set_cons_succ]
                    refine' wpAnyH_take (i := 1) (oi := ⟨_, _, _, _, _, _⟩) (v := _) rfl (by kernel_rfl) (by kernel_rfl) (by kernel_rfl) (fun _ _ _ h => h) (Or.inl ⟨rfl, ?_⟩) hHeld ?_
                    rotate_left
                    · (intro W' hW; (try dsimp only at hW); go_simp; (try with_reducible rfl))
                    try simp only [Act.put, List.setIfInBounds_toArray, List.set_cons_zero, List.set_cons_succ]
                    refine' wpAnyH_take (i := 2) (oi := ⟨_, _, _, _, _, _⟩) (v := _) rfl (by kernel_rfl) (by kernel_rfl) (by kernel_rfl) (fun _ _ _ h => h) (Or.inl ⟨rfl, ?_⟩) hHeld ?_
                    rotate_left
                    · (intro W' hW; (try dsimp only at hW); go_simp; (try with_reducible rfl))
                    try simp only [Act.put, List.setIfInBounds_toArray, List.set_cons_zero, List.set_cons_succ]
                    refine' wpAnyH_take (i := 3) (oi := ⟨_, _, _, _, _, _⟩) (v := _) rfl (by kernel_rfl) (by kernel_rfl) (by kernel_rfl) (fun _ _ _ h => h) (Or.inl ⟨rfl, ?_⟩) hHeld ?_
                    rotate_left
                    · (intro W' hW; (try dsimp only at hW); go_simp; (try with_reducible rfl))
                    try simp only [Act.put, List.setIfInBounds_toArray, List.set_cons_zero, List.set_cons_succ]
                    refine' wpAnyH_take (i := 4) (oi := ⟨_, _, _, _, _, _⟩) (v := undef) rfl (by kernel_rfl) (by kernel_rfl) (by kernel_rfl) (fun _ _ _ h => h) (Or.inr ⟨rfl, rfl⟩) hHeld ?_
                    try simp only [Act.put, List.setIfInBounds_toArray, List.set_cons_zero, List.set_cons_succ]
                    refine' wpAnyH_take (i := 5) (oi := ⟨_, _, _, _, _, _⟩) (v := undef) rfl (by kernel_rfl) (by kernel_rfl) (by kernel_rfl) (fun _ _ _ h => h) (Or.inr ⟨rfl, rfl⟩) hHeld ?_
                    try simp only [Act.put, List.setIfInBounds_toArray, List.set_cons_zero, List.set_cons_succ]
                    refine' wpAnyH_take (i := 6) (oi := ⟨_, _, _, _, _, _⟩) (v := undef) rfl (by kernel_rfl) (by kernel_rfl) (by kernel_rfl) (fun _ _ _ h => h) (Or.inr ⟨rfl, rfl⟩) hHeld ?_
                    try simp only [Act.put, List.setIfInBounds_toArray, List.set_cons_zero, List.set_cons_succ]
                    refine' wpAnyH_take (i := 7) (oi := ⟨_, _, _, _, _, _⟩) (v := undef) rfl (by kernel_rfl) (by kernel_rfl) (by kernel_rfl) (fun _ _ _ h => h) (Or.inr ⟨rfl, rfl⟩) hHeld ?_
                    try simp only [Act.put, List.setIfInBounds_toArray, List.set_cons_zero, List.set_cons_succ]
                    refine' wpAnyH_take (i := 8) (oi := ⟨_, _, _, _, _, _⟩) (v := _) rfl (by kernel_rfl) (by kernel_rfl) (by kernel_rfl) (fun _ _ _ h => h) (Or.inl ⟨rfl, ?_⟩) hHeld ?_
                    rotate_left
                    · (intro W' hW; (try dsimp only at hW); go_simp; (try with_reducible rfl))
                    try simp only [Act.put, List.setIfInBounds_toArray, List.set_cons_zero, List.set_cons_succ]
                    refine' wpAnyH_take (i := 9) (oi := ⟨_, _, _, _, _, _⟩) (v := _) rfl (by kernel_rfl) (by kernel_rfl) (by kernel_rfl) (fun _ _ _ h => h) (Or.inl ⟨rfl, ?_⟩) hHeld ?_
                    rotate_left
                    · (intro W' hW; (try dsimp only at hW); go_simp; (try with_reducible rfl))
                    try simp only [Act.put, List.setIfInBounds_toArray, List.set_cons_zero, List.set_cons_succ]
                    refine' wpAnyH_take (i := 10) (oi := ⟨_, _, _, _, _, _⟩) (v := undef) rfl (by kernel_rfl) (by kernel_rfl) (by kernel_rfl) (fun _ _ _ h => h) (Or.inr ⟨rfl, rfl⟩) hHeld ?_
                    try simp only [Act.put, List.setIfInBounds_toArray, List.set_cons_zero, List.set_cons_succ]
                    refine' wpAnyH_take (i := 11) (oi := ⟨_, _, _, _, _, _⟩) (v := undef) rfl (by kernel_rfl) (by kernel_rfl) (by kernel_rfl) (fun _ _ _ h => h) (Or.inr ⟨rfl, rfl⟩) hHeld ?_
                    try simp only [Act.put, List.setIfInBounds_toArray, List.set_cons_zero, List.set_cons_succ]
                    refine' wpAnyH_take (i := 12) (oi := ⟨_, _, _, _, _, _⟩) (v := undef) rfl (by kernel_rfl) (by kernel_rfl) (by kernel_rfl) (fun _ _ _ h => h) (Or.inr ⟨rfl, rfl⟩) hHeld ?_
                    try simp only [Act.put, List.setIfInBounds_toArray, List.set_cons_zero, List.set_cons_succ]
                    refine' wpAnyH_take (i := 13) (oi := ⟨_, _, _, _, _, _⟩) (v := _) rfl (by kernel_rfl) (by kernel_rfl) (by kernel_rfl) (fun _ _ _ h => h) (Or.inl ⟨rfl, ?_⟩) hHeld ?_
                    rotate_left
                    · (intro W' hW; (try dsimp only at hW); go_simp; (try with_reducible rfl))
                    try simp only [Act.put, List.setIfInBounds_toArray, List.set_cons_zero, List.set_cons_succ]
                    refine' wpAnyH_take (i := 14) (oi := ⟨_, _, _, _, _, _⟩) (v := _) rfl (by kernel_rfl) (by kernel_rfl) (by kernel_rfl) (fun _ _ _ h => h) (Or.inl ⟨rfl, ?_⟩) hHeld ?_
                    rotate_left
                    · (intro W' hW; (try dsimp only at hW); go_simp; (try with_reducible rfl))
                    try simp only [Act.put, List.setIfInBounds_toArray, List.set_cons_zero, List.set_cons_succ]
                    refine' wpAnyH_take (i := 15) (oi := ⟨_, _, _, _, _, _⟩) (v := undef) rfl (by kernel_rfl) (by kernel_rfl) (by kernel_rfl) (fun _ _ _ h => h) (Or.inr ⟨rfl, rfl⟩) hHeld ?_
                    try simp only [Act.put, List.setIfInBounds_toArray, List.set_cons_zero, List.set_cons_succ]
                    refine' wpAnyH_take (i := 16) (oi := ⟨_, _, _, _, _, _⟩) (v := undef) rfl (by kernel_rfl) (by kernel_rfl) (by kernel_rfl) (fun _ _ _ h => h) (Or.inr ⟨rfl, rfl⟩) hHeld ?_
                    try simp only [Act.put, List.setIfInBounds_toArray, List.set_cons_zero, List.set_cons_succ]
                    refine' wpAnyH_take (i := 17) (oi := ⟨_, _, _, _, _, _⟩) (v := undef) rfl (by kernel_rfl) (by kernel_rfl) (by kernel_rfl) (fun _ _ _ h => h) (Or.inr ⟨rfl, rfl⟩) hHeld ?_
                    try simp only [Act.put, List.setIfInBounds_toArray, List.set_cons_zero, List.set_cons_succ]
                    refine' wpAnyH_take (i := 18) (oi := ⟨_, _, _, _, _, _⟩) (v := _) rfl (by kernel_rfl) (by kernel_rfl) (by kernel_rfl) (fun _ _ _ h => h) (Or.inl ⟨rfl, ?_⟩) hHeld ?_
                    rotate_left
                    · (intro W' hW; (try dsimp only at hW); go_simp; (try with_reducible rfl))
                    try simp only [Act.put, List.setIfInBounds_toArray, List.set_cons_zero, List.set_cons_succ]
                    refine' wpAnyH_take (i := 19) (oi := ⟨_, _, _, _, _, _⟩) (v := _) rfl (by kernel_rfl) (by kernel_rfl) (by kernel_rfl) (fun _ _ _ h => h) (Or.inl ⟨rfl, ?_⟩) hHeld ?_
                    rotate_left
                    · (intro W' hW; (try dsimp only at hW); go_simp; (try with_reducible rfl))
                    try simp only [Act.put, List.setIfInBounds_toArray, List.set_cons_zero, List.set_cons_succ]
                    refine' wpAnyH_take (i := 20) (oi := ⟨_, _, _, _, _, _⟩) (v := undef) rfl (by kernel_rfl) (by kernel_rfl) (by kernel_rfl) (fun _ _ _ h => h) (Or.inr ⟨rfl, rfl⟩) hHeld ?_
                    try simp only [Act.put, List.setIfInBounds_toArray, List.set_cons_zero, List.set_cons_succ]
                    refine' wpAnyH_take (i := 21) (oi := ⟨_, _, _, _, _, _⟩) (v := undef) rfl (by kernel_rfl) (by kernel_rfl) (by kernel_rfl) (fun _ _ _ h => h) (Or.inr ⟨rfl, rfl⟩) hHeld ?_
                    try simp only [Act.put, List.setIfInBounds_toArray, List.set_cons_zero, List.set_cons_succ]
                    refine' wpAnyH_take (i := 22) (oi := ⟨_, _, _, _, _, _⟩) (v := undef) rfl (by kernel_rfl) (by kernel_rfl) (by kernel_rfl) (fun _ _ _ h => h) (Or.inr ⟨rfl, rfl⟩) hHeld ?_
                    try simp only [Act.put, List.setIfInBounds_toArray, List.set_cons_zero, List.set_cons_succ]
                    refine' wpAnyH_take (i := 23) (oi := ⟨_, _, _, _, _, _⟩) (v := undef) rfl (by kernel_rfl) (by kernel_rfl) (by kernel_rfl) (fun _ _ _ h => h) (Or.inr ⟨rfl, rfl⟩) hHeld ?_
                    try simp only [Act.put, List.setIfInBounds_toArray, List.set_cons_zero, List.set_cons_succ]
                    refine' wpAnyH_take (i := 24) (oi := ⟨_, _, _, _, _, _⟩) (v := undef) rfl (by kernel_rfl) (by kernel_rfl) (by kernel_rfl) (fun _ _ _ h => h) (Or.inr ⟨rfl, rfl⟩) hHeld ?_
                    try simp only [Act.put, List.setIfInBounds_toArray, List.set_cons_zero, List.set_cons_succ]
                    refine' wpAnyH_take (i := 25) (oi := ⟨_, _, _, _, _, _⟩) (v := undef) rfl (by kernel_rfl) (by kernel_rfl) (by kernel_rfl) (fun _ _ _ h => h) (Or.inr ⟨rfl, rfl⟩) hHeld ?_
                    try simp only [Act.put, List.setIfInBounds_toArray, List.set_cons_zero, List.set_cons_succ]
                    refine' wpAnyH_take (i := 26) (oi := ⟨_, _, _, _, _, _⟩) (v := undef) rfl (by kernel_rfl) (by kernel_rfl) (by kernel_rfl) (fun _ _ _ h => h) (Or.inr ⟨rfl, rfl⟩) hHeld ?_
                    try simp only [Act.put, List.setIfInBounds_toArray, List.set_cons_zero, List.set_cons_succ]
                    refine' wpAnyH_take (i := 27) (oi := ⟨_, _, _, _, _, _⟩) (v := undef) rfl (by kernel_rfl) (by kernel_rfl) (by kernel_rfl) (fun _ _ _ h => h) (Or.inr ⟨rfl, rfl⟩) hHeld ?_
                    try simp only [Act.put, List.setIfInBounds_toArray, List.set_cons_zero, List.set_cons_succ]
                    refine' wpAnyH_take (i := 28) (oi := ⟨_, _, _, _, _, _⟩) (v := undef) rfl (by kernel_rfl) (by kernel_rfl) (by kernel_rfl) (fun _ _ _ h => h) (Or.inr ⟨rfl, rfl⟩) hHeld ?_
                    try simp only [Act.put, List.setIfInBounds_toArray, List.set_cons_zero, List.set_cons_succ]
                    refine' wpAnyH_take (i := 29) (oi := ⟨_, _, _, _, _, _⟩) (v := undef) rfl (by kernel_rfl) (by kernel_rfl) (by kernel_rfl) (fun _ _ _ h => h) (Or.inr ⟨rfl, rfl⟩) hHeld ?_
                    try simp only [Act.put, List.setIfInBounds_toArray, List.set_cons_zero, List.set_cons_succ]
                    refine' wpAnyH_take (i := 30) (oi := ⟨_, _, _, _, _, _⟩) (v := undef) rfl (by kernel_rfl) (by kernel_rfl) (by kernel_rfl) (fun _ _ _ h => h) (Or.inr ⟨rfl, rfl⟩) hHeld ?_
                    try simp only [Act.put, List.setIfInBounds_toArray, List.set_cons_zero, List.set_cons_succ]
                    refine' wpAnyH_take (i := 31) (oi := ⟨_, _, _, _, _, _⟩) (v := undef) rfl (by kernel_rfl) (by kernel_rfl) (by kernel_rfl) (fun _ _ _ h => h) (Or.inr ⟨rfl, rfl⟩) hHeld ?_
                    try simp only [Act.put, List.setIfInBounds_toArray, List.set_cons_zero, List.set_cons_succ]
                    refine' wpAnyH_take (i := 32) (oi := ⟨_, _, _, _, _, _⟩) (v := undef) rfl (by kernel_rfl) (by kernel_rfl) (by kernel_rfl) (fun _ _ _ h => h) (Or.inr ⟨rfl, rfl⟩) hHeld ?_
                    try simp only [Act.put, List.setIfInBounds_toArray, List.set_cons_zero, List.set_cons_succ]
                    refine' wpAnyH_take (i := 33) (oi := ⟨_, _, _, _, _, _⟩) (v := _) rfl (by kernel_rfl) (by kernel_rfl) (by kernel_rfl) (fun _ _ _ h => h) (Or.inl ⟨rfl, ?_⟩) hHeld ?_
                    rotate_left
                    · (intro W' hW; (try dsimp only at hW); go_simp; (try with_reducible rfl))
                    try simp only [Act.put, List.setIfInBounds_toArray, List.set_cons_zero, List.set_cons_succ]
                    refine wpAnyH_done (by kernel_rfl) ?_ _
                    clear hHeld
                    go_wp2_with fail
                    go_ret2
                    exact ⟨.slice none 0 0, [], 3, rfl, ownPs_nil _ _, .inr (.inr ⟨by rw [HD.out], HNX.out, rfl, rfl⟩), below_drewN hK.out 1⟩
                  · -- five at least
                    have h5i : decide ((n'' : Int) < 5) = false := decide_eq_false (by omega)
                    have h5in : decide (n'' < 5) = false := decide_eq_false (by omega)
                    have h4i : (4 : Int) < (n'' : Int) := by omega
                    obtain ⟨b1, o1, rfl⟩ := hF.out.some (by omega)
                    obtain ⟨f4, hf4⟩ : ∃ f4, f4 = r'.getD 4 0 := ⟨_, rfl⟩
                    have c4 : wr.cell? ⟨b1, o1 + 4, none⟩ = some (.int .u8 (f4 : Int)) := by
                      have h0 := hF.out.isB.rd (by intro e; have := HLN.out; rw [e] at this; simp at this; omega)
                      obtain ⟨bb, oo, e1, hc⟩ := h0
                      cases e1
                      have h1 := hc 4 (by rw [HLN.out]; omega)
                      rw [h1, hf4, List.getD_eq_getElem?_getD, List.getElem?_eq_getElem (by rw [HLN.out]; omega)]
                      try rfl
                    have HF4 := hide hf4
                    have H5 := hide h5
                    clear hf4 h5
                    by_cases hf1 : 1 < f4
                    · -- a flag that is none
                      have HNX : Hid (∀ ps, ¬ IxOf b ps) := by
                        intro ps hp
                        obtain ⟨q, hq, hqf, b1, b2, k0, k1, k2, kr, kk⟩ := hI.out.rest hS.out HLT.out hp
                        have a1 := bnd_nat b1
                        have a2 := bnd_nat b2
                        have h6 := HF4.out
                        rw [kr] at h6
                        have h7 : f4 = if q.dead then 1 else 0 := h6
                        split at h7 <;> omega
                      have hf1i : decide ((1 : Int) < (f4 : Int)) = true := decide_eq_true (by omega)
                      have hf1in : decide (1 < f4) = true := decide_eq_true (by omega)
                      clear hf1
                      go_wp2_with fail
                      refine heldT_top (fun W' => W'.cell? ⟨ga, 0, none⟩ = some (.int .u64 (v0 : Int)) ∧ W'.cell? ⟨ga, 1, none⟩ = some (.int .u64 (v1 : Int)) ∧ W'.cell? ⟨ga, 2, none⟩ = some (.int .u64 (v2 : Int)) ∧ W'.cell? ⟨b1, o1 + 4, none⟩ = some (.int .u8 (f4 : Int))) 34 #[false, false, false, false, false, false, false, false, false, false, false, false, false, false, false, false, false, false, false, false, false, false, false, false, false, false, false, false, false, false, false, false, false, false] (by kernel_rfl) (by kernel_rfl) (by kernel_rfl) ?_
                      have hHeld : (fun W' => W'.cell? ⟨ga, 0, none⟩ = some (.int .u64 (v0 : Int)) ∧ W'.cell? ⟨ga, 1, none⟩ = some (.int .u64 (v1 : Int)) ∧ W'.cell? ⟨ga, 2, none⟩ = some (.int .u64 (v2 : Int)) ∧ W'.cell? ⟨b1, o1 + 4, none⟩ = some (.int .u8 (f4 : Int))) wr.drew := ⟨a0, a1, a2, c4⟩
                      refine' wpAnyH_take (i := 0) (oi := ⟨_, _, _, _, _, _⟩) (v := _) rfl (by kernel_rfl) (by kernel_rfl) (by kernel_rfl) (fun _ _ _ h => h) (Or.inl ⟨rfl, ?_⟩) hHeld ?_
                      rotate_left
                      · (intro W' hW; (try dsimp only at hW); go_simp; (try with_reducible rfl))
                      try simp only [Act.put, List.setIfInBounds_toArray, List.set_cons_zero, List.set_cons_succ]
                      refine' wpAnyH_take (i := 1) (oi := ⟨_, _, _, _, _, _⟩) (v := _) rfl (by kernel_rfl) (by kernel_rfl) (by kernel_rfl) (fun _ _ _ h => h) (Or.inl ⟨rfl, ?_⟩) hHeld ?_
                      rotate_left
                      · (intro W' hW; (try dsimp only at hW); go_simp; (try with_reducible rfl))
                      try simp only [Act.put, List.setIfInBounds_toArray, List.set_cons_zero, List.set_cons_succ]
                      refine' wpAnyH_take (i := 2) (oi := ⟨_, _, _, _, _, _⟩) (v := _) rfl (by kernel_rfl) (by kernel_rfl) (by kernel_rfl) (fun _ _ _ h => h) (Or.inl ⟨rfl, ?_⟩) hHeld ?_
                      rotate_left
                      · (intro W' hW; (try dsimp only at hW); go_simp; (try with_reducible rfl))
                      try simp only [Act.put, List.setIfInBounds_toArray, List.set_cons_zero, List.set_cons_succ]
                      refine' wpAnyH_take (i := 3) (oi := ⟨_, _, _, _, _, _⟩) (v := _) rfl (by kernel_rfl) (by kernel_rfl) (by kernel_rfl) (fun _ _ _ h => h) (Or.inl ⟨rfl, ?_⟩) hHeld ?_
                      rotate_left
                      · (intro W' hW; (try dsimp only at hW); go_simp; (try with_reducible rfl))
                      try simp only [Act.put, List.setIfInBounds_toArray, List.set_cons_zero, List.set_cons_succ]
                      refine' wpAnyH_take (i := 4) (oi := ⟨_, _, _, _, _, _⟩) (v := _) rfl (by kernel_rfl) (by kernel_rfl) (by kernel_rfl) (fun _ _ _ h => h) (Or.inl ⟨rfl, ?_⟩) hHeld ?_
                      rotate_left
                      · (intro W' hW; (try dsimp only at hW); go_simp; (try with_reducible rfl))
                      try simp only [Act.put, List.setIfInBounds_toArray, List.set_cons_zero, List.set_cons_succ]
                      refine' wpAnyH_take (i := 5) (oi := ⟨_, _, _, _, _, _⟩) (v := _) rfl (by kernel_rfl) (by kernel_rfl) (by kernel_rfl) (fun _ _ _ h => h) (Or.inl ⟨rfl, ?_⟩) hHeld ?_
                      rotate_left
                      · (intro W' hW; (try dsimp only at hW); go_simp; (try with_reducible rfl))
                      try simp only [Act.put, List.setIfInBounds_toArray, List.set_cons_zero, List.set_cons_succ]
                      refine' wpAnyH_take (i := 6) (oi := ⟨_, _, _, _, _, _⟩) (v := _) rfl (by kernel_rfl) (by kernel_rfl) (by kernel_rfl) (fun _ _ _ h => h) (Or.inl ⟨rfl, ?_⟩) hHeld ?_
                      rotate_left
                      · (intro W' hW; (try dsimp only at hW); obtain ⟨z0, z1, z2, z3⟩ := hW; go_simp; (try with_reducible rfl))
                      try simp only [Act.put, List.setIfInBounds_toArray, List.set_cons_zero, List.set_cons_succ]
                      refine' wpAnyH_take (i := 7) (oi := ⟨_, _, _, _, _, _⟩) (v := _) rfl (by kernel_rfl) (by kernel_rfl) (by kernel_rfl) (fun _ _ _ h => h) (Or.inl ⟨rfl, ?_⟩) hHeld ?_
                      rotate_left
                      · (intro W' hW; (try dsimp only at hW); go_simp; (try with_reducible rfl))
                      try simp only [Act.put, List.setIfInBounds_toArray, List.set_cons_zero, List.set_cons_succ]
                      refine' wpAnyH_take (i := 8) (oi := ⟨_, _, _, _, _, _⟩) (v := _) rfl (by kernel_rfl) (by kernel_rfl) (by kernel_rfl) (fun _ _ _ h => h) (Or.inl ⟨rfl, ?_⟩) hHeld ?_
                      rotate_left
                      · (intro W' hW; (try dsimp only at hW); go_simp; (try with_reducible rfl))
                      try simp only [Act.put, List.setIfInBounds_toArray, List.set_cons_zero, List.set_cons_succ]
                      refine' wpAnyH_take (i := 9) (oi := ⟨_, _, _, _, _, _⟩) (v := _) rfl (by kernel_rfl) (by kernel_rfl) (by kernel_rfl) (fun _ _ _ h => h) (Or.inl ⟨rfl, ?_⟩) hHeld ?_
                      rotate_left
                      · (intro W' hW; (try dsimp only at hW); go_simp; (try with_reducible rfl))
                      try simp only [Act.put, List.setIfInBounds_toArray, List.set_cons_zero, List.set_cons_succ]
                      refine' wpAnyH_take (i := 10) (oi := ⟨_, _, _, _, _, _⟩) (v := undef) rfl (by kernel_rfl) (by kernel_rfl) (by kernel_rfl) (fun _ _ _ h => h) (Or.inr ⟨rfl, rfl⟩) hHeld ?_
                      try simp only [Act.put, List.setIfInBounds_toArray, List.set_cons_zero, List.set_cons_succ]
                      refine' wpAnyH_take (i := 11) (oi := ⟨_, _, _, _, _, _⟩) (v := undef) rfl (by kernel_rfl) (by kernel_rfl) (by kernel_rfl) (fun _ _ _ h => h) (Or.inr ⟨rfl, rfl⟩) hHeld ?_
                      try simp only [Act.put, List.setIfInBounds_toArray, List.set_cons_zero, List.set_cons_succ]
                      refine' wpAnyH_take (i := 12) (oi := ⟨_, _, _, _, _, _⟩) (v := undef) rfl (by kernel_rfl) (by kernel_rfl) (by kernel_rfl) (fun _ _ _ h => h) (Or.inr ⟨rfl, rfl⟩) hHeld ?_
                      try simp only [Act.put, List.setIfInBounds_toArray, List.set_cons_zero, List.set_cons_succ]
                      refine' wpAnyH_take (i := 13) (oi := ⟨_, _, _, _, _, _⟩) (v := _) rfl (by kernel_rfl) (by kernel_rfl) (by kernel_rfl) (fun _ _ _ h => h) (Or.inl ⟨rfl, ?_⟩) hHeld ?_
                      rotate_left
                      · (intro W' hW; (try dsimp only at hW); go_simp; (try with_reducible rfl))
                      try simp only [Act.put, List.setIfInBounds_toArray, List.set_cons_zero, List.set_cons_succ]
                      refine' wpAnyH_take (i := 14) (oi := ⟨_, _, _, _, _, _⟩) (v := _) rfl (by kernel_rfl) (by kernel_rfl) (by kernel_rfl) (fun _ _ _ h => h) (Or.inl ⟨rfl, ?_⟩) hHeld ?_
                      rotate_left
                      · (intro W' hW; (try dsimp only at hW); go_simp; (try with_reducible rfl))
                      try simp only [Act.put, List.setIfInBounds_toArray, List.set_cons_zero, List.set_cons_succ]
                      refine' wpAnyH_take (i := 15) (oi := ⟨_, _, _, _, _, _⟩) (v := undef) rfl (by kernel_rfl) (by kernel_rfl) (by kernel_rfl) (fun _ _ _ h => h) (Or.inr ⟨rfl, rfl⟩) hHeld ?_
                      try simp only [Act.put, List.setIfInBounds_toArray, List.set_cons_zero, List.set_cons_succ]
                      refine' wpAnyH_take (i := 16) (oi := ⟨_, _, _, _, _, _⟩) (v := undef) rfl (by kernel_rfl) (by kernel_rfl) (by kernel_rfl) (fun _ _ _ h => h) (Or.inr ⟨rfl, rfl⟩) hHeld ?_
                      try simp only [Act.put, List.setIfInBounds_toArray, List.set_cons_zero, List.set_cons_succ]
                      refine' wpAnyH_take (i := 17) (oi := ⟨_, _, _, _, _, _⟩) (v := undef) rfl (by kernel_rfl) (by kernel_rfl) (by kernel_rfl) (fun _ _ _ h => h) (Or.inr ⟨rfl, rfl⟩) hHeld ?_
                      try simp only [Act.put, List.setIfInBounds_toArray, List.set_cons_zero, List.set_cons_succ]
                      refine' wpAnyH_take (i := 18) (oi := ⟨_, _, _, _, _, _⟩) (v := _) rfl (by kernel_rfl) (by kernel_rfl) (by kernel_rfl) (fun _ _ _ h => h) (Or.inl ⟨rfl, ?_⟩) hHeld ?_
                      rotate_left
                      · (intro W' hW; (try dsimp only at hW); go_simp; (try with_reducible rfl))
                      try simp only [Act.put, List.setIfInBounds_toArray, List.set_cons_zero, List.set_cons_succ]
                      refine' wpAnyH_take (i := 19) (oi := ⟨_, _, _, _, _, _⟩) (v := _) rfl (by kernel_rfl) (by kernel_rfl) (by kernel_rfl) (fun _ _ _ h => h) (Or.inl ⟨rfl, ?_⟩) hHeld ?_
                      rotate_left
                      · (intro W' hW; (try dsimp only at hW); go_simp; (try with_reducible rfl))
                      try simp only [Act.put, List.setIfInBounds_toArray, List.set_cons_zero, List.set_cons_succ]
                      refine' wpAnyH_take (i := 20) (oi := ⟨_, _, _, _, _, _⟩) (v := undef) rfl (by kernel_rfl) (by kernel_rfl) (by kernel_rfl) (fun _ _ _ h => h) (Or.inr ⟨rfl, rfl⟩) hHeld ?_
                      try simp only [Act.put, List.setIfInBounds_toArray, List.set_cons_zero, List.set_cons_succ]
                      refine' wpAnyH_take (i := 21) (oi := ⟨_, _, _, _, _, _⟩) (v := undef) rfl (by kernel_rfl) (by kernel_rfl) (by kernel_rfl) (fun _ _ _ h => h) (Or.inr ⟨rfl, rfl⟩) hHeld ?_
                      try simp only [Act.put, List.setIfInBounds_toArray, List.set_cons_zero, List.set_cons_succ]
                      refine' wpAnyH_take (i := 22) (oi := ⟨_, _, _, _, _, _⟩) (v := undef) rfl (by kernel_rfl) (by kernel_rfl) (by kernel_rfl) (fun _ _ _ h => h) (Or.inr ⟨rfl, rfl⟩) hHeld ?_
                      try simp only [Act.put, List.setIfInBounds_toArray, List.set_cons_zero, List.set_cons_succ]
                      refine' wpAnyH_take (i := 23) (oi := ⟨_, _, _, _, _, _⟩) (v := undef) rfl (by kernel_rfl) (by kernel_rfl) (by kernel_rfl) (fun _ _ _ h => h) (Or.inr ⟨rfl, rfl⟩) hHeld ?_
                      try simp only [Act.put, List.setIfInBounds_toArray, List.set_cons_zero, List.set_cons_succ]
                      refine' wpAnyH_take (i := 24) (oi := ⟨_, _, _, _, _, _⟩) (v := undef) rfl (by kernel_rfl) (by kernel_rfl) (by kernel_rfl) (fun _ _ _ h => h) (Or.inr ⟨rfl, rfl⟩) hHeld ?_
                      try simp only [Act.put, List.setIfInBounds_toArray, List.set_cons_zero, List.set_cons_succ]
                      refine' wpAnyH_take (i := 25) (oi := ⟨_, _, _, _, _, _⟩) (v := undef) rfl (by kernel_rfl) (by kernel_rfl) (by kernel_rfl) (fun _ _ _ h => h) (Or.inr ⟨rfl, rfl⟩) hHeld ?_
                      try simp only [Act.put, List.setIfInBounds_toArray, List.set_cons_zero, List.set_cons_succ]
                      refine' wpAnyH_take (i := 26) (oi := ⟨_, _, _, _, _, _⟩) (v := undef) rfl (by kernel_rfl) (by kernel_rfl) (by kernel_rfl) (fun _ _ _ h => h) (Or.inr ⟨rfl, rfl⟩) hHeld ?_
                      try simp only [Act.put, List.setIfInBounds_toArray, List.set_cons_zero, List.set_cons_succ]
                      refine' wpAnyH_take (i := 27) (oi := ⟨_, _, _, _, _, _⟩) (v := undef) rfl (by kernel_rfl) (by kernel_rfl) (by kernel_rfl) (fun _ _ _ h => h) (Or.inr ⟨rfl, rfl⟩) hHeld ?_
                      try simp only [Act.put, List.setIfInBounds_toArray, List.set_cons_zero, List.set_cons_succ]
                      refine' wpAnyH_take (i := 28) (oi := ⟨_, _, _, _, _, _⟩) (v := undef) rfl (by kernel_rfl) (by kernel_rfl) (by kernel_rfl) (fun _ _ _ h => h) (Or.inr ⟨rfl, rfl⟩) hHeld ?_
                      try simp only [Act.put, List.setIfInBounds_toArray, List.set_cons_zero, List.set_cons_succ]
                      refine' wpAnyH_take (i := 29) (oi := ⟨_, _, _, _, _, _⟩) (v := undef) rfl (by kernel_rfl) (by kernel_rfl) (by kernel_rfl) (fun _ _ _ h => h) (Or.inr ⟨rfl, rfl⟩) hHeld ?_
                      try simp only [Act.put, List.setIfInBounds_toArray, List.set_cons_zero, List.set_cons_succ]
                      refine' wpAnyH_take (i := 30) (oi := ⟨_, _, _, _, _, _⟩) (v := undef) rfl (by kernel_rfl) (by kernel_rfl) (by kernel_rfl) (fun _ _ _ h => h) (Or.inr ⟨rfl, rfl⟩) hHeld ?_
                      try simp only [Act.put, List.setIfInBounds_toArray, List.set_cons_zero, List.set_cons_succ]
                      refine' wpAnyH_take (i := 31) (oi := ⟨_, _, _, _, _, _⟩) (v := undef) rfl (by kernel_rfl) (by kernel_rfl) (by kernel_rfl) (fun _ _ _ h => h) (Or.inr ⟨rfl, rfl⟩) hHeld ?_
                      try simp only [Act.put, List.setIfInBounds_toArray, List.set_cons_zero, List.set_cons_succ]
                      refine' wpAnyH_take (i := 32) (oi := ⟨_, _, _, _, _, _⟩) (v := undef) rfl (by kernel_rfl) (by kernel_rfl) (by kernel_rfl) (fun _ _ _ h => h) (Or.inr ⟨rfl, rfl⟩) hHeld ?_
                      try simp only [Act.put, List.setIfInBounds_toArray, List.set_cons_zero, List.set_cons_succ]
                      refine' wpAnyH_take (i := 33) (oi := ⟨_, _, _, _, _, _⟩) (v := _) rfl (by kernel_rfl) (by kernel_rfl) (by kernel_rfl) (fun _ _ _ h => h) (Or.inl ⟨rfl, ?_⟩) hHeld ?_
                      rotate_left
                      · (intro W' hW; (try dsimp only at hW); go_simp; (try with_reducible rfl))
                      try simp only [Act.put, List.setIfInBounds_toArray, List.set_cons_zero, List.set_cons_succ]
                      refine wpAnyH_done (by kernel_rfl) ?_ _
                      clear hHeld
                      go_wp2_with fail
                      go_ret2
                      exact ⟨.slice none 0 0, [], 3, rfl, ownPs_nil _ _, .inr (.inr ⟨by rw [HD.out], HNX.out, rfl, rfl⟩), below_drewN hK.out 1⟩
                    · skip
                      have hf1i : decide ((1 : Int) < (f4 : Int)) = false := decide_eq_false (by omega)
                      have hf1in : decide (1 < f4) = false := decide_eq_false (by omega)
                      have HF1 := hide hf1
                      clear hf1
                      by_cases hm1 : 4194304 < v1
                      · -- At too great
                        have HNX : Hid (∀ ps, ¬ IxOf b ps) := by
                          intro ps hp
                          obtain ⟨q, hq, hqf, b1, b2, k0, k1, k2, kr, kk⟩ := hI.out.rest hS.out HLT.out hp
                          have a1 := bnd_nat b1
                          have a2 := bnd_nat b2
                          have := HV.out.2.1
                          omega
                        have hm1i : decide ((4194304 : Int) < (v1 : Int)) = true := decide_eq_true (by omega)
                        have hm1in : decide (4194304 < v1) = true := decide_eq_true (by omega)
                        clear hm1
                        go_wp2_with fail
                        refine heldT_top (fun W' => W'.cell? ⟨ga, 0, none⟩ = some (.int .u64 (v0 : Int)) ∧ W'.cell? ⟨ga, 1, none⟩ = some (.int .u64 (v1 : Int)) ∧ W'.cell? ⟨ga, 2, none⟩ = some (.int .u64 (v2 : Int)) ∧ W'.cell? ⟨b1, o1 + 4, none⟩ = some (.int .u8 (f4 : Int))) 34 #[false, false, false, false, false, false, false, false, false, false, false, false, false, false, false, false, false, false, false, false, false, false, false, false, false, false, false, false, false, false, false, false, false, false] (by kernel_rfl) (by kernel_rfl) (by kernel_rfl) ?_
                        have hHeld : (fun W' => W'.cell? ⟨ga, 0, none⟩ = some (.int .u64 (v0 : Int)) ∧ W'.cell? ⟨ga, 1, none⟩ = some (.int .u64 (v1 : Int)) ∧ W'.cell? ⟨ga, 2, none⟩ = some (.int .u64 (v2 : Int)) ∧ W'.cell? ⟨b1, o1 + 4, none⟩ = some (.int .u8 (f4 : Int))) wr.drew := ⟨a0, a1, a2, c4⟩
                        refine' wpAnyH_take (i := 0) (oi := ⟨_, _, _, _, _, _⟩) (v := _) rfl (by kernel_rfl) (by kernel_rfl) (by kernel_rfl) (fun _ _ _ h => h) (Or.inl ⟨rfl, ?_⟩) hHeld ?_
                        rotate_left
                        · (intro W' hW; (try dsimp only at hW); go_simp; (try with_reducible rfl))
                        try simp only [Act.put, List.setIfInBounds_toArray, List.set_cons_zero, List.set_cons_succ]
                        refine' wpAnyH_take (i := 1) (oi := ⟨_, _, _, _, _, _⟩) (v := _) rfl (by kernel_rfl) (by kernel_rfl) (by kernel_rfl) (fun _ _ _ h => h) (Or.inl ⟨rfl, ?_⟩) hHeld ?_
                        rotate_left
                        · (intro W' hW; (try dsimp only at hW); go_simp; (try with_reducible rfl))
                        try simp only [Act.put, List.setIfInBounds_toArray, List.set_cons_zero, List.set_cons_succ]
                        refine' wpAnyH_take (i := 2) (oi := ⟨_, _, _, _, _, _⟩) (v := _) rfl (by kernel_rfl) (by kernel_rfl) (by kernel_rfl) (fun _ _ _ h => h) (Or.inl ⟨rfl, ?_⟩) hHeld ?_
                        rotate_left
                        · (intro W' hW; (try dsimp only at hW); go_simp; (try with_reducible rfl))
                        try simp only [Act.put, List.setIfInBounds_toArray, List.set_cons_zero, List.set_cons_succ]
                        refine' wpAnyH_take (i := 3) (oi := ⟨_, _, _, _, _, _⟩) (v := _) rfl (by kernel_rfl) (by kernel_rfl) (by kernel_rfl) (fun _ _ _ h => h) (Or.inl ⟨rfl, ?_⟩) hHeld ?_
                        rotate_left
                        · (intro W' hW; (try dsimp only at hW); go_simp; (try with_reducible rfl))
                        try simp only [Act.put, List.setIfInBounds_toArray, List.set_cons_zero, List.set_cons_succ]
                        refine' wpAnyH_take (i := 4) (oi := ⟨_, _, _, _, _, _⟩) (v := _) rfl (by kernel_rfl) (by kernel_rfl) (by kernel_rfl) (fun _ _ _ h => h) (Or.inl ⟨rfl, ?_⟩) hHeld ?_
                        rotate_left
                        · (intro W' hW; (try dsimp only at hW); go_simp; (try with_reducible rfl))
                        try simp only [Act.put, List.setIfInBounds_toArray, List.set_cons_zero, List.set_cons_succ]
                        refine' wpAnyH_take (i := 5) (oi := ⟨_, _, _, _, _, _⟩) (v := _) rfl (by kernel_rfl) (by kernel_rfl) (by kernel_rfl) (fun _ _ _ h => h) (Or.inl ⟨rfl, ?_⟩) hHeld ?_
                        rotate_left
                        · (intro W' hW; (try dsimp only at hW); go_simp; (try with_reducible rfl))
                        try simp only [Act.put, List.setIfInBounds_toArray, List.set_cons_zero, List.set_cons_succ]
                        refine' wpAnyH_take (i := 6) (oi := ⟨_, _, _, _, _, _⟩) (v := _) rfl (by kernel_rfl) (by kernel_rfl) (by kernel_rfl) (fun _ _ _ h => h) (Or.inl ⟨rfl, ?_⟩) hHeld ?_
                        rotate_left
                        · (intro W' hW; (try dsimp only at hW); obtain ⟨z0, z1, z2, z3⟩ := hW; go_simp; (try with_reducible rfl))
                        try simp only [Act.put, List.setIfInBounds_toArray, List.set_cons_zero, List.set_cons_succ]
                        refine' wpAnyH_take (i := 7) (oi := ⟨_, _, _, _, _, _⟩) (v := _) rfl (by kernel_rfl) (by kernel_rfl) (by kernel_rfl) (fun _ _ _ h => h) (Or.inl ⟨rfl, ?_⟩) hHeld ?_
                        rotate_left
                        · (intro W' hW; (try dsimp only at hW); go_simp; (try with_reducible rfl))
                        try simp only [Act.put, List.setIfInBounds_toArray, List.set_cons_zero, List.set_cons_succ]
                        refine' wpAnyH_take (i := 8) (oi := ⟨_, _, _, _, _, _⟩) (v := _) rfl (by kernel_rfl) (by kernel_rfl) (by kernel_rfl) (fun _ _ _ h => h) (Or.inl ⟨rfl, ?_⟩) hHeld ?_
                        rotate_left
                        · (intro W' hW; (try dsimp only at hW); go_simp; (try with_reducible rfl))
                        try simp only [Act.put, List.setIfInBounds_toArray, List.set_cons_zero, List.set_cons_succ]
                        refine' wpAnyH_take (i := 9) (oi := ⟨_, _, _, _, _, _⟩) (v := _) rfl (by kernel_rfl) (by kernel_rfl) (by kernel_rfl) (fun _ _ _ h => h) (Or.inl ⟨rfl, ?_⟩) hHeld ?_
                        rotate_left
                        · (intro W' hW; (try dsimp only at hW); go_simp; (try with_reducible rfl))
                        try simp only [Act.put, List.setIfInBounds_toArray, List.set_cons_zero, List.set_cons_succ]
                        refine' wpAnyH_take (i := 10) (oi := ⟨_, _, _, _, _, _⟩) (v := _) rfl (by kernel_rfl) (by kernel_rfl) (by kernel_rfl) (fun _ _ _ h => h) (Or.inl ⟨rfl, ?_⟩) hHeld ?_
                        rotate_left
                        · (intro W' hW; (try dsimp only at hW); go_simp; (try with_reducible rfl))
                        try simp only [Act.put, List.setIfInBounds_toArray, List.set_cons_zero, List.set_cons_succ]
                        refine' wpAnyH_take (i := 11) (oi := ⟨_, _, _, _, _, _⟩) (v := _) rfl (by kernel_rfl) (by kernel_rfl) (by kernel_rfl) (fun _ _ _ h => h) (Or.inl ⟨rfl, ?_⟩) hHeld ?_
                        rotate_left
                        · (intro W' hW; (try dsimp only at hW); obtain ⟨z0, z1, z2, z3⟩ := hW; go_simp; (try with_reducible rfl))
                        try simp only [Act.put, List.setIfInBounds_toArray, List.set_cons_zero, List.set_cons_succ]
                        refine' wpAnyH_take (i := 12) (oi := ⟨_, _, _, _, _, _⟩) (v := _) rfl (by kernel_rfl) (by kernel_rfl) (by kernel_rfl) (fun _ _ _ h => h) (Or.inl ⟨rfl, ?_⟩) hHeld ?_
                        rotate_left
                        · (intro W' hW; (try dsimp only at hW); go_simp; (try with_reducible rfl))
                        try simp only [Act.put, List.setIfInBounds_toArray, List.set_cons_zero, List.set_cons_succ]
                        refine' wpAnyH_take (i := 13) (oi := ⟨_, _, _, _, _, _⟩) (v := _) rfl (by kernel_rfl) (by kernel_rfl) (by kernel_rfl) (fun _ _ _ h => h) (Or.inl ⟨rfl, ?_⟩) hHeld ?_
                        rotate_left
                        · (intro W' hW; (try dsimp only at hW); go_simp; (try with_reducible rfl))
                        try simp only [Act.put, List.setIfInBounds_toArray, List.set_cons_zero, List.set_cons_succ]
                        refine' wpAnyH_take (i := 14) (oi := ⟨_, _, _, _, _, _⟩) (v := _) rfl (by kernel_rfl) (by kernel_rfl) (by kernel_rfl) (fun _ _ _ h => h) (Or.inl ⟨rfl, ?_⟩) hHeld ?_
                        rotate_left
                        · (intro W' hW; (try dsimp only at hW); go_simp; (try with_reducible rfl))
                        try simp only [Act.put, List.setIfInBounds_toArray, List.set_cons_zero, List.set_cons_succ]
                        refine' wpAnyH_take (i := 15) (oi := ⟨_, _, _, _, _, _⟩) (v := undef) rfl (by kernel_rfl) (by kernel_rfl) (by kernel_rfl) (fun _ _ _ h => h) (Or.inr ⟨rfl, rfl⟩) hHeld ?_
                        try simp only [Act.put, List.setIfInBounds_toArray, List.set_cons_zero, List.set_cons_succ]
                        refine' wpAnyH_take (i := 16) (oi := ⟨_, _, _, _, _, _⟩) (v := undef) rfl (by kernel_rfl) (by kernel_rfl) (by kernel_rfl) (fun _ _ _ h => h) (Or.inr ⟨rfl, rfl⟩) hHeld ?_
                        try simp only [Act.put, List.setIfInBounds_toArray, List.set_cons_zero, List.set_cons_succ]
                        refine' wpAnyH_take (i := 17) (oi := ⟨_, _, _, _, _, _⟩) (v := undef) rfl (by kernel_rfl) (by kernel_rfl) (by kernel_rfl) (fun _ _ _ h => h) (Or.inr ⟨rfl, rfl⟩) hHeld ?_
                        try simp only [Act.put, List.setIfInBounds_toArray, List.set_cons_zero, List.set_cons_succ]
                        refine' wpAnyH_take (i := 18) (oi := ⟨_, _, _, _, _, _⟩) (v := _) rfl (by kernel_rfl) (by kernel_rfl) (by kernel_rfl) (fun _ _ _ h => h) (Or.inl ⟨rfl, ?_⟩) hHeld ?_
                        rotate_left
                        · (intro W' hW; (try dsimp only at hW); go_simp; (try with_reducible rfl))
                        try simp only [Act.put, List.setIfInBounds_toArray, List.set_cons_zero, List.set_cons_succ]
                        refine' wpAnyH_take (i := 19) (oi := ⟨_, _, _, _, _, _⟩) (v := _) rfl (by kernel_rfl) (by kernel_rfl) (by kernel_rfl) (fun _ _ _ h => h) (Or.inl ⟨rfl, ?_⟩) hHeld ?_
                        rotate_left
                        · (intro W' hW; (try dsimp only at hW); go_simp; (try with_reducible rfl))
                        try simp only [Act.put, List.setIfInBounds_toArray, List.set_cons_zero, List.set_cons_succ]
                        refine' wpAnyH_take (i := 20) (oi := ⟨_, _, _, _, _, _⟩) (v := undef) rfl (by kernel_rfl) (by kernel_rfl) (by kernel_rfl) (fun _ _ _ h => h) (Or.inr ⟨rfl, rfl⟩) hHeld ?_
                        try simp only [Act.put, List.setIfInBounds_toArray, List.set_cons_zero, List.set_cons_succ]
                        refine' wpAnyH_take (i := 21) (oi := ⟨_, _, _, _, _, _⟩) (v := undef) rfl (by kernel_rfl) (by kernel_rfl) (by kernel_rfl) (fun _ _ _ h => h) (Or.inr ⟨rfl, rfl⟩) hHeld ?_
                        try simp only [Act.put, List.setIfInBounds_toArray, List.set_cons_zero, List.set_cons_succ]
                        refine' wpAnyH_take (i := 22) (oi := ⟨_, _, _, _, _, _⟩) (v := undef) rfl (by kernel_rfl) (by kernel_rfl) (by kernel_rfl) (fun _ _ _ h => h) (Or.inr ⟨rfl, rfl⟩) hHeld ?_
                        try simp only [Act.put, List.setIfInBounds_toArray, List.set_cons_zero, List.set_cons_succ]
                        refine' wpAnyH_take (i := 23) (oi := ⟨_, _, _, _, _, _⟩) (v := undef) rfl (by kernel_rfl) (by kernel_rfl) (by kernel_rfl) (fun _ _ _ h => h) (Or.inr ⟨rfl, rfl⟩) hHeld ?_
                        try simp only [Act.put, List.setIfInBounds_toArray, List.set_cons_zero, List.set_cons_succ]
                        refine' wpAnyH_take (i := 24) (oi := ⟨_, _, _, _, _, _⟩) (v := undef) rfl (by kernel_rfl) (by kernel_rfl) (by kernel_rfl) (fun _ _ _ h => h) (Or.inr ⟨rfl, rfl⟩) hHeld ?_
                        try simp only [Act.put, List.setIfInBounds_toArray, List.set_cons_zero, List.set_cons_succ]
                        refine' wpAnyH_take (i := 25) (oi := ⟨_, _, _, _, _, _⟩) (v := undef) rfl (by kernel_rfl) (by kernel_rfl) (by kernel_rfl) (fun _ _ _ h => h) (Or.inr ⟨rfl, rfl⟩) hHeld ?_
                        try simp only [Act.put, List.setIfInBounds_toArray, List.set_cons_zero, List.set_cons_succ]
                        refine' wpAnyH_take (i := 26) (oi := ⟨_, _, _, _, _, _⟩) (v := undef) rfl (by kernel_rfl) (by kernel_rfl) (by kernel_rfl) (fun _ _ _ h => h) (Or.inr ⟨rfl, rfl⟩) hHeld ?_
                        try simp only [Act.put, List.setIfInBounds_toArray, List.set_cons_zero, List.set_cons_succ]
                        refine' wpAnyH_take (i := 27) (oi := ⟨_, _, _, _, _, _⟩) (v := undef) rfl (by kernel_rfl) (by kernel_rfl) (by kernel_rfl) (fun _ _ _ h => h) (Or.inr ⟨rfl, rfl⟩) hHeld ?_
                        try simp only [Act.put, List.setIfInBounds_toArray, List.set_cons_zero, List.set_cons_succ]
                        refine' wpAnyH_take (i := 28) (oi := ⟨_, _, _, _, _, _⟩) (v := undef) rfl (by kernel_rfl) (by kernel_rfl) (by kernel_rfl) (fun _ _ _ h => h) (Or.inr ⟨rfl, rfl⟩) hHeld ?_
                        try simp only [Act.put, List.setIfInBounds_toArray, List.set_cons_zero, List.set_cons_succ]
                        refine' wpAnyH_take (i := 29) (oi := ⟨_, _, _, _, _, _⟩) (v := undef) rfl (by kernel_rfl) (by kernel_rfl) (by kernel_rfl) (fun _ _ _ h => h) (Or.inr ⟨rfl, rfl⟩) hHeld ?_
                        try simp only [Act.put, List.setIfInBounds_toArray, List.set_cons_zero, List.set_cons_succ]
                        refine' wpAnyH_take (i := 30) (oi := ⟨_, _, _, _, _, _⟩) (v := undef) rfl (by kernel_rfl) (by kernel_rfl) (by kernel_rfl) (fun _ _ _ h => h) (Or.inr ⟨rfl, rfl⟩) hHeld ?_
                        try simp only [Act.put, List.setIfInBounds_toArray, List.set_cons_zero, List.set_cons_succ]
                        refine' wpAnyH_take (i := 31) (oi := ⟨_, _, _, _, _, _⟩) (v := undef) rfl (by kernel_rfl) (by kernel_rfl) (by kernel_rfl) (fun _ _ _ h => h) (Or.inr ⟨rfl, rfl⟩) hHeld ?_
                        try simp only [Act.put, List.setIfInBounds_toArray, List.set_cons_zero, List.set_cons_succ]
                        refine' wpAnyH_take (i := 32) (oi := ⟨_, _, _, _, _, _⟩) (v := undef) rfl (by kernel_rfl) (by kernel_rfl) (by kernel_rfl) (fun _ _ _ h => h) (Or.inr ⟨rfl, rfl⟩) hHeld ?_
                        try simp only [Act.put, List.setIfInBounds_toArray, List.set_cons_zero, List.set_cons_succ]
                        refine' wpAnyH_take (i := 33) (oi := ⟨_, _, _, _, _, _⟩) (v := _) rfl (by kernel_rfl) (by kernel_rfl) (by kernel_rfl) (fun _ _ _ h => h) (Or.inl ⟨rfl, ?_⟩) hHeld ?_
                        rotate_left
                        · (intro W' hW; (try dsimp only at hW); go_simp; (try with_reducible rfl))
                        try simp only [Act.put, List.setIfInBounds_toArray, List.set_cons_zero, List.set_cons_succ]
                        refine wpAnyH_done (by kernel_rfl) ?_ _
                        clear hHeld
                        go_wp2_with fail
                        go_ret2
                        exact ⟨.slice none 0 0, [], 3, rfl, ownPs_nil _ _, .inr (.inr ⟨by rw [HD.out], HNX.out, rfl, rfl⟩), below_drewN hK.out 1⟩
                      · skip
                        have hm1i : decide ((4194304 : Int) < (v1 : Int)) = false := decide_eq_false (by omega)
                        have hm1in : decide (4194304 < v1) = false := decide_eq_false (by omega)
                        have HM1 := hide hm1
                        clear hm1
                        by_cases hm2 : 4194304 < v2
                        · -- N too great
                          have HNX : Hid (∀ ps, ¬ IxOf b ps) := by
                            intro ps hp
                            obtain ⟨q, hq, hqf, b1, b2, k0, k1, k2, kr, kk⟩ := hI.out.rest hS.out HLT.out hp
                            have a1 := bnd_nat b1
                            have a2 := bnd_nat b2
                            have := HV.out.2.2
                            omega
                          have hm2i : decide ((4194304 : Int) < (v2 : Int)) = true := decide_eq_true (by omega)
                          have hm2in : decide (4194304 < v2) = true := decide_eq_true (by omega)
                          clear hm2
                          go_wp2_with fail
                          refine heldT_top (fun W' => W'.cell? ⟨ga, 0, none⟩ = some (.int .u64 (v0 : Int)) ∧ W'.cell? ⟨ga, 1, none⟩ = some (.int .u64 (v1 : Int)) ∧ W'.cell? ⟨ga, 2, none⟩ = some (.int .u64 (v2 : Int)) ∧ W'.cell? ⟨b1, o1 + 4, none⟩ = some (.int .u8 (f4 : Int))) 34 #[false, false, false, false, false, false, false, false, false, false, false, false, false, false, false, false, false, false, false, false, false, false, false, false, false, false, false, false, false, false, false, false, false, false] (by kernel_rfl) (by kernel_rfl) (by kernel_rfl) ?_
                          have hHeld : (fun W' => W'.cell? ⟨ga, 0, none⟩ = some (.int .u64 (v0 : Int)) ∧ W'.cell? ⟨ga, 1, none⟩ = some (.int .u64 (v1 : Int)) ∧ W'.cell? ⟨ga, 2, none⟩ = some (.int .u64 (v2 : Int)) ∧ W'.cell? ⟨b1, o1 + 4, none⟩ = some (.int .u8 (f4 : Int))) wr.drew := ⟨a0, a1, a2, c4⟩
                          refine' wpAnyH_take (i := 0) (oi := ⟨_, _, _, _, _, _⟩) (v := _) rfl (by kernel_rfl) (by kernel_rfl) (by kernel_rfl) (fun _ _ _ h => h) (Or.inl ⟨rfl, ?_⟩) hHeld ?_
                          rotate_left
                          · (intro W' hW; (try dsimp only at hW); go_simp; (try with_reducible rfl))
                          try simp only [Act.put, List.setIfInBounds_toArray, List.set_cons_zero, List.set_cons_succ]
                          refine' wpAnyH_take (i := 1) (oi := ⟨_, _, _, _, _, _⟩) (v := _) rfl (by kernel_rfl) (by kernel_rfl) (by kernel_rfl) (fun _ _ _ h => h) (Or.inl ⟨rfl, ?_⟩) hHeld ?_
                          rotate_left
                          · (intro W' hW; (try dsimp only at hW); go_simp; (try with_reducible rfl))
                          try simp only [Act.put, List.setIfInBounds_toArray, List.set_cons_zero, List.set_cons_succ]
                          refine' wpAnyH_take (i := 2) (oi := ⟨_, _, _, _, _, _⟩) (v := _) rfl (by kernel_rfl) (by kernel_rfl) (by kernel_rfl) (fun _ _ _ h => h) (Or.inl ⟨rfl, ?_⟩) hHeld ?_
                          rotate_left
                          · (intro W' hW; (try dsimp only at hW); go_simp; (try with_reducible rfl))
                          try simp only [Act.put, List.setIfInBounds_toArray, List.set_cons_zero, List.set_cons_succ]
                          refine' wpAnyH_take (i := 3) (oi := ⟨_, _, _, _, _, _⟩) (v := _) rfl (by kernel_rfl) (by kernel_rfl) (by kernel_rfl) (fun _ _ _ h => h) (Or.inl ⟨rfl, ?_⟩) hHeld ?_
                          rotate_left
                          · (intro W' hW; (try dsimp only at hW); go_simp; (try with_reducible rfl))
                          try simp only [Act.put, List.setIfInBounds_toArray, List.set_cons_zero, List.set_cons_succ]
                          refine' wpAnyH_take (i := 4) (oi := ⟨_, _, _, _, _, _⟩) (v := _) rfl (by kernel_rfl) (by kernel_rfl) (by kernel_rfl) (fun _ _ _ h => h) (Or.inl ⟨rfl, ?_⟩) hHeld ?_
                          rotate_left
                          · (intro W' hW; (try dsimp only at hW); go_simp; (try with_reducible rfl))
                          try simp only [Act.put, List.setIfInBounds_toArray, List.set_cons_zero, List.set_cons_succ]
                          refine' wpAnyH_take (i := 5) (oi := ⟨_, _, _, _, _, _⟩) (v := _) rfl (by kernel_rfl) (by kernel_rfl) (by kernel_rfl) (fun _ _ _ h => h) (Or.inl ⟨rfl, ?_⟩) hHeld ?_
                          rotate_left
                          · (intro W' hW; (try dsimp only at hW); go_simp; (try with_reducible rfl))
                          try simp only [Act.put, List.setIfInBounds_toArray, List.set_cons_zero, List.set_cons_succ]
                          refine' wpAnyH_take (i := 6) (oi := ⟨_, _, _, _, _, _⟩) (v := _) rfl (by kernel_rfl) (by kernel_rfl) (by kernel_rfl) (fun _ _ _ h => h) (Or.inl ⟨rfl, ?_⟩) hHeld ?_
                          rotate_left
                          · (intro W' hW; (try dsimp only at hW); obtain ⟨z0, z1, z2, z3⟩ := hW; go_simp; (try with_reducible rfl))
                          try simp only [Act.put, List.setIfInBounds_toArray, List.set_cons_zero, List.set_cons_succ]
                          refine' wpAnyH_take (i := 7) (oi := ⟨_, _, _, _, _, _⟩) (v := _) rfl (by kernel_rfl) (by kernel_rfl) (by kernel_rfl) (fun _ _ _ h => h) (Or.inl ⟨rfl, ?_⟩) hHeld ?_
                          rotate_left
                          · (intro W' hW; (try dsimp only at hW); go_simp; (try with_reducible rfl))
                          try simp only [Act.put, List.setIfInBounds_toArray, List.set_cons_zero, List.set_cons_succ]
                          refine' wpAnyH_take (i := 8) (oi := ⟨_, _, _, _, _, _⟩) (v := _) rfl (by kernel_rfl) (by kernel_rfl) (by kernel_rfl) (fun _ _ _ h => h) (Or.inl ⟨rfl, ?_⟩) hHeld ?_
                          rotate_left
                          · (intro W' hW; (try dsimp only at hW); go_simp; (try with_reducible rfl))
                          try simp only [Act.put, List.setIfInBounds_toArray, List.set_cons_zero, List.set_cons_succ]
                          refine' wpAnyH_take (i := 9) (oi := ⟨_, _, _, _, _, _⟩) (v := _) rfl (by kernel_rfl) (by kernel_rfl) (by kernel_rfl) (fun _ _ _ h => h) (Or.inl ⟨rfl, ?_⟩) hHeld ?_
                          rotate_left
                          · (intro W' hW; (try dsimp only at hW); go_simp; (try with_reducible rfl))
                          try simp only [Act.put, List.setIfInBounds_toArray, List.set_cons_zero, List.set_cons_succ]
                          refine' wpAnyH_take (i := 10) (oi := ⟨_, _, _, _, _, _⟩) (v := _) rfl (by kernel_rfl) (by kernel_rfl) (by kernel_rfl) (fun _ _ _ h => h) (Or.inl ⟨rfl, ?_⟩) hHeld ?_
                          rotate_left
                          · (intro W' hW; (try dsimp only at hW); go_simp; (try with_reducible rfl))
                          try simp only [Act.put, List.setIfInBounds_toArray, List.set_cons_zero, List.set_cons_succ]
                          refine' wpAnyH_take (i := 11) (oi := ⟨_, _, _, _, _, _⟩) (v := _) rfl (by kernel_rfl) (by kernel_rfl) (by kernel_rfl) (fun _ _ _ h => h) (Or.inl ⟨rfl, ?_⟩) hHeld ?_
                          rotate_left
                          · (intro W' hW; (try dsimp only at hW); obtain ⟨z0, z1, z2, z3⟩ := hW; go_simp; (try with_reducible rfl))
                          try simp only [Act.put, List.setIfInBounds_toArray, List.set_cons_zero, List.set_cons_succ]
                          refine' wpAnyH_take (i := 12) (oi := ⟨_, _, _, _, _, _⟩) (v := _) rfl (by kernel_rfl) (by kernel_rfl) (by kernel_rfl) (fun _ _ _ h => h) (Or.inl ⟨rfl, ?_⟩) hHeld ?_
                          rotate_left
                          · (intro W' hW; (try dsimp only at hW); go_simp; (try with_reducible rfl))
                          try simp only [Act.put, List.setIfInBounds_toArray, List.set_cons_zero, List.set_cons_succ]
                          refine' wpAnyH_take (i := 13) (oi := ⟨_, _, _, _, _, _⟩) (v := _) rfl (by kernel_rfl) (by kernel_rfl) (by kernel_rfl) (fun _ _ _ h => h) (Or.inl ⟨rfl, ?_⟩) hHeld ?_
                          rotate_left
                          · (intro W' hW; (try dsimp only at hW); go_simp; (try with_reducible rfl))
                          try simp only [Act.put, List.setIfInBounds_toArray, List.set_cons_zero, List.set_cons_succ]
                          refine' wpAnyH_take (i := 14) (oi := ⟨_, _, _, _, _, _⟩) (v := _) rfl (by kernel_rfl) (by kernel_rfl) (by kernel_rfl) (fun _ _ _ h => h) (Or.inl ⟨rfl, ?_⟩) hHeld ?_
                          rotate_left
                          · (intro W' hW; (try dsimp only at hW); go_simp; (try with_reducible rfl))
                          try simp only [Act.put, List.setIfInBounds_toArray, List.set_cons_zero, List.set_cons_succ]
                          refine' wpAnyH_take (i := 15) (oi := ⟨_, _, _, _, _, _⟩) (v := _) rfl (by kernel_rfl) (by kernel_rfl) (by kernel_rfl) (fun _ _ _ h => h) (Or.inl ⟨rfl, ?_⟩) hHeld ?_
                          rotate_left
                          · (intro W' hW; (try dsimp only at hW); go_simp; (try with_reducible rfl))
                          try simp only [Act.put, List.setIfInBounds_toArray, List.set_cons_zero, List.set_cons_succ]
                          refine' wpAnyH_take (i := 16) (oi := ⟨_, _, _, _, _, _⟩) (v := _) rfl (by kernel_rfl) (by kernel_rfl) (by kernel_rfl) (fun _ _ _ h => h) (Or.inl ⟨rfl, ?_⟩) hHeld ?_
                          rotate_left
                          · (intro W' hW; (try dsimp only at hW); obtain ⟨z0, z1, z2, z3⟩ := hW; go_simp; (try with_reducible rfl))
                          try simp only [Act.put, List.setIfInBounds_toArray, List.set_cons_zero, List.set_cons_succ]
                          refine' wpAnyH_take (i := 17) (oi := ⟨_, _, _, _, _, _⟩) (v := _) rfl (by kernel_rfl) (by kernel_rfl) (by kernel_rfl) (fun _ _ _ h => h) (Or.inl ⟨rfl, ?_⟩) hHeld ?_
                          rotate_left
                          · (intro W' hW; (try dsimp only at hW); go_simp; (try with_reducible rfl))
                          try simp only [Act.put, List.setIfInBounds_toArray, List.set_cons_zero, List.set_cons_succ]
                          refine' wpAnyH_take (i := 18) (oi := ⟨_, _, _, _, _, _⟩) (v := _) rfl (by kernel_rfl) (by kernel_rfl) (by kernel_rfl) (fun _ _ _ h => h) (Or.inl ⟨rfl, ?_⟩) hHeld ?_
                          rotate_left
                          · (intro W' hW; (try dsimp only at hW); go_simp; (try with_reducible rfl))
                          try simp only [Act.put, List.setIfInBounds_toArray, List.set_cons_zero, List.set_cons_succ]
                          refine' wpAnyH_take (i := 19) (oi := ⟨_, _, _, _, _, _⟩) (v := _) rfl (by kernel_rfl) (by kernel_rfl) (by kernel_rfl) (fun _ _ _ h => h) (Or.inl ⟨rfl, ?_⟩) hHeld ?_
                          rotate_left
                          · (intro W' hW; (try dsimp only at hW); go_simp; (try with_reducible rfl))
                          try simp only [Act.put, List.setIfInBounds_toArray, List.set_cons_zero, List.set_cons_succ]
                          refine' wpAnyH_take (i := 20) (oi := ⟨_, _, _, _, _, _⟩) (v := undef) rfl (by kernel_rfl) (by kernel_rfl) (by kernel_rfl) (fun _ _ _ h => h) (Or.inr ⟨rfl, rfl⟩) hHeld ?_
                          try simp only [Act.put, List.setIfInBounds_toArray, List.set_cons_zero, List.set_cons_succ]
                          refine' wpAnyH_take (i := 21) (oi := ⟨_, _, _, _, _, _⟩) (v := undef) rfl (by kernel_rfl) (by kernel_rfl) (by kernel_rfl) (fun _ _ _ h => h) (Or.inr ⟨rfl, rfl⟩) hHeld ?_
                          try simp only [Act.put, List.setIfInBounds_toArray, List.set_cons_zero, List.set_cons_succ]
                          refine' wpAnyH_take (i := 22) (oi := ⟨_, _, _, _, _, _⟩) (v := undef) rfl (by kernel_rfl) (by kernel_rfl) (by kernel_rfl) (fun _ _ _ h => h) (Or.inr ⟨rfl, rfl⟩) hHeld ?_
                          try simp only [Act.put, List.setIfInBounds_toArray, List.set_cons_zero, List.set_cons_succ]
                          refine' wpAnyH_take (i := 23) (oi := ⟨_, _, _, _, _, _⟩) (v := undef) rfl (by kernel_rfl) (by kernel_rfl) (by kernel_rfl) (fun _ _ _ h => h) (Or.inr ⟨rfl, rfl⟩) hHeld ?_
                          try simp only [Act.put, List.setIfInBounds_toArray, List.set_cons_zero, List.set_cons_succ]
                          refine' wpAnyH_take (i := 24) (oi := ⟨_, _, _, _, _, _⟩) (v := undef) rfl (by kernel_rfl) (by kernel_rfl) (by kernel_rfl) (fun _ _ _ h => h) (Or.inr ⟨rfl, rfl⟩) hHeld ?_
                          try simp only [Act.put, List.setIfInBounds_toArray, List.set_cons_zero, List.set_cons_succ]
                          refine' wpAnyH_take (i := 25) (oi := ⟨_, _, _, _, _, _⟩) (v := undef) rfl (by kernel_rfl) (by kernel_rfl) (by kernel_rfl) (fun _ _ _ h => h) (Or.inr ⟨rfl, rfl⟩) hHeld ?_
                          try simp only [Act.put, List.setIfInBounds_toArray, List.set_cons_zero, List.set_cons_succ]
                          refine' wpAnyH_take (i := 26) (oi := ⟨_, _, _, _, _, _⟩) (v := undef) rfl (by kernel_rfl) (by kernel_rfl) (by kernel_rfl) (fun _ _ _ h => h) (Or.inr ⟨rfl, rfl⟩) hHeld ?_
                          try simp only [Act.put, List.setIfInBounds_toArray, List.set_cons_zero, List.set_cons_succ]
                          refine' wpAnyH_take (i := 27) (oi := ⟨_, _, _, _, _, _⟩) (v := undef) rfl (by kernel_rfl) (by kernel_rfl) (by kernel_rfl) (fun _ _ _ h => h) (Or.inr ⟨rfl, rfl⟩) hHeld ?_
                          try simp only [Act.put, List.setIfInBounds_toArray, List.set_cons_zero, List.set_cons_succ]
                          refine' wpAnyH_take (i := 28) (oi := ⟨_, _, _, _, _, _⟩) (v := undef) rfl (by kernel_rfl) (by kernel_rfl) (by kernel_rfl) (fun _ _ _ h => h) (Or.inr ⟨rfl, rfl⟩) hHeld ?_
                          try simp only [Act.put, List.setIfInBounds_toArray, List.set_cons_zero, List.set_cons_succ]
                          refine' wpAnyH_take (i := 29) (oi := ⟨_, _, _, _, _, _⟩) (v := undef) rfl (by kernel_rfl) (by kernel_rfl) (by kernel_rfl) (fun _ _ _ h => h) (Or.inr ⟨rfl, rfl⟩) hHeld ?_
                          try simp only [Act.put, List.setIfInBounds_toArray, List.set_cons_zero, List.set_cons_succ]
                          refine' wpAnyH_take (i := 30) (oi := ⟨_, _, _, _, _, _⟩) (v := undef) rfl (by kernel_rfl) (by kernel_rfl) (by kernel_rfl) (fun _ _ _ h => h) (Or.inr ⟨rfl, rfl⟩) hHeld ?_
                          try simp only [Act.put, List.setIfInBounds_toArray, List.set_cons_zero, List.set_cons_succ]
                          refine' wpAnyH_take (i := 31) (oi := ⟨_, _, _, _, _, _⟩) (v := undef) rfl (by kernel_rfl) (by kernel_rfl) (by kernel_rfl) (fun _ _ _ h => h) (Or.inr ⟨rfl, rfl⟩) hHeld ?_
                          try simp only [Act.put, List.setIfInBounds_toArray, List.set_cons_zero, List.set_cons_succ]
                          refine' wpAnyH_take (i := 32) (oi := ⟨_, _, _, _, _, _⟩) (v := undef) rfl (by kernel_rfl) (by kernel_rfl) (by kernel_rfl) (fun _ _ _ h => h) (Or.inr ⟨rfl, rfl⟩) hHeld ?_
                          try simp only [Act.put, List.setIfInBounds_toArray, List.set_cons_zero, List.set_cons_succ]
                          refine' wpAnyH_take (i := 33) (oi := ⟨_, _, _, _, _, _⟩) (v := _) rfl (by kernel_rfl) (by kernel_rfl) (by kernel_rfl) (fun _ _ _ h => h) (Or.inl ⟨rfl, ?_⟩) hHeld ?_
                          rotate_left
                          · (intro W' hW; (try dsimp only at hW); go_simp; (try with_reducible rfl))
                          try simp only [Act.put, List.setIfInBounds_toArray, List.set_cons_zero, List.set_cons_succ]
                          refine wpAnyH_done (by kernel_rfl) ?_ _
                          clear hHeld
                          go_wp2_with fail
                          go_ret2
                          exact ⟨.slice none 0 0, [], 3, rfl, ownPs_nil _ _, .inr (.inr ⟨by rw [HD.out], HNX.out, rfl, rfl⟩), below_drewN hK.out 1⟩
                        · skip
                          have hm2i : decide ((4194304 : Int) < (v2 : Int)) = false := decide_eq_false (by omega)
                          have hm2in : decide (4194304 < v2) = false := decide_eq_false (by omega)
                          have HM2 := hide hm2
                          clear hm2
                          by_cases hi0 : i = 0
                          · -- the first place
                            have hi0i : decide ((0 : Int) < (i : Int)) = false := decide_eq_false (by omega)
                            have hi0n : decide (0 < i) = false := decide_eq_false (by omega)
                            have HI0 := hide hi0
                            clear hi0
                            go_wp2_with fail
                            refine heldT_top (fun W' => W'.cell? ⟨ga, 0, none⟩ = some (.int .u64 (v0 : Int)) ∧ W'.cell? ⟨ga, 1, none⟩ = some (.int .u64 (v1 : Int)) ∧ W'.cell? ⟨ga, 2, none⟩ = some (.int .u64 (v2 : Int)) ∧ W'.cell? ⟨b1, o1 + 4, none⟩ = some (.int .u8 (f4 : Int))) 34 #[false, false, false, false, false, false, false, false, false, false, false, false, false, false, false, false, false, false, false, false, false, false, false, false, false, false, false, false, false, false, false, false, false, false] (by kernel_rfl) (by kernel_rfl) (by kernel_rfl) ?_
                            have hHeld : (fun W' => W'.cell? ⟨ga, 0, none⟩ = some (.int .u64 (v0 : Int)) ∧ W'.cell? ⟨ga, 1, none⟩ = some (.int .u64 (v1 : Int)) ∧ W'.cell? ⟨ga, 2, none⟩ = some (.int .u64 (v2 : Int)) ∧ W'.cell? ⟨b1, o1 + 4, none⟩ = some (.int .u8 (f4 : Int))) wr.drew := ⟨a0, a1, a2, c4⟩
                            refine' wpAnyH_take (i := 0) (oi := ⟨_, _, _, _, _, _⟩) (v := _) rfl (by kernel_rfl) (by kernel_rfl) (by kernel_rfl) (fun _ _ _ h => h) (Or.inl ⟨rfl, ?_⟩) hHeld ?_
                            rotate_left
                            · (intro W' hW; (try dsimp only at hW); go_simp; (try with_reducible rfl))
                            try simp only [Act.put, List.setIfInBounds_toArray, List.set_cons_zero, List.set_cons_succ]
                            refine' wpAnyH_take (i := 1) (oi := ⟨_, _, _, _, _, _⟩) (v := _) rfl (by kernel_rfl) (by kernel_rfl) (by kernel_rfl) (fun _ _ _ h => h) (Or.inl ⟨rfl, ?_⟩) hHeld ?_
                            rotate_left
                            · (intro W' hW; (try dsimp only at hW); go_simp; (try with_reducible rfl))
                            try simp only [Act.put, List.setIfInBounds_toArray, List.set_cons_zero, List.set_cons_succ]
                            refine' wpAnyH_take (i := 2) (oi := ⟨_, _, _, _, _, _⟩) (v := _) rfl (by kernel_rfl) (by kernel_rfl) (by kernel_rfl) (fun _ _ _ h => h) (Or.inl ⟨rfl, ?_⟩) hHeld ?_
                            rotate_left
                            · (intro W' hW; (try dsimp only at hW); go_simp; (try with_reducible rfl))
                            try simp only [Act.put, List.setIfInBounds_toArray, List.set_cons_zero, List.set_cons_succ]
                            refine' wpAnyH_take (i := 3) (oi := ⟨_, _, _, _, _, _⟩) (v := _) rfl (by kernel_rfl) (by kernel_rfl) (by kernel_rfl) (fun _ _ _ h => h) (Or.inl ⟨rfl, ?_⟩) hHeld ?_
                            rotate_left
                            · (intro W' hW; (try dsimp only at hW); go_simp; (try with_reducible rfl))
                            try simp only [Act.put, List.setIfInBounds_toArray, List.set_cons_zero, List.set_cons_succ]
                            refine' wpAnyH_take (i := 4) (oi := ⟨_, _, _, _, _, _⟩) (v := _) rfl (by kernel_rfl) (by kernel_rfl) (by kernel_rfl) (fun _ _ _ h => h) (Or.inl ⟨rfl, ?_⟩) hHeld ?_
                            rotate_left
                            · (intro W' hW; (try dsimp only at hW); go_simp; (try with_reducible rfl))
                            try simp only [Act.put, List.setIfInBounds_toArray, List.set_cons_zero, List.set_cons_succ]
                            refine' wpAnyH_take (i := 5) (oi := ⟨_, _, _, _, _, _⟩) (v := _) rfl (by kernel_rfl) (by kernel_rfl) (by kernel_rfl) (fun _ _ _ h => h) (Or.inl ⟨rfl, ?_⟩) hHeld ?_
                            rotate_left
                            · (intro W' hW; (try dsimp only at hW); go_simp; (try with_reducible rfl))
                            try simp only [Act.put, List.setIfInBounds_toArray, List.set_cons_zero, List.set_cons_succ]
                            refine' wpAnyH_take (i := 6) (oi := ⟨_, _, _, _, _, _⟩) (v := _) rfl (by kernel_rfl) (by kernel_rfl) (by kernel_rfl) (fun _ _ _ h => h) (Or.inl ⟨rfl, ?_⟩) hHeld ?_
                            rotate_left
                            · (intro W' hW; (try dsimp only at hW); obtain ⟨z0, z1, z2, z3⟩ := hW; go_simp; (try with_reducible rfl))
                            try simp only [Act.put, List.setIfInBounds_toArray, List.set_cons_zero, List.set_cons_succ]
                            refine' wpAnyH_take (i := 7) (oi := ⟨_, _, _, _, _, _⟩) (v := _) rfl (by kernel_rfl) (by kernel_rfl) (by kernel_rfl) (fun _ _ _ h => h) (Or.inl ⟨rfl, ?_⟩) hHeld ?_
                            rotate_left
                            · (intro W' hW; (try dsimp only at hW); go_simp; (try with_reducible rfl))
                            try simp only [Act.put, List.setIfInBounds_toArray, List.set_cons_zero, List.set_cons_succ]
                            refine' wpAnyH_take (i := 8) (oi := ⟨_, _, _, _, _, _⟩) (v := _) rfl (by kernel_rfl) (by kernel_rfl) (by kernel_rfl) (fun _ _ _ h => h) (Or.inl ⟨rfl, ?_⟩) hHeld ?_
                            rotate_left
                            · (intro W' hW; (try dsimp only at hW); go_simp; (try with_reducible rfl))
                            try simp only [Act.put, List.setIfInBounds_toArray, List.set_cons_zero, List.set_cons_succ]
                            refine' wpAnyH_take (i := 9) (oi := ⟨_, _, _, _, _, _⟩) (v := _) rfl (by kernel_rfl) (by kernel_rfl) (by kernel_rfl) (fun _ _ _ h => h) (Or.inl ⟨rfl, ?_⟩) hHeld ?_
                            rotate_left
                            · (intro W' hW; (try dsimp only at hW); go_simp; (try with_reducible rfl))
                            try simp only [Act.put, List.setIfInBounds_toArray, List.set_cons_zero, List.set_cons_succ]
                            refine' wpAnyH_take (i := 10) (oi := ⟨_, _, _, _, _, _⟩) (v := _) rfl (by kernel_rfl) (by kernel_rfl) (by kernel_rfl) (fun _ _ _ h => h) (Or.inl ⟨rfl, ?_⟩) hHeld ?_
                            rotate_left
                            · (intro W' hW; (try dsimp only at hW); go_simp; (try with_reducible rfl))
                            try simp only [Act.put, List.setIfInBounds_toArray, List.set_cons_zero, List.set_cons_succ]
                            refine' wpAnyH_take (i := 11) (oi := ⟨_, _, _, _, _, _⟩) (v := _) rfl (by kernel_rfl) (by kernel_rfl) (by kernel_rfl) (fun _ _ _ h => h) (Or.inl ⟨rfl, ?_⟩) hHeld ?_
                            rotate_left
                            · (intro W' hW; (try dsimp only at hW); obtain ⟨z0, z1, z2, z3⟩ := hW; go_simp; (try with_reducible rfl))
                            try simp only [Act.put, List.setIfInBounds_toArray, List.set_cons_zero, List.set_cons_succ]
                            refine' wpAnyH_take (i := 12) (oi := ⟨_, _, _, _, _, _⟩) (v := _) rfl (by kernel_rfl) (by kernel_rfl) (by kernel_rfl) (fun _ _ _ h => h) (Or.inl ⟨rfl, ?_⟩) hHeld ?_
                            rotate_left
                            · (intro W' hW; (try dsimp only at hW); go_simp; (try with_reducible rfl))
                            try simp only [Act.put, List.setIfInBounds_toArray, List.set_cons_zero, List.set_cons_succ]
                            refine' wpAnyH_take (i := 13) (oi := ⟨_, _, _, _, _, _⟩) (v := _) rfl (by kernel_rfl) (by kernel_rfl) (by kernel_rfl) (fun _ _ _ h => h) (Or.inl ⟨rfl, ?_⟩) hHeld ?_
                            rotate_left
                            · (intro W' hW; (try dsimp only at hW); go_simp; (try with_reducible rfl))
                            try simp only [Act.put, List.setIfInBounds_toArray, List.set_cons_zero, List.set_cons_succ]
                            refine' wpAnyH_take (i := 14) (oi := ⟨_, _, _, _, _, _⟩) (v := _) rfl (by kernel_rfl) (by kernel_rfl) (by kernel_rfl) (fun _ _ _ h => h) (Or.inl ⟨rfl, ?_⟩) hHeld ?_
                            rotate_left
                            · (intro W' hW; (try dsimp only at hW); go_simp; (try with_reducible rfl))
                            try simp only [Act.put, List.setIfInBounds_toArray, List.set_cons_zero, List.set_cons_succ]
                            refine' wpAnyH_take (i := 15) (oi := ⟨_, _, _, _, _, _⟩) (v := _) rfl (by kernel_rfl) (by kernel_rfl) (by kernel_rfl) (fun _ _ _ h => h) (Or.inl ⟨rfl, ?_⟩) hHeld ?_
                            rotate_left
                            · (intro W' hW; (try dsimp only at hW); go_simp; (try with_reducible rfl))
                            try simp only [Act.put, List.setIfInBounds_toArray, List.set_cons_zero, List.set_cons_succ]
                            refine' wpAnyH_take (i := 16) (oi := ⟨_, _, _, _, _, _⟩) (v := _) rfl (by kernel_rfl) (by kernel_rfl) (by kernel_rfl) (fun _ _ _ h => h) (Or.inl ⟨rfl, ?_⟩) hHeld ?_
                            rotate_left
                            · (intro W' hW; (try dsimp only at hW); obtain ⟨z0, z1, z2, z3⟩ := hW; go_simp; (try with_reducible rfl))
                            try simp only [Act.put, List.setIfInBounds_toArray, List.set_cons_zero, List.set_cons_succ]
                            refine' wpAnyH_take (i := 17) (oi := ⟨_, _, _, _, _, _⟩) (v := _) rfl (by kernel_rfl) (by kernel_rfl) (by kernel_rfl) (fun _ _ _ h => h) (Or.inl ⟨rfl, ?_⟩) hHeld ?_
                            rotate_left
                            · (intro W' hW; (try dsimp only at hW); go_simp; (try with_reducible rfl))
                            try simp only [Act.put, List.setIfInBounds_toArray, List.set_cons_zero, List.set_cons_succ]
                            refine' wpAnyH_take (i := 18) (oi := ⟨_, _, _, _, _, _⟩) (v := _) rfl (by kernel_rfl) (by kernel_rfl) (by kernel_rfl) (fun _ _ _ h => h) (Or.inl ⟨rfl, ?_⟩) hHeld ?_
                            rotate_left
                            · (intro W' hW; (try dsimp only at hW); go_simp; (try with_reducible rfl))
                            try simp only [Act.put, List.setIfInBounds_toArray, List.set_cons_zero, List.set_cons_succ]
                            refine' wpAnyH_take (i := 19) (oi := ⟨_, _, _, _, _, _⟩) (v := _) rfl (by kernel_rfl) (by kernel_rfl) (by kernel_rfl) (fun _ _ _ h => h) (Or.inl ⟨rfl, ?_⟩) hHeld ?_
                            rotate_left
                            · (intro W' hW; (try dsimp only at hW); go_simp; (try with_reducible rfl))
                            try simp only [Act.put, List.setIfInBounds_toArray, List.set_cons_zero, List.set_cons_succ]
                            refine' wpAnyH_take (i := 20) (oi := ⟨_, _, _, _, _, _⟩) (v := _) rfl (by kernel_rfl) (by kernel_rfl) (by kernel_rfl) (fun _ _ _ h => h) (Or.inl ⟨rfl, ?_⟩) hHeld ?_
                            rotate_left
                            · (intro W' hW; (try dsimp only at hW); go_simp; (try with_reducible rfl))
                            try simp only [Act.put, List.setIfInBounds_toArray, List.set_cons_zero, List.set_cons_succ]
                            refine' wpAnyH_take (i := 21) (oi := ⟨_, _, _, _, _, _⟩) (v := _) rfl (by kernel_rfl) (by kernel_rfl) (by kernel_rfl) (fun _ _ _ h => h) (Or.inl ⟨rfl, ?_⟩) hHeld ?_
                            rotate_left
                            · (intro W' hW; (try dsimp only at hW); go_simp; (try with_reducible rfl))
                            try simp only [Act.put, List.setIfInBounds_toArray, List.set_cons_zero, List.set_cons_succ]
                            refine' wpAnyH_take (i := 22) (oi := ⟨_, _, _, _, _, _⟩) (v := _) rfl (by kernel_rfl) (by kernel_rfl) (by kernel_rfl) (fun _ _ _ h => h) (Or.inl ⟨rfl, ?_⟩) hHeld ?_
                            rotate_left
                            · (intro W' hW; (try dsimp only at hW); go_simp; (try with_reducible rfl))
                            try simp only [Act.put, List.setIfInBounds_toArray, List.set_cons_zero, List.set_cons_succ]
                            refine' wpAnyH_take (i := 23) (oi := ⟨_, _, _, _, _, _⟩) (v := undef) rfl (by kernel_rfl) (by kernel_rfl) (by kernel_rfl) (fun _ _ _ h => h) (Or.inr ⟨rfl, rfl⟩) hHeld ?_
                            try simp only [Act.put, List.setIfInBounds_toArray, List.set_cons_zero, List.set_cons_succ]
                            refine' wpAnyH_take (i := 24) (oi := ⟨_, _, _, _, _, _⟩) (v := undef) rfl (by kernel_rfl) (by kernel_rfl) (by kernel_rfl) (fun _ _ _ h => h) (Or.inr ⟨rfl, rfl⟩) hHeld ?_
                            try simp only [Act.put, List.setIfInBounds_toArray, List.set_cons_zero, List.set_cons_succ]
                            refine' wpAnyH_take (i := 25) (oi := ⟨_, _, _, _, _, _⟩) (v := undef) rfl (by kernel_rfl) (by kernel_rfl) (by kernel_rfl) (fun _ _ _ h => h) (Or.inr ⟨rfl, rfl⟩) hHeld ?_
                            try simp only [Act.put, List.setIfInBounds_toArray, List.set_cons_zero, List.set_cons_succ]
                            refine' wpAnyH_take (i := 26) (oi := ⟨_, _, _, _, _, _⟩) (v := undef) rfl (by kernel_rfl) (by kernel_rfl) (by kernel_rfl) (fun _ _ _ h => h) (Or.inr ⟨rfl, rfl⟩) hHeld ?_
                            try simp only [Act.put, List.setIfInBounds_toArray, List.set_cons_zero, List.set_cons_succ]
                            refine' wpAnyH_take (i := 27) (oi := ⟨_, _, _, _, _, _⟩) (v := undef) rfl (by kernel_rfl) (by kernel_rfl) (by kernel_rfl) (fun _ _ _ h => h) (Or.inr ⟨rfl, rfl⟩) hHeld ?_
                            try simp only [Act.put, List.setIfInBounds_toArray, List.set_cons_zero, List.set_cons_succ]
                            refine' wpAnyH_take (i := 28) (oi := ⟨_, _, _, _, _, _⟩) (v := undef) rfl (by kernel_rfl) (by kernel_rfl) (by kernel_rfl) (fun _ _ _ h => h) (Or.inr ⟨rfl, rfl⟩) hHeld ?_
                            try simp only [Act.put, List.setIfInBounds_toArray, List.set_cons_zero, List.set_cons_succ]
                            refine' wpAnyH_take (i := 29) (oi := ⟨_, _, _, _, _, _⟩) (v := undef) rfl (by kernel_rfl) (by kernel_rfl) (by kernel_rfl) (fun _ _ _ h => h) (Or.inr ⟨rfl, rfl⟩) hHeld ?_
                            try simp only [Act.put, List.setIfInBounds_toArray, List.set_cons_zero, List.set_cons_succ]
                            refine' wpAnyH_take (i := 30) (oi := ⟨_, _, _, _, _, _⟩) (v := undef) rfl (by kernel_rfl) (by kernel_rfl) (by kernel_rfl) (fun _ _ _ h => h) (Or.inr ⟨rfl, rfl⟩) hHeld ?_
                            try simp only [Act.put, List.setIfInBounds_toArray, List.set_cons_zero, List.set_cons_succ]
                            refine' wpAnyH_take (i := 31) (oi := ⟨_, _, _, _, _, _⟩) (v := undef) rfl (by kernel_rfl) (by kernel_rfl) (by kernel_rfl) (fun _ _ _ h => h) (Or.inr ⟨rfl, rfl⟩) hHeld ?_
                            try simp only [Act.put, List.setIfInBounds_toArray, List.set_cons_zero, List.set_cons_succ]
                            refine' wpAnyH_take (i := 32) (oi := ⟨_, _, _, _, _, _⟩) (v := _) rfl (by kernel_rfl) (by kernel_rfl) (by kernel_rfl) (fun _ _ _ h => h) (Or.inl ⟨rfl, ?_⟩) hHeld ?_
                            rotate_left
                            · (intro W' hW; (try dsimp only at hW); go_simp; (try with_reducible rfl))
                            try simp only [Act.put, List.setIfInBounds_toArray, List.set_cons_zero, List.set_cons_succ]
                            refine' wpAnyH_take (i := 33) (oi := ⟨_, _, _, _, _, _⟩) (v := _) rfl (by kernel_rfl) (by kernel_rfl) (by kernel_rfl) (fun _ _ _ h => h) (Or.inl ⟨rfl, ?_⟩) hHeld ?_
                            rotate_left
                            · (intro W' hW; (try dsimp only at hW); go_simp; (try with_reducible rfl))
                            try simp only [Act.put, List.setIfInBounds_toArray, List.set_cons_zero, List.set_cons_succ]
                            refine wpAnyH_done (by kernel_rfl) ?_ _
                            clear hHeld
                            have hfl4 : f4 ≤ 1 := by have := HF1.out; omega
                            have OD := hide (hI.out.done hS.out HLT.out (by rw [HLN.out]; have := H5.out; omega) (by rw [← HF4.out]; exact hfl4) (by rw [← HV.out.2.1]; have := HM1.out; omega) (by rw [← HV.out.2.2]; have := HM2.out; omega) (fun h => absurd h (by have := HI0.out; omega)))
                            obtain ⟨ck, hck⟩ : ∃ ck, ck = val32 r' := ⟨_, rfl⟩
                            obtain ⟨fl, hfl⟩ : ∃ fl, fl = ((f4 : Int) == 1) := ⟨_, rfl⟩
                            have HPC : Hid (plC (newP vs r') = [.int .u64 (v0 : Int), .int .i64 (v1 : Int), .int .i64 (v2 : Int), .int .u32 (ck : Int), .bool fl]) := by
                              unfold Hid plC newP
                              rw [← HV.out.1, ← HV.out.2.1, ← HV.out.2.2, ← HF4.out, ← hck, ← hfl]
                            have hfl2 : ((f4 : Int) == 1) = fl := hfl.symm
                            have HCK := hide hck
                            have hw1 : IntKind.i64.wrap (v1 : Int) = (v1 : Int) := by rw [IntKind.wrap_i64]; have := HM1.out; omega
                            have hw2 : IntKind.i64.wrap (v2 : Int) = (v2 : Int) := by rw [IntKind.wrap_i64]; have := HM2.out; omega
                            have F6 : Hid (FrS wr.drew base (some ⟨b1, o1, none⟩) n'' c'' r') := hide (hF.out.keep (below_drewN (Below.refl wr.heap.size wr) 1))
                            have O6 : Hid (OwnPs wr.drew base (.slice AL i cL) L) := hide (ownPs_turn hO.out (Turn.of_below (fun _ => False) (below_drewN (Below.refl wr.heap.size wr) 1)) (fun _ _ e => e))
                            have B6 : Hid (Blk wr.drew 0 62 ga [.int .u64 (v0 : Int), .int .u64 (v1 : Int), .int .u64 (v2 : Int)]) := hide (hB.drewN 1)
                            have K6 : Hid (Below w.heap.size w wr.drew) := hide (below_drewN hK.out 1)
                            have Z6 : Hid (base ≤ wr.drew.heap.size) := hide hZ.out
                            have y0 : wr.drew.drew.cell? ⟨ga, 0, none⟩ = some (.int .u64 (v0 : Int)) := a0
                            have y1 : wr.drew.drew.cell? ⟨ga, 1, none⟩ = some (.int .u64 (v1 : Int)) := a1
                            have y2 : wr.drew.drew.cell? ⟨ga, 2, none⟩ = some (.int .u64 (v2 : Int)) := a2
                            have y4 : wr.drew.drew.cell? ⟨b1, o1 + 4, none⟩ = some (.int .u8 (f4 : Int)) := c4
                            clear hfl hck hfl4 a0 a1 a2 c4
                            generalize wr.drew = V at *
                            go_wp2_with fail
                            refine heldT_top (fun W' => W'.cell? ⟨ga, 0, none⟩ = some (.int .u64 (v0 : Int)) ∧ W'.cell? ⟨ga, 1, none⟩ = some (.int .u64 (v1 : Int)) ∧ W'.cell? ⟨ga, 2, none⟩ = some (.int .u64 (v2 : Int)) ∧ W'.cell? ⟨b1, o1 + 4, none⟩ = some (.int .u8 (f4 : Int))) 19 #[false, false, false, false, false, false, false, false, false, false, false, false, false, false, false, false, false, false, false] (by kernel_rfl) (by kernel_rfl) (by kernel_rfl) ?_
                            have hHeld : (fun W' => W'.cell? ⟨ga, 0, none⟩ = some (.int .u64 (v0 : Int)) ∧ W'.cell? ⟨ga, 1, none⟩ = some (.int .u64 (v1 : Int)) ∧ W'.cell? ⟨ga, 2, none⟩ = some (.int .u64 (v2 : Int)) ∧ W'.cell? ⟨b1, o1 + 4, none⟩ = some (.int .u8 (f4 : Int))) V.drew := ⟨y0, y1, y2, y4⟩
                            refine' wpAnyH_take (i := 0) (oi := ⟨_, _, _, _, _, _⟩) (v := _) rfl (by kernel_rfl) (by kernel_rfl) (by kernel_rfl) (fun _ _ _ h => h) (Or.inl ⟨rfl, ?_⟩) hHeld ?_
                            rotate_left
                            · (intro W' hW; (try dsimp only at hW); go_simp; (try with_reducible rfl))
                            try simp only [Act.put, List.setIfInBounds_toArray, List.set_cons_zero, List.set_cons_succ]
                            refine' wpAnyH_take (i := 1) (oi := ⟨_, _, _, _, _, _⟩) (v := _) rfl (by kernel_rfl) (by kernel_rfl) (by kernel_rfl) (fun _ _ _ h => h) (Or.inl ⟨rfl, ?_⟩) hHeld ?_
                            rotate_left
                            · (intro W' hW; (try dsimp only at hW); go_simp; (try with_reducible rfl))
                            try simp only [Act.put, List.setIfInBounds_toArray, List.set_cons_zero, List.set_cons_succ]
                            refine' wpAnyH_take (i := 2) (oi := ⟨_, _, _, _, _, _⟩) (v := _) rfl (by kernel_rfl) (by kernel_rfl) (by kernel_rfl) (fun _ _ _ h => h) (Or.inl ⟨rfl, ?_⟩) hHeld ?_
                            rotate_left
                            · (intro W' hW; (try dsimp only at hW); obtain ⟨z0, z1, z2, z3⟩ := hW; go_simp; (try with_reducible rfl))
                            try simp only [Act.put, List.setIfInBounds_toArray, List.set_cons_zero, List.set_cons_succ]
                            refine' wpAnyH_take (i := 3) (oi := ⟨_, _, _, _, _, _⟩) (v := _) rfl (by kernel_rfl) (by kernel_rfl) (by kernel_rfl) (fun _ _ _ h => h) (Or.inl ⟨rfl, ?_⟩) hHeld ?_
                            rotate_left
                            · (intro W' hW; (try dsimp only at hW); go_simp; (try with_reducible rfl))
                            try simp only [Act.put, List.setIfInBounds_toArray, List.set_cons_zero, List.set_cons_succ]
                            refine' wpAnyH_take (i := 4) (oi := ⟨_, _, _, _, _, _⟩) (v := _) rfl (by kernel_rfl) (by kernel_rfl) (by kernel_rfl) (fun _ _ _ h => h) (Or.inl ⟨rfl, ?_⟩) hHeld ?_
                            rotate_left
                            · (intro W' hW; (try dsimp only at hW); obtain ⟨z0, z1, z2, z3⟩ := hW; go_simp; (try with_reducible rfl))
                            try simp only [Act.put, List.setIfInBounds_toArray, List.set_cons_zero, List.set_cons_succ]
                            refine' wpAnyH_take (i := 5) (oi := ⟨_, _, _, _, _, _⟩) (v := _) rfl (by kernel_rfl) (by kernel_rfl) (by kernel_rfl) (fun _ _ _ h => h) (Or.inl ⟨rfl, ?_⟩) hHeld ?_
                            rotate_left
                            · (intro W' hW; (try dsimp only at hW); go_simp; (try with_reducible rfl))
                            try simp only [Act.put, List.setIfInBounds_toArray, List.set_cons_zero, List.set_cons_succ]
                            refine' wpAnyH_take (i := 6) (oi := ⟨_, _, _, _, _, _⟩) (v := _) rfl (by kernel_rfl) (by kernel_rfl) (by kernel_rfl) (fun _ _ _ h => h) (Or.inl ⟨rfl, ?_⟩) hHeld ?_
                            rotate_left
                            · (intro W' hW; (try dsimp only at hW); go_simp; (try with_reducible rfl))
                            try simp only [Act.put, List.setIfInBounds_toArray, List.set_cons_zero, List.set_cons_succ]
                            refine' wpAnyH_take (i := 7) (oi := ⟨_, _, _, _, _, _⟩) (v := _) rfl (by kernel_rfl) (by kernel_rfl) (by kernel_rfl) (fun _ _ _ h => h) (Or.inl ⟨rfl, ?_⟩) hHeld ?_
                            rotate_left
                            · (intro W' hW; (try dsimp only at hW); obtain ⟨z0, z1, z2, z3⟩ := hW; go_simp; (try with_reducible rfl))
                            try simp only [Act.put, List.setIfInBounds_toArray, List.set_cons_zero, List.set_cons_succ]
                            refine' wpAnyH_take (i := 8) (oi := ⟨_, _, _, _, _, _⟩) (v := _) rfl (by kernel_rfl) (by kernel_rfl) (by kernel_rfl) (fun _ _ _ h => h) (Or.inl ⟨rfl, ?_⟩) hHeld ?_
                            rotate_left
                            · (intro W' hW; (try dsimp only at hW); go_simp; (try with_reducible rfl))
                            try simp only [Act.put, List.setIfInBounds_toArray, List.set_cons_zero, List.set_cons_succ]
                            refine' wpAnyH_take (i := 9) (oi := ⟨_, _, _, _, _, _⟩) (v := _) rfl (by kernel_rfl) (by kernel_rfl) (by kernel_rfl) (fun _ _ _ h => h) (Or.inl ⟨rfl, ?_⟩) hHeld ?_
                            rotate_left
                            · (intro W' hW; (try dsimp only at hW); go_simp; (try with_reducible rfl))
                            try simp only [Act.put, List.setIfInBounds_toArray, List.set_cons_zero, List.set_cons_succ]
                            refine' wpAnyH_take (i := 11) (oi := ⟨_, _, _, _, _, _⟩) (v := _) rfl (by kernel_rfl) (by kernel_rfl) (by kernel_rfl) (fun _ _ _ h => h) (Or.inl ⟨rfl, ?_⟩) hHeld ?_
                            rotate_left
                            · (intro W' hW; (try dsimp only at hW); go_simp; (try with_reducible rfl))
                            try simp only [Act.put, List.setIfInBounds_toArray, List.set_cons_zero, List.set_cons_succ]
                            refine' wpAnyH_take (i := 12) (oi := ⟨_, _, _, _, _, _⟩) (v := _) rfl (by kernel_rfl) (by kernel_rfl) (by kernel_rfl) (fun _ _ _ h => h) (Or.inl ⟨rfl, ?_⟩) hHeld ?_
                            rotate_left
                            · (intro W' hW; (try dsimp only at hW); go_simp; (try with_reducible rfl))
                            try simp only [Act.put, List.setIfInBounds_toArray, List.set_cons_zero, List.set_cons_succ]
                            refine' wpAnyH_take (i := 13) (oi := ⟨_, _, _, _, _, _⟩) (v := _) rfl (by kernel_rfl) (by kernel_rfl) (by kernel_rfl) (fun _ _ _ h => h) (Or.inl ⟨rfl, ?_⟩) hHeld ?_
                            rotate_left
                            · (intro W' hW; (try dsimp only at hW); obtain ⟨z0, z1, z2, z3⟩ := hW; go_simp; (try with_reducible rfl))
                            try simp only [Act.put, List.setIfInBounds_toArray, List.set_cons_zero, List.set_cons_succ]
                            refine' wpAnyH_take (i := 14) (oi := ⟨_, _, _, _, _, _⟩) (v := _) rfl (by kernel_rfl) (by kernel_rfl) (by kernel_rfl) (fun _ _ _ h => h) (Or.inl ⟨rfl, ?_⟩) hHeld ?_
                            rotate_left
                            · (intro W' hW; (try dsimp only at hW); go_simp; (try with_reducible rfl))
                            try simp only [Act.put, List.setIfInBounds_toArray, List.set_cons_zero, List.set_cons_succ]
                            clear hHeld
                            refine heldT_one (i := 10) (by kernel_rfl) rfl (fun K hK => ?_)
                            go_simp
                            go_at_call 27
                            refine (rget32_any _ n'' _ r' _ (by exact F6.out.isB.rd) HLN.out.symm hI.out.byt (by have := H5.out; omega) (by omega)).mono ?_
                            rintro e w8 ⟨rfl, d8, rfl⟩
                            rw [← HCK.out]
                            have F7 : Hid (FrS (V.drew.drewN d8) base (some ⟨b1, o1, none⟩) n'' c'' r') := hide (F6.out.keep (below_drewN (below_drewN (Below.refl V.heap.size V) 1) d8))
                            have O7 : Hid (OwnPs (V.drew.drewN d8) base (.slice AL i cL) L) := hide (ownPs_turn O6.out (Turn.of_below (fun _ => False) (below_drewN (below_drewN (Below.refl V.heap.size V) 1) d8)) (fun _ _ e => e))
                            have B7 : Hid (Blk (V.drew.drewN d8) 0 62 ga [.int .u64 (v0 : Int), .int .u64 (v1 : Int), .int .u64 (v2 : Int)]) := hide ((B6.out.drewN 1).drewN d8)
                            have K7 : Hid (Below w.heap.size w (V.drew.drewN d8)) := hide (below_drewN (below_drewN K6.out 1) d8)
                            have Z7 : Hid (base ≤ (V.drew.drewN d8).heap.size) := hide Z6.out
                            have x0 : (V.drew.drewN d8).cell? ⟨ga, 0, none⟩ = some (.int .u64 (v0 : Int)) := y0
                            have x1 : (V.drew.drewN d8).cell? ⟨ga, 1, none⟩ = some (.int .u64 (v1 : Int)) := y1
                            have x2 : (V.drew.drewN d8).cell? ⟨ga, 2, none⟩ = some (.int .u64 (v2 : Int)) := y2
                            have x4 : (V.drew.drewN d8).cell? ⟨b1, o1 + 4, none⟩ = some (.int .u8 (f4 : Int)) := y4
                            clear y0 y1 y2 y4 F6 O6 B6 K6 Z6
                            generalize V.drew.drewN d8 = V8 at *
                            have hHeld : (fun W' => W'.cell? ⟨ga, 0, none⟩ = some (.int .u64 (v0 : Int)) ∧ W'.cell? ⟨ga, 1, none⟩ = some (.int .u64 (v1 : Int)) ∧ W'.cell? ⟨ga, 2, none⟩ = some (.int .u64 (v2 : Int)) ∧ W'.cell? ⟨b1, o1 + 4, none⟩ = some (.int .u8 (f4 : Int))) V8 := ⟨x0, x1, x2, x4⟩
                            refine hK.out _ _ hHeld ?_
                            clear hK
                            try simp only [List.setIfInBounds_toArray, List.set_cons_zero, List.set_cons_succ]
                            refine' wpAnyH_take (i := 15) (oi := ⟨_, _, _, _, _, _⟩) (v := _) rfl (by kernel_rfl) (by kernel_rfl) (by kernel_rfl) (fun _ _ _ h => h) (Or.inl ⟨rfl, ?_⟩) hHeld ?_
                            rotate_left
                            · (intro W' hW; (try dsimp only at hW); go_simp; (try with_reducible rfl))
                            try simp only [Act.put, List.setIfInBounds_toArray, List.set_cons_zero, List.set_cons_succ]
                            clear hHeld
                            refine heldT_one (i := 16) (by kernel_rfl) rfl (fun K hK => ?_)
                            go_simp
                            have k9 := below_alloc V8 (.cells #[.int .u64 (v0 : Int), .int .i64 (v1 : Int), .int .i64 (v2 : Int), .int .u32 (ck : Int), .bool fl] 36)
                            obtain ⟨g9, hg9⟩ : ∃ g, g = V8.heap.size := ⟨_, rfl⟩
                            have NW := hide (plC_new V8 g9 hg9 (newP vs r'))
                            have F8 := hide (F7.out.keep k9)
                            have O8 := hide (ownPs_turn O7.out (Turn.of_below (fun _ => False) k9) (fun _ _ e => e))
                            have B8 := hide (B7.out.keep k9)
                            have K8 := hide (below_step K7.out k9)
                            have Z8 := hide (Nat.le_trans Z7.out k9.size)
                            have x0' := (k9.cell (cell_lt x0)).trans x0
                            have x1' := (k9.cell (cell_lt x1)).trans x1
                            have x2' := (k9.cell (cell_lt x2)).trans x2
                            have x4' := (k9.cell (cell_lt x4)).trans x4
                            have NW2 : Hid (∀ (j : Nat) (u : Value), (plC (newP vs r'))[j]? = some u → (V8.alloc (.cells #[.int .u64 (v0 : Int), .int .i64 (v1 : Int), .int .i64 (v2 : Int), .int .u32 (ck : Int), .bool fl] 36)).cell? ((⟨g9, 0, none⟩ : Addr).add j) = some u) := by
                              intro j u h
                              have h9 := HPC.out
                              have e := NW.out j u h
                              unfold plC at h9
                              simp only [List.cons.injEq, Value.int.injEq, Value.bool.injEq, true_and, and_true] at h9
                              obtain ⟨e1, e2, e3, e4, e5⟩ := h9
                              rw [e1, e2, e3, e4, e5] at e
                              exact e
                            rw [← hg9]
                            clear x0 x1 x2 x4 k9 hg9 F7 O7 B7 K7 Z7 NW
                            generalize V8.alloc (.cells #[.int .u64 (v0 : Int), .int .i64 (v1 : Int), .int .i64 (v2 : Int), .int .u32 (ck : Int), .bool fl] 36) = V9 at *
                            have hHeld : (fun W' => W'.cell? ⟨ga, 0, none⟩ = some (.int .u64 (v0 : Int)) ∧ W'.cell? ⟨ga, 1, none⟩ = some (.int .u64 (v1 : Int)) ∧ W'.cell? ⟨ga, 2, none⟩ = some (.int .u64 (v2 : Int)) ∧ W'.cell? ⟨b1, o1 + 4, none⟩ = some (.int .u8 (f4 : Int))) V9 := ⟨x0', x1', x2', x4'⟩
                            refine hK.out _ _ hHeld ?_
                            clear hK
                            try simp only [List.setIfInBounds_toArray, List.set_cons_zero, List.set_cons_succ]
                            clear hHeld
                            obtain ⟨i0, hi0⟩ : ∃ i, Try.prog.info? 36 = some i := by
                              have := Try.info_plc
                              cases h : Try.prog.info? 36 with
                              | none => rw [h] at this; cases this
                              | some i => exact ⟨i, rfl⟩
                            have hinfo := Try.info_plc
                            rw [hi0] at hinfo
                            simp only [Option.map_some, Option.some.injEq, Prod.mk.injEq] at hinfo
                            obtain ⟨hz0, hz1, hz2⟩ := hinfo
                            refine heldT_one (i := 17) (by kernel_rfl) rfl (fun K hK => ?_)
                            refine step_append_lies _ rfl (.tmp 102) (.tmp 118) 22 rfl base 36 i0 _ 5 32 Try.underlying22 hi0 hz0 hz1 hz2 rfl (by decide) (.slice AL i cL) i (L.flatMap plC) rfl (by have := O8.out; unfold OwnPs at this; rw [hS.out.len] at this; exact this) ⟨g9, 0, none⟩ 1 1 (plC (newP vs r')) rfl rfl NW2.out (plC_one _) (by decide) (by have := HLT.out; have := HCN.out; unfold maxLen; omega) (by have := HLT.out; have := HCN.out; omega) Z8.out _ rfl ?_
                            intro gr cap w9 hown hgrow hor hlt
                            have hob : ∀ q, (Value.slice AL i cL).ownBlock = some q → base ≤ q := by
                              obtain ⟨A', c', e, hb⟩ := ownPs_form O8.out
                              exact hb
                            have tg : Turn (fun q => (Value.slice AL i cL).ownBlock = some q) V9 w9 := (Turn.of_grown hgrow).mono (fun q e => e.symm)
                            have hga : ∀ q, (Value.slice AL i cL).ownBlock = some q → q ≠ ga := fun q e => row_neA O8.out B8.out q e
                            have hb1 : b1 < base := by
                              rcases F8.out.low with h | ⟨_, _, e, h⟩
                              · cases h
                              · cases e; exact h
                            have F9 := hide (F8.out.turn tg (fun j e => hob j e))
                            have B9 := hide (B8.out.turn tg (fun e => hga ga e rfl))
                            have K9 := hide (K8.out.trans (tg.below K8.out.size (fun q e => Nat.le_trans HSZ.out (hob q e))))
                            have Z9 := hide (Nat.le_trans Z8.out tg.size)
                            have O9 : Hid (OwnPs w9 base (.slice (some ⟨gr, 0, none⟩) (i + 1) cap) (L ++ [newP vs r'])) := by
                              unfold Hid OwnPs
                              rw [List.length_append, List.length_singleton, hS.out.len, List.flatMap_append]
                              simpa using hown
                            have u4 : w9.cell? ⟨b1, o1 + 4, none⟩ = some (.int .u8 (f4 : Int)) := tg.cell x4' (fun e => by have := hob b1 e; omega)
                            have hHeld : (fun W' => W'.cell? ⟨ga, 0, none⟩ = some (.int .u64 (v0 : Int)) ∧ W'.cell? ⟨ga, 1, none⟩ = some (.int .u64 (v1 : Int)) ∧ W'.cell? ⟨ga, 2, none⟩ = some (.int .u64 (v2 : Int)) ∧ W'.cell? ⟨b1, o1 + 4, none⟩ = some (.int .u8 (f4 : Int))) w9 := ⟨B9.out.cell 0, B9.out.cell 1, B9.out.cell 2, u4⟩
                            obtain ⟨A5, c5, f5, hsl⟩ := F9.out.cut (k := 5) (by have := H5.out; omega)
                            have hsl5 := hsl w9
                            rw [show ((5 : Nat) : Int) = 5 from rfl] at hsl5
                            obtain ⟨n5, hn5⟩ : ∃ n5, n5 = n'' - 5 := ⟨_, rfl⟩
                            rw [← hn5] at hsl5 f5
                            have hn59 : n5 ≤ 1000000000 := by omega
                            have F10 := hide f5
                            clear x0' x1' x2' x4' F8 O8 B8 K8 Z8 F9 hown hgrow hor hlt hob tg hga hb1 u4 hsl f5 hn5 hi0 hz0 hz1 hz2
                            refine hK.out _ _ hHeld ?_
                            clear hK
                            try simp only [List.setIfInBounds_toArray, List.set_cons_zero, List.set_cons_succ]
                            refine' wpAnyH_take (i := 18) (oi := ⟨_, _, _, _, _, _⟩) (v := _) rfl (by kernel_rfl) (by kernel_rfl) (by kernel_rfl) (fun _ _ _ h => h) (Or.inl ⟨rfl, ?_⟩) hHeld ?_
                            rotate_left
                            · (intro W' hW; (try dsimp only at hW); go_simp; (try with_reducible rfl))
                            try simp only [Act.put, List.setIfInBounds_toArray, List.set_cons_zero, List.set_cons_succ]
                            refine wpAnyH_done (by kernel_rfl) ?_ _
                            clear hHeld
                            have hi6 : i < 65536 := by have := HCN.out; have := HLT.out; omega
                            have hi6i : (i : Int) < 65536 := by omega
                            go_wp2_with fail
                            go_roundw
                            case rel => exact ⟨i + 1, L ++ [newP vs r'], r'.drop 5, A5, _, n5, c5, cap, by have := HLT.out; omega, rfl, rfl, by go_num, hn59, F10, O9, OD, K9, Z9⟩
                            case measure => have := HLT.out; simp [intOf]; omega
                          · -- a place behind another
                            have hi0i : decide ((0 : Int) < (i : Int)) = true := decide_eq_true (by omega)
                            have hi0in : decide (0 < i) = true := decide_eq_true (by omega)
                            obtain ⟨i1, hi1⟩ : ∃ i1, i1 = i - 1 := ⟨_, rfl⟩
                            have hii : (i : Int) - 1 = (i1 : Int) := by omega
                            have hi1i : (i1 : Int) < (i : Int) := by omega
                            have hi1w : IntKind.i64.wrap (i1 : Int) = (i1 : Int) := by rw [IntKind.wrap_i64]; have := HLT.out; have := HCN.out; omega
                            obtain ⟨bl, ol, rfl, kf, _⟩ := (show IsP wr AL L by have h9 := hO.out; rw [← hS.out.len] at h9; exact h9.isP) i1 (by rw [hS.out.len]; omega)
                            obtain ⟨kp, hkp⟩ : ∃ kp, kp = (L.getD i1 noPlc).key := ⟨_, rfl⟩
                            rw [← hkp] at kf
                            have HKP := hide hkp
                            have HI1 := hide hi1
                            have HI0 := hide hi0
                            clear hkp hi1 hi0
                            by_cases hk : v0 ≤ kp
                            · -- keys that do not rise
                              have HK := hide hk
                              have HNX : Hid (∀ ps, ¬ IxOf b ps) := by
                                intro ps hp
                                obtain ⟨q, hq, hqf, b1, b2, k0, k1, k2, kr, kk⟩ := hI.out.rest hS.out HLT.out hp
                                have a1 := bnd_nat b1
                                have a2 := bnd_nat b2
                                have h6 := kk (by have := HI0.out; omega)
                                rw [← HI1.out, ← HKP.out] at h6
                                have := HV.out.1
                                have := HK.out
                                omega
                              have hki : decide ((v0 : Int) ≤ (kp : Int)) = true := decide_eq_true (by omega)
                              have hkin : decide (v0 ≤ kp) = true := decide_eq_true (by omega)
                              clear hk
                              go_wp2_with fail
                              refine heldT_top (fun W' => W'.cell? ⟨ga, 0, none⟩ = some (.int .u64 (v0 : Int)) ∧ W'.cell? ⟨ga, 1, none⟩ = some (.int .u64 (v1 : Int)) ∧ W'.cell? ⟨ga, 2, none⟩ = some (.int .u64 (v2 : Int)) ∧ W'.cell? ⟨b1, o1 + 4, none⟩ = some (.int .u8 (f4 : Int)) ∧ W'.cell? ⟨bl, ol + i1 * 5, none⟩ = some (.int .u64 (kp : Int))) 34 #[false, false, false, false, false, false, false, false, false, false, false, false, false, false, false, false, false, false, false, false, false, false, false, false, false, false, false, false, false, false, false, false, false, false] (by kernel_rfl) (by kernel_rfl) (by kernel_rfl) ?_
                              have hHeld : (fun W' => W'.cell? ⟨ga, 0, none⟩ = some (.int .u64 (v0 : Int)) ∧ W'.cell? ⟨ga, 1, none⟩ = some (.int .u64 (v1 : Int)) ∧ W'.cell? ⟨ga, 2, none⟩ = some (.int .u64 (v2 : Int)) ∧ W'.cell? ⟨b1, o1 + 4, none⟩ = some (.int .u8 (f4 : Int)) ∧ W'.cell? ⟨bl, ol + i1 * 5, none⟩ = some (.int .u64 (kp : Int))) wr.drew := ⟨a0, a1, a2, c4, kf⟩
                              refine' wpAnyH_take (i := 0) (oi := ⟨_, _, _, _, _, _⟩) (v := _) rfl (by kernel_rfl) (by kernel_rfl) (by kernel_rfl) (fun _ _ _ h => h) (Or.inl ⟨rfl, ?_⟩) hHeld ?_
                              rotate_left
                              · (intro W' hW; (try dsimp only at hW); go_simp; (try with_reducible rfl))
                              try simp only [Act.put, List.setIfInBounds_toArray, List.set_cons_zero, List.set_cons_succ]
                              refine' wpAnyH_take (i := 1) (oi := ⟨_, _, _, _, _, _⟩) (v := _) rfl (by kernel_rfl) (by kernel_rfl) (by kernel_rfl) (fun _ _ _ h => h) (Or.inl ⟨rfl, ?_⟩) hHeld ?_
                              rotate_left
                              · (intro W' hW; (try dsimp only at hW); go_simp; (try with_reducible rfl))
                              try simp only [Act.put, List.setIfInBounds_toArray, List.set_cons_zero, List.set_cons_succ]
                              refine' wpAnyH_take (i := 2) (oi := ⟨_, _, _, _, _, _⟩) (v := _) rfl (by kernel_rfl) (by kernel_rfl) (by kernel_rfl) (fun _ _ _ h => h) (Or.inl ⟨rfl, ?_⟩) hHeld ?_
                              rotate_left
                              · (intro W' hW; (try dsimp only at hW); go_simp; (try with_reducible rfl))
                              try simp only [Act.put, List.setIfInBounds_toArray, List.set_cons_zero, List.set_cons_succ]
                              refine' wpAnyH_take (i := 3) (oi := ⟨_, _, _, _, _, _⟩) (v := _) rfl (by kernel_rfl) (by kernel_rfl) (by kernel_rfl) (fun _ _ _ h => h) (Or.inl ⟨rfl, ?_⟩) hHeld ?_
                              rotate_left
                              · (intro W' hW; (try dsimp only at hW); go_simp; (try with_reducible rfl))
                              try simp only [Act.put, List.setIfInBounds_toArray, List.set_cons_zero, List.set_cons_succ]
                              refine' wpAnyH_take (i := 4) (oi := ⟨_, _, _, _, _, _⟩) (v := _) rfl (by kernel_rfl) (by kernel_rfl) (by kernel_rfl) (fun _ _ _ h => h) (Or.inl ⟨rfl, ?_⟩) hHeld ?_
                              rotate_left
                              · (intro W' hW; (try dsimp only at hW); go_simp; (try with_reducible rfl))
                              try simp only [Act.put, List.setIfInBounds_toArray, List.set_cons_zero, List.set_cons_succ]
                              refine' wpAnyH_take (i := 5) (oi := ⟨_, _, _, _, _, _⟩) (v := _) rfl (by kernel_rfl) (by kernel_rfl) (by kernel_rfl) (fun _ _ _ h => h) (Or.inl ⟨rfl, ?_⟩) hHeld ?_
                              rotate_left
                              · (intro W' hW; (try dsimp only at hW); go_simp; (try with_reducible rfl))
                              try simp only [Act.put, List.setIfInBounds_toArray, List.set_cons_zero, List.set_cons_succ]
                              refine' wpAnyH_take (i := 6) (oi := ⟨_, _, _, _, _, _⟩) (v := _) rfl (by kernel_rfl) (by kernel_rfl) (by kernel_rfl) (fun _ _ _ h => h) (Or.inl ⟨rfl, ?_⟩) hHeld ?_
                              rotate_left
                              · (intro W' hW; (try dsimp only at hW); obtain ⟨z0, z1, z2, z3, z4⟩ := hW; go_simp; (try with_reducible rfl))
                              try simp only [Act.put, List.setIfInBounds_toArray, List.set_cons_zero, List.set_cons_succ]
                              refine' wpAnyH_take (i := 7) (oi := ⟨_, _, _, _, _, _⟩) (v := _) rfl (by kernel_rfl) (by kernel_rfl) (by kernel_rfl) (fun _ _ _ h => h) (Or.inl ⟨rfl, ?_⟩) hHeld ?_
                              rotate_left
                              · (intro W' hW; (try dsimp only at hW); go_simp; (try with_reducible rfl))
                              try simp only [Act.put, List.setIfInBounds_toArray, List.set_cons_zero, List.set_cons_succ]
                              refine' wpAnyH_take (i := 8) (oi := ⟨_, _, _, _, _, _⟩) (v := _) rfl (by kernel_rfl) (by kernel_rfl) (by kernel_rfl) (fun _ _ _ h => h) (Or.inl ⟨rfl, ?_⟩) hHeld ?_
                              rotate_left
                              · (intro W' hW; (try dsimp only at hW); go_simp; (try with_reducible rfl))
                              try simp only [Act.put, List.setIfInBounds_toArray, List.set_cons_zero, List.set_cons_succ]
                              refine' wpAnyH_take (i := 9) (oi := ⟨_, _, _, _, _, _⟩) (v := _) rfl (by kernel_rfl) (by kernel_rfl) (by kernel_rfl) (fun _ _ _ h => h) (Or.inl ⟨rfl, ?_⟩) hHeld ?_
                              rotate_left
                              · (intro W' hW; (try dsimp only at hW); go_simp; (try with_reducible rfl))
                              try simp only [Act.put, List.setIfInBounds_toArray, List.set_cons_zero, List.set_cons_succ]
                              refine' wpAnyH_take (i := 10) (oi := ⟨_, _, _, _, _, _⟩) (v := _) rfl (by kernel_rfl) (by kernel_rfl) (by kernel_rfl) (fun _ _ _ h => h) (Or.inl ⟨rfl, ?_⟩) hHeld ?_
                              rotate_left
                              · (intro W' hW; (try dsimp only at hW); go_simp; (try with_reducible rfl))
                              try simp only [Act.put, List.setIfInBounds_toArray, List.set_cons_zero, List.set_cons_succ]
                              refine' wpAnyH_take (i := 11) (oi := ⟨_, _, _, _, _, _⟩) (v := _) rfl (by kernel_rfl) (by kernel_rfl) (by kernel_rfl) (fun _ _ _ h => h) (Or.inl ⟨rfl, ?_⟩) hHeld ?_
                              rotate_left
                              · (intro W' hW; (try dsimp only at hW); obtain ⟨z0, z1, z2, z3, z4⟩ := hW; go_simp; (try with_reducible rfl))
                              try simp only [Act.put, List.setIfInBounds_toArray, List.set_cons_zero, List.set_cons_succ]
                              refine' wpAnyH_take (i := 12) (oi := ⟨_, _, _, _, _, _⟩) (v := _) rfl (by kernel_rfl) (by kernel_rfl) (by kernel_rfl) (fun _ _ _ h => h) (Or.inl ⟨rfl, ?_⟩) hHeld ?_
                              rotate_left
                              · (intro W' hW; (try dsimp only at hW); go_simp; (try with_reducible rfl))
                              try simp only [Act.put, List.setIfInBounds_toArray, List.set_cons_zero, List.set_cons_succ]
                              refine' wpAnyH_take (i := 13) (oi := ⟨_, _, _, _, _, _⟩) (v := _) rfl (by kernel_rfl) (by kernel_rfl) (by kernel_rfl) (fun _ _ _ h => h) (Or.inl ⟨rfl, ?_⟩) hHeld ?_
                              rotate_left
                              · (intro W' hW; (try dsimp only at hW); go_simp; (try with_reducible rfl))
                              try simp only [Act.put, List.setIfInBounds_toArray, List.set_cons_zero, List.set_cons_succ]
                              refine' wpAnyH_take (i := 14) (oi := ⟨_, _, _, _, _, _⟩) (v := _) rfl (by kernel_rfl) (by kernel_rfl) (by kernel_rfl) (fun _ _ _ h => h) (Or.inl ⟨rfl, ?_⟩) hHeld ?_
                              rotate_left
                              · (intro W' hW; (try dsimp only at hW); go_simp; (try with_reducible rfl))
                              try simp only [Act.put, List.setIfInBounds_toArray, List.set_cons_zero, List.set_cons_succ]
                              refine' wpAnyH_take (i := 15) (oi := ⟨_, _, _, _, _, _⟩) (v := _) rfl (by kernel_rfl) (by kernel_rfl) (by kernel_rfl) (fun _ _ _ h => h) (Or.inl ⟨rfl, ?_⟩) hHeld ?_
                              rotate_left
                              · (intro W' hW; (try dsimp only at hW); go_simp; (try with_reducible rfl))
                              try simp only [Act.put, List.setIfInBounds_toArray, List.set_cons_zero, List.set_cons_succ]
                              refine' wpAnyH_take (i := 16) (oi := ⟨_, _, _, _, _, _⟩) (v := _) rfl (by kernel_rfl) (by kernel_rfl) (by kernel_rfl) (fun _ _ _ h => h) (Or.inl ⟨rfl, ?_⟩) hHeld ?_
                              rotate_left
                              · (intro W' hW; (try dsimp only at hW); obtain ⟨z0, z1, z2, z3, z4⟩ := hW; go_simp; (try with_reducible rfl))
                              try simp only [Act.put, List.setIfInBounds_toArray, List.set_cons_zero, List.set_cons_succ]
                              refine' wpAnyH_take (i := 17) (oi := ⟨_, _, _, _, _, _⟩) (v := _) rfl (by kernel_rfl) (by kernel_rfl) (by kernel_rfl) (fun _ _ _ h => h) (Or.inl ⟨rfl, ?_⟩) hHeld ?_
                              rotate_left
                              · (intro W' hW; (try dsimp only at hW); go_simp; (try with_reducible rfl))
                              try simp only [Act.put, List.setIfInBounds_toArray, List.set_cons_zero, List.set_cons_succ]
                              refine' wpAnyH_take (i := 18) (oi := ⟨_, _, _, _, _, _⟩) (v := _) rfl (by kernel_rfl) (by kernel_rfl) (by kernel_rfl) (fun _ _ _ h => h) (Or.inl ⟨rfl, ?_⟩) hHeld ?_
                              rotate_left
                              · (intro W' hW; (try dsimp only at hW); go_simp; (try with_reducible rfl))
                              try simp only [Act.put, List.setIfInBounds_toArray, List.set_cons_zero, List.set_cons_succ]
                              refine' wpAnyH_take (i := 19) (oi := ⟨_, _, _, _, _, _⟩) (v := _) rfl (by kernel_rfl) (by kernel_rfl) (by kernel_rfl) (fun _ _ _ h => h) (Or.inl ⟨rfl, ?_⟩) hHeld ?_
                              rotate_left
                              · (intro W' hW; (try dsimp only at hW); go_simp; (try with_reducible rfl))
                              try simp only [Act.put, List.setIfInBounds_toArray, List.set_cons_zero, List.set_cons_succ]
                              refine' wpAnyH_take (i := 20) (oi := ⟨_, _, _, _, _, _⟩) (v := _) rfl (by kernel_rfl) (by kernel_rfl) (by kernel_rfl) (fun _ _ _ h => h) (Or.inl ⟨rfl, ?_⟩) hHeld ?_
                              rotate_left
                              · (intro W' hW; (try dsimp only at hW); go_simp; (try with_reducible rfl))
                              try simp only [Act.put, List.setIfInBounds_toArray, List.set_cons_zero, List.set_cons_succ]
                              refine' wpAnyH_take (i := 21) (oi := ⟨_, _, _, _, _, _⟩) (v := _) rfl (by kernel_rfl) (by kernel_rfl) (by kernel_rfl) (fun _ _ _ h => h) (Or.inl ⟨rfl, ?_⟩) hHeld ?_
                              rotate_left
                              · (intro W' hW; (try dsimp only at hW); go_simp; (try with_reducible rfl))
                              try simp only [Act.put, List.setIfInBounds_toArray, List.set_cons_zero, List.set_cons_succ]
                              refine' wpAnyH_take (i := 22) (oi := ⟨_, _, _, _, _, _⟩) (v := _) rfl (by kernel_rfl) (by kernel_rfl) (by kernel_rfl) (fun _ _ _ h => h) (Or.inl ⟨rfl, ?_⟩) hHeld ?_
                              rotate_left
                              · (intro W' hW; (try dsimp only at hW); go_simp; (try with_reducible rfl))
                              try simp only [Act.put, List.setIfInBounds_toArray, List.set_cons_zero, List.set_cons_succ]
                              refine' wpAnyH_take (i := 23) (oi := ⟨_, _, _, _, _, _⟩) (v := _) rfl (by kernel_rfl) (by kernel_rfl) (by kernel_rfl) (fun _ _ _ h => h) (Or.inl ⟨rfl, ?_⟩) hHeld ?_
                              rotate_left
                              · (intro W' hW; (try dsimp only at hW); go_simp; (try with_reducible rfl))
                              try simp only [Act.put, List.setIfInBounds_toArray, List.set_cons_zero, List.set_cons_succ]
                              refine' wpAnyH_take (i := 24) (oi := ⟨_, _, _, _, _, _⟩) (v := _) rfl (by kernel_rfl) (by kernel_rfl) (by kernel_rfl) (fun _ _ _ h => h) (Or.inl ⟨rfl, ?_⟩) hHeld ?_
                              rotate_left
                              · (intro W' hW; (try dsimp only at hW); obtain ⟨z0, z1, z2, z3, z4⟩ := hW; go_simp; (try with_reducible rfl))
                              try simp only [Act.put, List.setIfInBounds_toArray, List.set_cons_zero, List.set_cons_succ]
                              refine' wpAnyH_take (i := 25) (oi := ⟨_, _, _, _, _, _⟩) (v := _) rfl (by kernel_rfl) (by kernel_rfl) (by kernel_rfl) (fun _ _ _ h => h) (Or.inl ⟨rfl, ?_⟩) hHeld ?_
                              rotate_left
                              · (intro W' hW; (try dsimp only at hW); go_simp; (try with_reducible rfl))
                              try simp only [Act.put, List.setIfInBounds_toArray, List.set_cons_zero, List.set_cons_succ]
                              refine' wpAnyH_take (i := 26) (oi := ⟨_, _, _, _, _, _⟩) (v := _) rfl (by kernel_rfl) (by kernel_rfl) (by kernel_rfl) (fun _ _ _ h => h) (Or.inl ⟨rfl, ?_⟩) hHeld ?_
                              rotate_left
                              · (intro W' hW; (try dsimp only at hW); go_simp; (try with_reducible rfl))
                              try simp only [Act.put, List.setIfInBounds_toArray, List.set_cons_zero, List.set_cons_succ]
                              refine' wpAnyH_take (i := 27) (oi := ⟨_, _, _, _, _, _⟩) (v := _) rfl (by kernel_rfl) (by kernel_rfl) (by kernel_rfl) (fun _ _ _ h => h) (Or.inl ⟨rfl, ?_⟩) hHeld ?_
                              rotate_left
                              · (intro W' hW; (try dsimp only at hW); go_simp; (try with_reducible rfl))
                              try simp only [Act.put, List.setIfInBounds_toArray, List.set_cons_zero, List.set_cons_succ]
                              refine' wpAnyH_take (i := 28) (oi := ⟨_, _, _, _, _, _⟩) (v := _) rfl (by kernel_rfl) (by kernel_rfl) (by kernel_rfl) (fun _ _ _ h => h) (Or.inl ⟨rfl, ?_⟩) hHeld ?_
                              rotate_left
                              · (intro W' hW; (try dsimp only at hW); go_simp; (try with_reducible rfl))
                              try simp only [Act.put, List.setIfInBounds_toArray, List.set_cons_zero, List.set_cons_succ]
                              refine' wpAnyH_take (i := 29) (oi := ⟨_, _, _, _, _, _⟩) (v := _) rfl (by kernel_rfl) (by kernel_rfl) (by kernel_rfl) (fun _ _ _ h => h) (Or.inl ⟨rfl, ?_⟩) hHeld ?_
                              rotate_left
                              · (intro W' hW; (try dsimp only at hW); go_simp; (try with_reducible rfl))
                              try simp only [Act.put, List.setIfInBounds_toArray, List.set_cons_zero, List.set_cons_succ]
                              refine' wpAnyH_take (i := 30) (oi := ⟨_, _, _, _, _, _⟩) (v := _) rfl (by kernel_rfl) (by kernel_rfl) (by kernel_rfl) (fun _ _ _ h => h) (Or.inl ⟨rfl, ?_⟩) hHeld ?_
                              rotate_left
                              · (intro W' hW; (try dsimp only at hW); obtain ⟨z0, z1, z2, z3, z4⟩ := hW; go_simp; (try with_reducible rfl))
                              try simp only [Act.put, List.setIfInBounds_toArray, List.set_cons_zero, List.set_cons_succ]
                              refine' wpAnyH_take (i := 31) (oi := ⟨_, _, _, _, _, _⟩) (v := _) rfl (by kernel_rfl) (by kernel_rfl) (by kernel_rfl) (fun _ _ _ h => h) (Or.inl ⟨rfl, ?_⟩) hHeld ?_
                              rotate_left
                              · (intro W' hW; (try dsimp only at hW); go_simp; (try with_reducible rfl))
                              try simp only [Act.put, List.setIfInBounds_toArray, List.set_cons_zero, List.set_cons_succ]
                              refine' wpAnyH_take (i := 32) (oi := ⟨_, _, _, _, _, _⟩) (v := _) rfl (by kernel_rfl) (by kernel_rfl) (by kernel_rfl) (fun _ _ _ h => h) (Or.inl ⟨rfl, ?_⟩) hHeld ?_
                              rotate_left
                              · (intro W' hW; (try dsimp only at hW); go_simp; (try with_reducible rfl))
                              try simp only [Act.put, List.setIfInBounds_toArray, List.set_cons_zero, List.set_cons_succ]
                              refine' wpAnyH_take (i := 33) (oi := ⟨_, _, _, _, _, _⟩) (v := _) rfl (by kernel_rfl) (by kernel_rfl) (by kernel_rfl) (fun _ _ _ h => h) (Or.inl ⟨rfl, ?_⟩) hHeld ?_
                              rotate_left
                              · (intro W' hW; (try dsimp only at hW); go_simp; (try with_reducible rfl))
                              try simp only [Act.put, List.setIfInBounds_toArray, List.set_cons_zero, List.set_cons_succ]
                              refine wpAnyH_done (by kernel_rfl) ?_ _
                              clear hHeld
                              go_wp2_with fail
                              go_ret2
                              exact ⟨.slice none 0 0, [], 3, rfl, ownPs_nil _ _, .inr (.inr ⟨by rw [HD.out], HNX.out, rfl, rfl⟩), below_drewN hK.out 1⟩
                            · skip
                              have hki : decide ((v0 : Int) ≤ (kp : Int)) = false := decide_eq_false (by omega)
                              have hkin : decide (v0 ≤ kp) = false := decide_eq_false (by omega)
                              have HK := hide hk
                              clear hk
                              go_wp2_with fail
                              refine heldT_top (fun W' => W'.cell? ⟨ga, 0, none⟩ = some (.int .u64 (v0 : Int)) ∧ W'.cell? ⟨ga, 1, none⟩ = some (.int .u64 (v1 : Int)) ∧ W'.cell? ⟨ga, 2, none⟩ = some (.int .u64 (v2 : Int)) ∧ W'.cell? ⟨b1, o1 + 4, none⟩ = some (.int .u8 (f4 : Int)) ∧ W'.cell? ⟨bl, ol + i1 * 5, none⟩ = some (.int .u64 (kp : Int))) 34 #[false, false, false, false, false, false, false, false, false, false, false, false, false, false, false, false, false, false, false, false, false, false, false, false, false, false, false, false, false, false, false, false, false, false] (by kernel_rfl) (by kernel_rfl) (by kernel_rfl) ?_
                              have hHeld : (fun W' => W'.cell? ⟨ga, 0, none⟩ = some (.int .u64 (v0 : Int)) ∧ W'.cell? ⟨ga, 1, none⟩ = some (.int .u64 (v1 : Int)) ∧ W'.cell? ⟨ga, 2, none⟩ = some (.int .u64 (v2 : Int)) ∧ W'.cell? ⟨b1, o1 + 4, none⟩ = some (.int .u8 (f4 : Int)) ∧ W'.cell? ⟨bl, ol + i1 * 5, none⟩ = some (.int .u64 (kp : Int))) wr.drew := ⟨a0, a1, a2, c4, kf⟩
                              refine' wpAnyH_take (i := 0) (oi := ⟨_, _, _, _, _, _⟩) (v := _) rfl (by kernel_rfl) (by kernel_rfl) (by kernel_rfl) (fun _ _ _ h => h) (Or.inl ⟨rfl, ?_⟩) hHeld ?_
                              rotate_left
                              · (intro W' hW; (try dsimp only at hW); go_simp; (try with_reducible rfl))
                              try simp only [Act.put, List.setIfInBounds_toArray, List.set_cons_zero, List.set_cons_succ]
                              refine' wpAnyH_take (i := 1) (oi := ⟨_, _, _, _, _, _⟩) (v := _) rfl (by kernel_rfl) (by kernel_rfl) (by kernel_rfl) (fun _ _ _ h => h) (Or.inl ⟨rfl, ?_⟩) hHeld ?_
                              rotate_left
                              · (intro W' hW; (try dsimp only at hW); go_simp; (try with_reducible rfl))
                              try simp only [Act.put, List.setIfInBounds_toArray, List.set_cons_zero, List.set_cons_succ]
                              refine' wpAnyH_take (i := 2) (oi := ⟨_, _, _, _, _, _⟩) (v := _) rfl (by kernel_rfl) (by kernel_rfl) (by kernel_rfl) (fun _ _ _ h => h) (Or.inl ⟨rfl, ?_⟩) hHeld ?_
                              rotate_left
                              · (intro W' hW; (try dsimp only at hW); go_simp; (try with_reducible rfl))
                              try simp only [Act.put, List.setIfInBounds_toArray, List.set_cons_zero, List.set_cons_succ]
                              refine' wpAnyH_take (i := 3) (oi := ⟨_, _, _, _, _, _⟩) (v := _) rfl (by kernel_rfl) (by kernel_rfl) (by kernel_rfl) (fun _ _ _ h => h) (Or.inl ⟨rfl, ?_⟩) hHeld ?_
                              rotate_left
                              · (intro W' hW; (try dsimp only at hW); go_simp; (try with_reducible rfl))
                              try simp only [Act.put, List.setIfInBounds_toArray, List.set_cons_zero, List.set_cons_succ]
                              refine' wpAnyH_take (i := 4) (oi := ⟨_, _, _, _, _, _⟩) (v := _) rfl (by kernel_rfl) (by kernel_rfl) (by kernel_rfl) (fun _ _ _ h => h) (Or.inl ⟨rfl, ?_⟩) hHeld ?_
                              rotate_left
                              · (intro W' hW; (try dsimp only at hW); go_simp; (try with_reducible rfl))
                              try simp only [Act.put, List.setIfInBounds_toArray, List.set_cons_zero, List.set_cons_succ]
                              refine' wpAnyH_take (i := 5) (oi := ⟨_, _, _, _, _, _⟩) (v := _) rfl (by kernel_rfl) (by kernel_rfl) (by kernel_rfl) (fun _ _ _ h => h) (Or.inl ⟨rfl, ?_⟩) hHeld ?_
                              rotate_left
                              · (intro W' hW; (try dsimp only at hW); go_simp; (try with_reducible rfl))
                              try simp only [Act.put, List.setIfInBounds_toArray, List.set_cons_zero, List.set_cons_succ]
                              refine' wpAnyH_take (i := 6) (oi := ⟨_, _, _, _, _, _⟩) (v := _) rfl (by kernel_rfl) (by kernel_rfl) (by kernel_rfl) (fun _ _ _ h => h) (Or.inl ⟨rfl, ?_⟩) hHeld ?_
                              rotate_left
                              · (intro W' hW; (try dsimp only at hW); obtain ⟨z0, z1, z2, z3, z4⟩ := hW; go_simp; (try with_reducible rfl))
                              try simp only [Act.put, List.setIfInBounds_toArray, List.set_cons_zero, List.set_cons_succ]
                              refine' wpAnyH_take (i := 7) (oi := ⟨_, _, _, _, _, _⟩) (v := _) rfl (by kernel_rfl) (by kernel_rfl) (by kernel_rfl) (fun _ _ _ h => h) (Or.inl ⟨rfl, ?_⟩) hHeld ?_
                              rotate_left
                              · (intro W' hW; (try dsimp only at hW); go_simp; (try with_reducible rfl))
                              try simp only [Act.put, List.setIfInBounds_toArray, List.set_cons_zero, List.set_cons_succ]
                              refine' wpAnyH_take (i := 8) (oi := ⟨_, _, _, _, _, _⟩) (v := _) rfl (by kernel_rfl) (by kernel_rfl) (by kernel_rfl) (fun _ _ _ h => h) (Or.inl ⟨rfl, ?_⟩) hHeld ?_
                              rotate_left
                              · (intro W' hW; (try dsimp only at hW); go_simp; (try with_reducible rfl))
                              try simp only [Act.put, List.setIfInBounds_toArray, List.set_cons_zero, List.set_cons_succ]
                              refine' wpAnyH_take (i := 9) (oi := ⟨_, _, _, _, _, _⟩) (v := _) rfl (by kernel_rfl) (by kernel_rfl) (by kernel_rfl) (fun _ _ _ h => h) (Or.inl ⟨rfl, ?_⟩) hHeld ?_
                              rotate_left
                              · (intro W' hW; (try dsimp only at hW); go_simp; (try with_reducible rfl))
                              try simp only [Act.put, List.setIfInBounds_toArray, List.set_cons_zero, List.set_cons_succ]
                              refine' wpAnyH_take (i := 10) (oi := ⟨_, _, _, _, _, _⟩) (v := _) rfl (by kernel_rfl) (by kernel_rfl) (by kernel_rfl) (fun _ _ _ h => h) (Or.inl ⟨rfl, ?_⟩) hHeld ?_
                              rotate_left
                              · (intro W' hW; (try dsimp only at hW); go_simp; (try with_reducible rfl))
                              try simp only [Act.put, List.setIfInBounds_toArray, List.set_cons_zero, List.set_cons_succ]
                              refine' wpAnyH_take (i := 11) (oi := ⟨_, _, _, _, _, _⟩) (v := _) rfl (by kernel_rfl) (by kernel_rfl) (by kernel_rfl) (fun _ _ _ h => h) (Or.inl ⟨rfl, ?_⟩) hHeld ?_
                              rotate_left
                              · (intro W' hW; (try dsimp only at hW); obtain ⟨z0, z1, z2, z3, z4⟩ := hW; go_simp; (try with_reducible rfl))
                              try simp only [Act.put, List.setIfInBounds_toArray, List.set_cons_zero, List.set_cons_succ]
                              refine' wpAnyH_take (i := 12) (oi := ⟨_, _, _, _, _, _⟩) (v := _) rfl (by kernel_rfl) (by kernel_rfl) (by kernel_rfl) (fun _ _ _ h => h) (Or.inl ⟨rfl, ?_⟩) hHeld ?_
                              rotate_left
                              · (intro W' hW; (try dsimp only at hW); go_simp; (try with_reducible rfl))
                              try simp only [Act.put, List.setIfInBounds_toArray, List.set_cons_zero, List.set_cons_succ]
                              refine' wpAnyH_take (i := 13) (oi := ⟨_, _, _, _, _, _⟩) (v := _) rfl (by kernel_rfl) (by kernel_rfl) (by kernel_rfl) (fun _ _ _ h => h) (Or.inl ⟨rfl, ?_⟩) hHeld ?_
                              rotate_left
                              · (intro W' hW; (try dsimp only at hW); go_simp; (try with_reducible rfl))
                              try simp only [Act.put, List.setIfInBounds_toArray, List.set_cons_zero, List.set_cons_succ]
                              refine' wpAnyH_take (i := 14) (oi := ⟨_, _, _, _, _, _⟩) (v := _) rfl (by kernel_rfl) (by kernel_rfl) (by kernel_rfl) (fun _ _ _ h => h) (Or.inl ⟨rfl, ?_⟩) hHeld ?_
                              rotate_left
                              · (intro W' hW; (try dsimp only at hW); go_simp; (try with_reducible rfl))
                              try simp only [Act.put, List.setIfInBounds_toArray, List.set_cons_zero, List.set_cons_succ]
                              refine' wpAnyH_take (i := 15) (oi := ⟨_, _, _, _, _, _⟩) (v := _) rfl (by kernel_rfl) (by kernel_rfl) (by kernel_rfl) (fun _ _ _ h => h) (Or.inl ⟨rfl, ?_⟩) hHeld ?_
                              rotate_left
                              · (intro W' hW; (try dsimp only at hW); go_simp; (try with_reducible rfl))
                              try simp only [Act.put, List.setIfInBounds_toArray, List.set_cons_zero, List.set_cons_succ]
                              refine' wpAnyH_take (i := 16) (oi := ⟨_, _, _, _, _, _⟩) (v := _) rfl (by kernel_rfl) (by kernel_rfl) (by kernel_rfl) (fun _ _ _ h => h) (Or.inl ⟨rfl, ?_⟩) hHeld ?_
                              rotate_left
                              · (intro W' hW; (try dsimp only at hW); obtain ⟨z0, z1, z2, z3, z4⟩ := hW; go_simp; (try with_reducible rfl))
                              try simp only [Act.put, List.setIfInBounds_toArray, List.set_cons_zero, List.set_cons_succ]
                              refine' wpAnyH_take (i := 17) (oi := ⟨_, _, _, _, _, _⟩) (v := _) rfl (by kernel_rfl) (by kernel_rfl) (by kernel_rfl) (fun _ _ _ h => h) (Or.inl ⟨rfl, ?_⟩) hHeld ?_
                              rotate_left
                              · (intro W' hW; (try dsimp only at hW); go_simp; (try with_reducible rfl))
                              try simp only [Act.put, List.setIfInBounds_toArray, List.set_cons_zero, List.set_cons_succ]
                              refine' wpAnyH_take (i := 18) (oi := ⟨_, _, _, _, _, _⟩) (v := _) rfl (by kernel_rfl) (by kernel_rfl) (by kernel_rfl) (fun _ _ _ h => h) (Or.inl ⟨rfl, ?_⟩) hHeld ?_
                              rotate_left
                              · (intro W' hW; (try dsimp only at hW); go_simp; (try with_reducible rfl))
                              try simp only [Act.put, List.setIfInBounds_toArray, List.set_cons_zero, List.set_cons_succ]
                              refine' wpAnyH_take (i := 19) (oi := ⟨_, _, _, _, _, _⟩) (v := _) rfl (by kernel_rfl) (by kernel_rfl) (by kernel_rfl) (fun _ _ _ h => h) (Or.inl ⟨rfl, ?_⟩) hHeld ?_
                              rotate_left
                              · (intro W' hW; (try dsimp only at hW); go_simp; (try with_reducible rfl))
                              try simp only [Act.put, List.setIfInBounds_toArray, List.set_cons_zero, List.set_cons_succ]
                              refine' wpAnyH_take (i := 20) (oi := ⟨_, _, _, _, _, _⟩) (v := _) rfl (by kernel_rfl) (by kernel_rfl) (by kernel_rfl) (fun _ _ _ h => h) (Or.inl ⟨rfl, ?_⟩) hHeld ?_
                              rotate_left
                              · (intro W' hW; (try dsimp only at hW); go_simp; (try with_reducible rfl))
                              try simp only [Act.put, List.setIfInBounds_toArray, List.set_cons_zero, List.set_cons_succ]
                              refine' wpAnyH_take (i := 21) (oi := ⟨_, _, _, _, _, _⟩) (v := _) rfl (by kernel_rfl) (by kernel_rfl) (by kernel_rfl) (fun _ _ _ h => h) (Or.inl ⟨rfl, ?_⟩) hHeld ?_
                              rotate_left
                              · (intro W' hW; (try dsimp only at hW); go_simp; (try with_reducible rfl))
                              try simp only [Act.put, List.setIfInBounds_toArray, List.set_cons_zero, List.set_cons_succ]
                              refine' wpAnyH_take (i := 22) (oi := ⟨_, _, _, _, _, _⟩) (v := _) rfl (by kernel_rfl) (by kernel_rfl) (by kernel_rfl) (fun _ _ _ h => h) (Or.inl ⟨rfl, ?_⟩) hHeld ?_
                              rotate_left
                              · (intro W' hW; (try dsimp only at hW); go_simp; (try with_reducible rfl))
                              try simp only [Act.put, List.setIfInBounds_toArray, List.set_cons_zero, List.set_cons_succ]
                              refine' wpAnyH_take (i := 23) (oi := ⟨_, _, _, _, _, _⟩) (v := _) rfl (by kernel_rfl) (by kernel_rfl) (by kernel_rfl) (fun _ _ _ h => h) (Or.inl ⟨rfl, ?_⟩) hHeld ?_
                              rotate_left
                              · (intro W' hW; (try dsimp only at hW); go_simp; (try with_reducible rfl))
                              try simp only [Act.put, List.setIfInBounds_toArray, List.set_cons_zero, List.set_cons_succ]
                              refine' wpAnyH_take (i := 24) (oi := ⟨_, _, _, _, _, _⟩) (v := _) rfl (by kernel_rfl) (by kernel_rfl) (by kernel_rfl) (fun _ _ _ h => h) (Or.inl ⟨rfl, ?_⟩) hHeld ?_
                              rotate_left
                              · (intro W' hW; (try dsimp only at hW); obtain ⟨z0, z1, z2, z3, z4⟩ := hW; go_simp; (try with_reducible rfl))
                              try simp only [Act.put, List.setIfInBounds_toArray, List.set_cons_zero, List.set_cons_succ]
                              refine' wpAnyH_take (i := 25) (oi := ⟨_, _, _, _, _, _⟩) (v := _) rfl (by kernel_rfl) (by kernel_rfl) (by kernel_rfl) (fun _ _ _ h => h) (Or.inl ⟨rfl, ?_⟩) hHeld ?_
                              rotate_left
                              · (intro W' hW; (try dsimp only at hW); go_simp; (try with_reducible rfl))
                              try simp only [Act.put, List.setIfInBounds_toArray, List.set_cons_zero, List.set_cons_succ]
                              refine' wpAnyH_take (i := 26) (oi := ⟨_, _, _, _, _, _⟩) (v := _) rfl (by kernel_rfl) (by kernel_rfl) (by kernel_rfl) (fun _ _ _ h => h) (Or.inl ⟨rfl, ?_⟩) hHeld ?_
                              rotate_left
                              · (intro W' hW; (try dsimp only at hW); go_simp; (try with_reducible rfl))
                              try simp only [Act.put, List.setIfInBounds_toArray, List.set_cons_zero, List.set_cons_succ]
                              refine' wpAnyH_take (i := 27) (oi := ⟨_, _, _, _, _, _⟩) (v := _) rfl (by kernel_rfl) (by kernel_rfl) (by kernel_rfl) (fun _ _ _ h => h) (Or.inl ⟨rfl, ?_⟩) hHeld ?_
                              rotate_left
                              · (intro W' hW; (try dsimp only at hW); go_simp; (try with_reducible rfl))
                              try simp only [Act.put, List.setIfInBounds_toArray, List.set_cons_zero, List.set_cons_succ]
                              refine' wpAnyH_take (i := 28) (oi := ⟨_, _, _, _, _, _⟩) (v := _) rfl (by kernel_rfl) (by kernel_rfl) (by kernel_rfl) (fun _ _ _ h => h) (Or.inl ⟨rfl, ?_⟩) hHeld ?_
                              rotate_left
                              · (intro W' hW; (try dsimp only at hW); go_simp; (try with_reducible rfl))
                              try simp only [Act.put, List.setIfInBounds_toArray, List.set_cons_zero, List.set_cons_succ]
                              refine' wpAnyH_take (i := 29) (oi := ⟨_, _, _, _, _, _⟩) (v := _) rfl (by kernel_rfl) (by kernel_rfl) (by kernel_rfl) (fun _ _ _ h => h) (Or.inl ⟨rfl, ?_⟩) hHeld ?_
                              rotate_left
                              · (intro W' hW; (try dsimp only at hW); go_simp; (try with_reducible rfl))
                              try simp only [Act.put, List.setIfInBounds_toArray, List.set_cons_zero, List.set_cons_succ]
                              refine' wpAnyH_take (i := 30) (oi := ⟨_, _, _, _, _, _⟩) (v := _) rfl (by kernel_rfl) (by kernel_rfl) (by kernel_rfl) (fun _ _ _ h => h) (Or.inl ⟨rfl, ?_⟩) hHeld ?_
                              rotate_left
                              · (intro W' hW; (try dsimp only at hW); obtain ⟨z0, z1, z2, z3, z4⟩ := hW; go_simp; (try with_reducible rfl))
                              try simp only [Act.put, List.setIfInBounds_toArray, List.set_cons_zero, List.set_cons_succ]
                              refine' wpAnyH_take (i := 31) (oi := ⟨_, _, _, _, _, _⟩) (v := _) rfl (by kernel_rfl) (by kernel_rfl) (by kernel_rfl) (fun _ _ _ h => h) (Or.inl ⟨rfl, ?_⟩) hHeld ?_
                              rotate_left
                              · (intro W' hW; (try dsimp only at hW); go_simp; (try with_reducible rfl))
                              try simp only [Act.put, List.setIfInBounds_toArray, List.set_cons_zero, List.set_cons_succ]
                              refine' wpAnyH_take (i := 32) (oi := ⟨_, _, _, _, _, _⟩) (v := _) rfl (by kernel_rfl) (by kernel_rfl) (by kernel_rfl) (fun _ _ _ h => h) (Or.inl ⟨rfl, ?_⟩) hHeld ?_
                              rotate_left
                              · (intro W' hW; (try dsimp only at hW); go_simp; (try with_reducible rfl))
                              try simp only [Act.put, List.setIfInBounds_toArray, List.set_cons_zero, List.set_cons_succ]
                              refine' wpAnyH_take (i := 33) (oi := ⟨_, _, _, _, _, _⟩) (v := _) rfl (by kernel_rfl) (by kernel_rfl) (by kernel_rfl) (fun _ _ _ h => h) (Or.inl ⟨rfl, ?_⟩) hHeld ?_
                              rotate_left
                              · (intro W' hW; (try dsimp only at hW); go_simp; (try with_reducible rfl))
                              try simp only [Act.put, List.setIfInBounds_toArray, List.set_cons_zero, List.set_cons_succ]
                              refine wpAnyH_done (by kernel_rfl) ?_ _
                              clear hHeld
                              have hfl4 : f4 ≤ 1 := by have := HF1.out; omega
                              have OD := hide (hI.out.done hS.out HLT.out (by rw [HLN.out]; have := H5.out; omega) (by rw [← HF4.out]; exact hfl4) (by rw [← HV.out.2.1]; have := HM1.out; omega) (by rw [← HV.out.2.2]; have := HM2.out; omega) (fun _ => by rw [← HI1.out, ← HKP.out, ← HV.out.1]; have := HK.out; omega))
                              obtain ⟨ck, hck⟩ : ∃ ck, ck = val32 r' := ⟨_, rfl⟩
                              obtain ⟨fl, hfl⟩ : ∃ fl, fl = ((f4 : Int) == 1) := ⟨_, rfl⟩
                              have HPC : Hid (plC (newP vs r') = [.int .u64 (v0 : Int), .int .i64 (v1 : Int), .int .i64 (v2 : Int), .int .u32 (ck : Int), .bool fl]) := by
                                unfold Hid plC newP
                                rw [← HV.out.1, ← HV.out.2.1, ← HV.out.2.2, ← HF4.out, ← hck, ← hfl]
                              have hfl2 : ((f4 : Int) == 1) = fl := hfl.symm
                              have HCK := hide hck
                              have hw1 : IntKind.i64.wrap (v1 : Int) = (v1 : Int) := by rw [IntKind.wrap_i64]; have := HM1.out; omega
                              have hw2 : IntKind.i64.wrap (v2 : Int) = (v2 : Int) := by rw [IntKind.wrap_i64]; have := HM2.out; omega
                              have F6 : Hid (FrS wr.drew base (some ⟨b1, o1, none⟩) n'' c'' r') := hide (hF.out.keep (below_drewN (Below.refl wr.heap.size wr) 1))
                              have O6 : Hid (OwnPs wr.drew base (.slice (some ⟨bl, ol, none⟩) i cL) L) := hide (ownPs_turn hO.out (Turn.of_below (fun _ => False) (below_drewN (Below.refl wr.heap.size wr) 1)) (fun _ _ e => e))
                              have B6 : Hid (Blk wr.drew 0 62 ga [.int .u64 (v0 : Int), .int .u64 (v1 : Int), .int .u64 (v2 : Int)]) := hide (hB.drewN 1)
                              have K6 : Hid (Below w.heap.size w wr.drew) := hide (below_drewN hK.out 1)
                              have Z6 : Hid (base ≤ wr.drew.heap.size) := hide hZ.out
                              have y0 : wr.drew.drew.cell? ⟨ga, 0, none⟩ = some (.int .u64 (v0 : Int)) := a0
                              have y1 : wr.drew.drew.cell? ⟨ga, 1, none⟩ = some (.int .u64 (v1 : Int)) := a1
                              have y2 : wr.drew.drew.cell? ⟨ga, 2, none⟩ = some (.int .u64 (v2 : Int)) := a2
                              have y4 : wr.drew.drew.cell? ⟨b1, o1 + 4, none⟩ = some (.int .u8 (f4 : Int)) := c4
                              clear hfl hck hfl4 a0 a1 a2 c4
                              generalize wr.drew = V at *
                              go_wp2_with fail
                              refine heldT_top (fun W' => W'.cell? ⟨ga, 0, none⟩ = some (.int .u64 (v0 : Int)) ∧ W'.cell? ⟨ga, 1, none⟩ = some (.int .u64 (v1 : Int)) ∧ W'.cell? ⟨ga, 2, none⟩ = some (.int .u64 (v2 : Int)) ∧ W'.cell? ⟨b1, o1 + 4, none⟩ = some (.int .u8 (f4 : Int))) 19 #[false, false, false, false, false, false, false, false, false, false, false, false, false, false, false, false, false, false, false] (by kernel_rfl) (by kernel_rfl) (by kernel_rfl) ?_
                              have hHeld : (fun W' => W'.cell? ⟨ga, 0, none⟩ = some (.int .u64 (v0 : Int)) ∧ W'.cell? ⟨ga, 1, none⟩ = some (.int .u64 (v1 : Int)) ∧ W'.cell? ⟨ga, 2, none⟩ = some (.int .u64 (v2 : Int)) ∧ W'.cell? ⟨b1, o1 + 4, none⟩ = some (.int .u8 (f4 : Int))) V.drew := ⟨y0, y1, y2, y4⟩
                              refine' wpAnyH_take (i := 0) (oi := ⟨_, _, _, _, _, _⟩) (v := _) rfl (by kernel_rfl) (by kernel_rfl) (by kernel_rfl) (fun _ _ _ h => h) (Or.inl ⟨rfl, ?_⟩) hHeld ?_
                              rotate_left
                              · (intro W' hW; (try dsimp only at hW); go_simp; (try with_reducible rfl))
                              try simp only [Act.put, List.setIfInBounds_toArray, List.set_cons_zero, List.set_cons_succ]
                              refine' wpAnyH_take (i := 1) (oi := ⟨_, _, _, _, _, _⟩) (v := _) rfl (by kernel_rfl) (by kernel_rfl) (by kernel_rfl) (fun _ _ _ h => h) (Or.inl ⟨rfl, ?_⟩) hHeld ?_
                              rotate_left
                              · (intro W' hW; (try dsimp only at hW); go_simp; (try with_reducible rfl))
                              try simp only [Act.put, List.setIfInBounds_toArray, List.set_cons_zero, List.set_cons_succ]
                              refine' wpAnyH_take (i := 2) (oi := ⟨_, _, _, _, _, _⟩) (v := _) rfl (by kernel_rfl) (by kernel_rfl) (by kernel_rfl) (fun _ _ _ h => h) (Or.inl ⟨rfl, ?_⟩) hHeld ?_
                              rotate_left
                              · (intro W' hW; (try dsimp only at hW); obtain ⟨z0, z1, z2, z3⟩ := hW; go_simp; (try with_reducible rfl))
                              try simp only [Act.put, List.setIfInBounds_toArray, List.set_cons_zero, List.set_cons_succ]
                              refine' wpAnyH_take (i := 3) (oi := ⟨_, _, _, _, _, _⟩) (v := _) rfl (by kernel_rfl) (by kernel_rfl) (by kernel_rfl) (fun _ _ _ h => h) (Or.inl ⟨rfl, ?_⟩) hHeld ?_
                              rotate_left
                              · (intro W' hW; (try dsimp only at hW); go_simp; (try with_reducible rfl))
                              try simp only [Act.put, List.setIfInBounds_toArray, List.set_cons_zero, List.set_cons_succ]
                              refine' wpAnyH_take (i := 4) (oi := ⟨_, _, _, _, _, _⟩) (v := _) rfl (by kernel_rfl) (by kernel_rfl) (by kernel_rfl) (fun _ _ _ h => h) (Or.inl ⟨rfl, ?_⟩) hHeld ?_
                              rotate_left
                              · (intro W' hW; (try dsimp only at hW); obtain ⟨z0, z1, z2, z3⟩ := hW; go_simp; (try with_reducible rfl))
                              try simp only [Act.put, List.setIfInBounds_toArray, List.set_cons_zero, List.set_cons_succ]
                              refine' wpAnyH_take (i := 5) (oi := ⟨_, _, _, _, _, _⟩) (v := _) rfl (by kernel_rfl) (by kernel_rfl) (by kernel_rfl) (fun _ _ _ h => h) (Or.inl ⟨rfl, ?_⟩) hHeld ?_
                              rotate_left
                              · (intro W' hW; (try dsimp only at hW); go_simp; (try with_reducible rfl))
                              try simp only [Act.put, List.setIfInBounds_toArray, List.set_cons_zero, List.set_cons_succ]
                              refine' wpAnyH_take (i := 6) (oi := ⟨_, _, _, _, _, _⟩) (v := _) rfl (by kernel_rfl) (by kernel_rfl) (by kernel_rfl) (fun _ _ _ h => h) (Or.inl ⟨rfl, ?_⟩) hHeld ?_
                              rotate_left
                              · (intro W' hW; (try dsimp only at hW); go_simp; (try with_reducible rfl))
                              try simp only [Act.put, List.setIfInBounds_toArray, List.set_cons_zero, List.set_cons_succ]
                              refine' wpAnyH_take (i := 7) (oi := ⟨_, _, _, _, _, _⟩) (v := _) rfl (by kernel_rfl) (by kernel_rfl) (by kernel_rfl) (fun _ _ _ h => h) (Or.inl ⟨rfl, ?_⟩) hHeld ?_
                              rotate_left
                              · (intro W' hW; (try dsimp only at hW); obtain ⟨z0, z1, z2, z3⟩ := hW; go_simp; (try with_reducible rfl))
                              try simp only [Act.put, List.setIfInBounds_toArray, List.set_cons_zero, List.set_cons_succ]
                              refine' wpAnyH_take (i := 8) (oi := ⟨_, _, _, _, _, _⟩) (v := _) rfl (by kernel_rfl) (by kernel_rfl) (by kernel_rfl) (fun _ _ _ h => h) (Or.inl ⟨rfl, ?_⟩) hHeld ?_
                              rotate_left
                              · (intro W' hW; (try dsimp only at hW); go_simp; (try with_reducible rfl))
                              try simp only [Act.put, List.setIfInBounds_toArray, List.set_cons_zero, List.set_cons_succ]
                              refine' wpAnyH_take (i := 9) (oi := ⟨_, _, _, _, _, _⟩) (v := _) rfl (by kernel_rfl) (by kernel_rfl) (by kernel_rfl) (fun _ _ _ h => h) (Or.inl ⟨rfl, ?_⟩) hHeld ?_
                              rotate_left
                              · (intro W' hW; (try dsimp only at hW); go_simp; (try with_reducible rfl))
                              try simp only [Act.put, List.setIfInBounds_toArray, List.set_cons_zero, List.set_cons_succ]
                              refine' wpAnyH_take (i := 11) (oi := ⟨_, _, _, _, _, _⟩) (v := _) rfl (by kernel_rfl) (by kernel_rfl) (by kernel_rfl) (fun _ _ _ h => h) (Or.inl ⟨rfl, ?_⟩) hHeld ?_
                              rotate_left
                              · (intro W' hW; (try dsimp only at hW); go_simp; (try with_reducible rfl))
                              try simp only [Act.put, List.setIfInBounds_toArray, List.set_cons_zero, List.set_cons_succ]
                              refine' wpAnyH_take (i := 12) (oi := ⟨_, _, _, _, _, _⟩) (v := _) rfl (by kernel_rfl) (by kernel_rfl) (by kernel_rfl) (fun _ _ _ h => h) (Or.inl ⟨rfl, ?_⟩) hHeld ?_
                              rotate_left
                              · (intro W' hW; (try dsimp only at hW); go_simp; (try with_reducible rfl))
                              try simp only [Act.put, List.setIfInBounds_toArray, List.set_cons_zero, List.set_cons_succ]
                              refine' wpAnyH_take (i := 13) (oi := ⟨_, _, _, _, _, _⟩) (v := _) rfl (by kernel_rfl) (by kernel_rfl) (by kernel_rfl) (fun _ _ _ h => h) (Or.inl ⟨rfl, ?_⟩) hHeld ?_
                              rotate_left
                              · (intro W' hW; (try dsimp only at hW); obtain ⟨z0, z1, z2, z3⟩ := hW; go_simp; (try with_reducible rfl))
                              try simp only [Act.put, List.setIfInBounds_toArray, List.set_cons_zero, List.set_cons_succ]
                              refine' wpAnyH_take (i := 14) (oi := ⟨_, _, _, _, _, _⟩) (v := _) rfl (by kernel_rfl) (by kernel_rfl) (by kernel_rfl) (fun _ _ _ h => h) (Or.inl ⟨rfl, ?_⟩) hHeld ?_
                              rotate_left
                              · (intro W' hW; (try dsimp only at hW); go_simp; (try with_reducible rfl))
                              try simp only [Act.put, List.setIfInBounds_toArray, List.set_cons_zero, List.set_cons_succ]
                              clear hHeld
                              refine heldT_one (i := 10) (by kernel_rfl) rfl (fun K hK => ?_)
                              go_simp
                              go_at_call 27
                              refine (rget32_any _ n'' _ r' _ (by exact F6.out.isB.rd) HLN.out.symm hI.out.byt (by have := H5.out; omega) (by omega)).mono ?_
                              rintro e w8 ⟨rfl, d8, rfl⟩
                              rw [← HCK.out]
                              have F7 : Hid (FrS (V.drew.drewN d8) base (some ⟨b1, o1, none⟩) n'' c'' r') := hide (F6.out.keep (below_drewN (below_drewN (Below.refl V.heap.size V) 1) d8))
                              have O7 : Hid (OwnPs (V.drew.drewN d8) base (.slice (some ⟨bl, ol, none⟩) i cL) L) := hide (ownPs_turn O6.out (Turn.of_below (fun _ => False) (below_drewN (below_drewN (Below.refl V.heap.size V) 1) d8)) (fun _ _ e => e))
                              have B7 : Hid (Blk (V.drew.drewN d8) 0 62 ga [.int .u64 (v0 : Int), .int .u64 (v1 : Int), .int .u64 (v2 : Int)]) := hide ((B6.out.drewN 1).drewN d8)
                              have K7 : Hid (Below w.heap.size w (V.drew.drewN d8)) := hide (below_drewN (below_drewN K6.out 1) d8)
                              have Z7 : Hid (base ≤ (V.drew.drewN d8).heap.size) := hide Z6.out
                              have x0 : (V.drew.drewN d8).cell? ⟨ga, 0, none⟩ = some (.int .u64 (v0 : Int)) := y0
                              have x1 : (V.drew.drewN d8).cell? ⟨ga, 1, none⟩ = some (.int .u64 (v1 : Int)) := y1
                              have x2 : (V.drew.drewN d8).cell? ⟨ga, 2, none⟩ = some (.int .u64 (v2 : Int)) := y2
                              have x4 : (V.drew.drewN d8).cell? ⟨b1, o1 + 4, none⟩ = some (.int .u8 (f4 : Int)) := y4
                              clear y0 y1 y2 y4 F6 O6 B6 K6 Z6
                              generalize V.drew.drewN d8 = V8 at *
                              have hHeld : (fun W' => W'.cell? ⟨ga, 0, none⟩ = some (.int .u64 (v0 : Int)) ∧ W'.cell? ⟨ga, 1, none⟩ = some (.int .u64 (v1 : Int)) ∧ W'.cell? ⟨ga, 2, none⟩ = some (.int .u64 (v2 : Int)) ∧ W'.cell? ⟨b1, o1 + 4, none⟩ = some (.int .u8 (f4 : Int))) V8 := ⟨x0, x1, x2, x4⟩
                              refine hK.out _ _ hHeld ?_
                              clear hK
                              try simp only [List.setIfInBounds_toArray, List.set_cons_zero, List.set_cons_succ]
                              refine' wpAnyH_take (i := 15) (oi := ⟨_, _, _, _, _, _⟩) (v := _) rfl (by kernel_rfl) (by kernel_rfl) (by kernel_rfl) (fun _ _ _ h => h) (Or.inl ⟨rfl, ?_⟩) hHeld ?_
                              rotate_left
                              · (intro W' hW; (try dsimp only at hW); go_simp; (try with_reducible rfl))
                              try simp only [Act.put, List.setIfInBounds_toArray, List.set_cons_zero, List.set_cons_succ]
                              clear hHeld
                              refine heldT_one (i := 16) (by kernel_rfl) rfl (fun K hK => ?_)
                              go_simp
                              have k9 := below_alloc V8 (.cells #[.int .u64 (v0 : Int), .int .i64 (v1 : Int), .int .i64 (v2 : Int), .int .u32 (ck : Int), .bool fl] 36)
                              obtain ⟨g9, hg9⟩ : ∃ g, g = V8.heap.size := ⟨_, rfl⟩
                              have NW := hide (plC_new V8 g9 hg9 (newP vs r'))
                              have F8 := hide (F7.out.keep k9)
                              have O8 := hide (ownPs_turn O7.out (Turn.of_below (fun _ => False) k9) (fun _ _ e => e))
                              have B8 := hide (B7.out.keep k9)
                              have K8 := hide (below_step K7.out k9)
                              have Z8 := hide (Nat.le_trans Z7.out k9.size)
                              have x0' := (k9.cell (cell_lt x0)).trans x0
                              have x1' := (k9.cell (cell_lt x1)).trans x1
                              have x2' := (k9.cell (cell_lt x2)).trans x2
                              have x4' := (k9.cell (cell_lt x4)).trans x4
                              have NW2 : Hid (∀ (j : Nat) (u : Value), (plC (newP vs r'))[j]? = some u → (V8.alloc (.cells #[.int .u64 (v0 : Int), .int .i64 (v1 : Int), .int .i64 (v2 : Int), .int .u32 (ck : Int), .bool fl] 36)).cell? ((⟨g9, 0, none⟩ : Addr).add j) = some u) := by
                                intro j u h
                                have h9 := HPC.out
                                have e := NW.out j u h
                                unfold plC at h9
                                simp only [List.cons.injEq, Value.int.injEq, Value.bool.injEq, true_and, and_true] at h9
                                obtain ⟨e1, e2, e3, e4, e5⟩ := h9
                                rw [e1, e2, e3, e4, e5] at e
                                exact e
                              rw [← hg9]
                              clear x0 x1 x2 x4 k9 hg9 F7 O7 B7 K7 Z7 NW
                              generalize V8.alloc (.cells #[.int .u64 (v0 : Int), .int .i64 (v1 : Int), .int .i64 (v2 : Int), .int .u32 (ck : Int), .bool fl] 36) = V9 at *
                              have hHeld : (fun W' => W'.cell? ⟨ga, 0, none⟩ = some (.int .u64 (v0 : Int)) ∧ W'.cell? ⟨ga, 1, none⟩ = some (.int .u64 (v1 : Int)) ∧ W'.cell? ⟨ga, 2, none⟩ = some (.int .u64 (v2 : Int)) ∧ W'.cell? ⟨b1, o1 + 4, none⟩ = some (.int .u8 (f4 : Int))) V9 := ⟨x0', x1', x2', x4'⟩
                              refine hK.out _ _ hHeld ?_
                              clear hK
                              try simp only [List.setIfInBounds_toArray, List.set_cons_zero, List.set_cons_succ]
                              clear hHeld
                              obtain ⟨i0, hi0⟩ : ∃ i, Try.prog.info? 36 = some i := by
                                have := Try.info_plc
                                cases h : Try.prog.info? 36 with
                                | none => rw [h] at this; cases this
                                | some i => exact ⟨i, rfl⟩
                              have hinfo := Try.info_plc
                              rw [hi0] at hinfo
                              simp only [Option.map_some, Option.some.injEq, Prod.mk.injEq] at hinfo
                              obtain ⟨hz0, hz1, hz2⟩ := hinfo
                              refine heldT_one (i := 17) (by kernel_rfl) rfl (fun K hK => ?_)
                              refine step_append_lies _ rfl (.tmp 102) (.tmp 118) 22 rfl base 36 i0 _ 5 32 Try.underlying22 hi0 hz0 hz1 hz2 rfl (by decide) (.slice (some ⟨bl, ol, none⟩) i cL) i (L.flatMap plC) rfl (by have := O8.out; unfold OwnPs at this; rw [hS.out.len] at this; exact this) ⟨g9, 0, none⟩ 1 1 (plC (newP vs r')) rfl rfl NW2.out (plC_one _) (by decide) (by have := HLT.out; have := HCN.out; unfold maxLen; omega) (by have := HLT.out; have := HCN.out; omega) Z8.out _ rfl ?_
                              intro gr cap w9 hown hgrow hor hlt
                              have hob : ∀ q, (Value.slice (some ⟨bl, ol, none⟩) i cL).ownBlock = some q → base ≤ q := by
                                obtain ⟨A', c', e, hb⟩ := ownPs_form O8.out
                                exact hb
                              have tg : Turn (fun q => (Value.slice (some ⟨bl, ol, none⟩) i cL).ownBlock = some q) V9 w9 := (Turn.of_grown hgrow).mono (fun q e => e.symm)
                              have hga : ∀ q, (Value.slice (some ⟨bl, ol, none⟩) i cL).ownBlock = some q → q ≠ ga := fun q e => row_neA O8.out B8.out q e
                              have hb1 : b1 < base := by
                                rcases F8.out.low with h | ⟨_, _, e, h⟩
                                · cases h
                                · cases e; exact h
                              have F9 := hide (F8.out.turn tg (fun j e => hob j e))
                              have B9 := hide (B8.out.turn tg (fun e => hga ga e rfl))
                              have K9 := hide (K8.out.trans (tg.below K8.out.size (fun q e => Nat.le_trans HSZ.out (hob q e))))
                              have Z9 := hide (Nat.le_trans Z8.out tg.size)
                              have O9 : Hid (OwnPs w9 base (.slice (some ⟨gr, 0, none⟩) (i + 1) cap) (L ++ [newP vs r'])) := by
                                unfold Hid OwnPs
                                rw [List.length_append, List.length_singleton, hS.out.len, List.flatMap_append]
                                simpa using hown
                              have u4 : w9.cell? ⟨b1, o1 + 4, none⟩ = some (.int .u8 (f4 : Int)) := tg.cell x4' (fun e => by have := hob b1 e; omega)
                              have hHeld : (fun W' => W'.cell? ⟨ga, 0, none⟩ = some (.int .u64 (v0 : Int)) ∧ W'.cell? ⟨ga, 1, none⟩ = some (.int .u64 (v1 : Int)) ∧ W'.cell? ⟨ga, 2, none⟩ = some (.int .u64 (v2 : Int)) ∧ W'.cell? ⟨b1, o1 + 4, none⟩ = some (.int .u8 (f4 : Int))) w9 := ⟨B9.out.cell 0, B9.out.cell 1, B9.out.cell 2, u4⟩
                              obtain ⟨A5, c5, f5, hsl⟩ := F9.out.cut (k := 5) (by have := H5.out; omega)
                              have hsl5 := hsl w9
                              rw [show ((5 : Nat) : Int) = 5 from rfl] at hsl5
                              obtain ⟨n5, hn5⟩ : ∃ n5, n5 = n'' - 5 := ⟨_, rfl⟩
                              rw [← hn5] at hsl5 f5
                              have hn59 : n5 ≤ 1000000000 := by omega
                              have F10 := hide f5
                              clear x0' x1' x2' x4' F8 O8 B8 K8 Z8 F9 hown hgrow hor hlt hob tg hga hb1 u4 hsl f5 hn5 hi0 hz0 hz1 hz2
                              refine hK.out _ _ hHeld ?_
                              clear hK
                              try simp only [List.setIfInBounds_toArray, List.set_cons_zero, List.set_cons_succ]
                              refine' wpAnyH_take (i := 18) (oi := ⟨_, _, _, _, _, _⟩) (v := _) rfl (by kernel_rfl) (by kernel_rfl) (by kernel_rfl) (fun _ _ _ h => h) (Or.inl ⟨rfl, ?_⟩) hHeld ?_
                              rotate_left
                              · (intro W' hW; (try dsimp only at hW); go_simp; (try with_reducible rfl))
                              try simp only [Act.put, List.setIfInBounds_toArray, List.set_cons_zero, List.set_cons_succ]
                              refine wpAnyH_done (by kernel_rfl) ?_ _
                              clear hHeld
                              have hi6 : i < 65536 := by have := HCN.out; have := HLT.out; omega
                              have hi6i : (i : Int) < 65536 := by omega
                              go_wp2_with fail
                              go_roundw
                              case rel => exact ⟨i + 1, L ++ [newP vs r'], r'.drop 5, A5, _, n5, c5, cap, by have := HLT.out; omega, rfl, rfl, by go_num, hn59, F10, O9, OD, K9, Z9⟩
                              case measure => have := HLT.out; simp [intOf]; omega
            · obtain rfl : i = cn := by omega
              have hli : ¬ (i : Int) < (i : Int) := by omega
              by_cases hr0 : n' = 0
              · subst hr0
                have hre : r = [] := List.length_eq_zero_iff.1 hF.out.len
                have HW := hide (show IxOf b L by have := hS.out; rw [hre] at this; exact this.whole HD2.out HB.out (by have := HCN.out; omega))
                clear hre hlt
                go_wp2_with fail
                go_ret2
                exact ⟨.slice AL i cL, L, 0, rfl, row_moreP hO.out HSZ.out, .inr (.inl ⟨by rw [HD.out], HW.out, rfl⟩), hK.out⟩
              · have hr0i : ((n' : Int) != 0) = true := by simp; omega
                have hre : r ≠ [] := by intro e; have := hF.out.len; rw [e] at this; simp at this; omega
                have HNX := hide (hS.out.left hre)
                clear hre hlt hr0
                go_wp2_with fail
                go_ret2
                exact ⟨.slice none 0 0, [], 3, rfl, ownPs_nil _ _, .inr (.inr ⟨by rw [HD.out], HNX.out, rfl, rfl⟩), hK.out⟩
      · have hez : ((e9 : Int) != 0) = true := by simp; omega
        have HE := hide he
        clear he
        go_wp2_with fail
        go_ret2
        exact ⟨.slice none 0 0, [], 3, rfl, ownPs_nil _ _, .inr (.inr ⟨by rw [HD.out], NOF.out (.inl HE.out), rfl, rfl⟩), K1.out⟩
    · have hmz : ((m : Int) != (n : Int)) = true := by simp; omega
      have HM := hide hm
      clear hm
      go_enter Try.func13, Try.ntmps13
      go_wp2_with fail
      refine DC.out.mono ?_
      rintro e w1 ⟨s, rfl, o1, k1⟩
      obtain ⟨As, cs, rfl, _⟩ := o1.form
      dsimp only
      go_wp2_with fail
      go_ret2
      exact ⟨.slice none 0 0, [], 3, rfl, ownPs_nil _ _, .inr (.inr ⟨by rw [HD.out], fun ps hp => by have h2 := dec_ix hp; rw [HD.out] at h2; simp only [Prod.mk.injEq] at h2; exact HM.out (by rw [h2.2.1, HN.out]), rfl, rfl⟩), k1⟩
  · have hxz : ((x : Int) != 0) = true := by simp; omega
    have HX := hide hx
    clear hx
    go_enter Try.func13, Try.ntmps13
    go_wp2_with fail
    refine DC.out.mono ?_
    rintro e w1 ⟨s, rfl, o1, k1⟩
    dsimp only
    go_wp2_with fail
    go_ret2
    exact ⟨.slice none 0 0, [], x, rfl, ownPs_nil _ _, .inl ⟨by rw [HD.out], HX.out, rfl⟩, k1⟩
end Go.Proofs.Ytdbngchbhoanpaa
