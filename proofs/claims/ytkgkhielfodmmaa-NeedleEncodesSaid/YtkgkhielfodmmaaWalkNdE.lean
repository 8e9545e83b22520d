/- The walk of the law NeedleEncodes: it returns true for any needle. Condition: no row is longer than the form's reach. -/
import Derived.Test.YtkgkhielfodmmaaNdKnow
import Derived.Test.YtkgkhielfodmmaaRNdEncA
import Derived.Test.YtkgkhielfodmmaaRoomy
namespace Go.Proofs.Ytkgkhielfodmmaa
open Go.RowKit
theorem encN_len (key cook : Nat) (d : Bool) (data : List Nat) : ((encN key cook d data).2 = 0 ∧ (encN key cook d data).1.length = ndSize data.length ∨ (encN key cook d data).2 ≠ 0) ∧ (encN key cook d data).1.length ≤ 65568 ∧ (encN key cook d data).2 ≤ 5 := by
  unfold encN
  split
  · exact ⟨.inr (by decide), by decide, by decide⟩
  · split
    · exact ⟨.inr (by decide), by decide, by decide⟩
    · have h := needleL_len key cook d data (by omega)
      exact ⟨.inl ⟨rfl, h⟩, by rw [h]; exact (ndSize_le _).1, Nat.zero_le 5⟩
set_option maxRecDepth 100000 in
set_option maxHeartbeats 3200000 in
theorem needleEncodes_core (key cook : Nat) (d : Bool) (A : Option Addr) (n c : Nat) (data : List Nat) (w : World) (hk : key < 18446744073709551616) (hc : cook < 4294967296) (hA : IsB w (.slice A n c) data) (hn : data.length = n) (hb : ∀ x ∈ data, x < 256) (h7 : n ≤ 70000) :
    Calls Try.prog 3 #[.agg #[.int .u64 (key : Int), .int .u32 (cook : Int), .bool d, .slice A n c]] w fun e w' => e = .returned (.bool true) ∧ Below w.heap.size w w' := by
  obtain ⟨res, hres⟩ : ∃ r, r = (encN key cook d data).1 := ⟨_, rfl⟩
  obtain ⟨er, her⟩ : ∃ r, r = (encN key cook d data).2 := ⟨_, rfl⟩
  have hl := encN_len key cook d data
  rw [← hres, ← her, hn] at hl
  obtain ⟨rl, hrl⟩ : ∃ r, r = res.length := ⟨_, rfl⟩
  rw [← hrl] at hl
  obtain ⟨sz, hsz⟩ : ∃ s, s = ndSize n := ⟨_, rfl⟩
  rw [← hsz] at hl
  have HENC := hide (fun (A' : Option Addr) (c' : Nat) (w' : World) (h : IsB w' (.slice A' n c') data) => ndenc_any key cook d A' n c' data w' h hn hb hk hc)
  have HREN := hide (fun (A' : Option Addr) (c' : Nat) (w' : World) (h : IsB w' (.slice A' n c') data) => rndenc_any key cook d A' n c' data w' h hn hb hk hc)
  have kw := below_alloc w (.cells #[.int .u64 (key : Int), .int .u32 (cook : Int), .bool d, .slice A n c] 26)
  obtain ⟨c0, c1, c2, c3⟩ := box4 w (.int .u64 (key : Int)) (.int .u32 (cook : Int)) (.bool d) (.slice A n c) 26 _ rfl
  obtain ⟨W, hW⟩ : ∃ W, W = w.alloc (.cells #[.int .u64 (key : Int), .int .u32 (cook : Int), .bool d, .slice A n c] 26) := ⟨_, rfl⟩
  rw [← hW] at kw c0 c1 c2 c3
  have hwl : w.heap.size < W.heap.size := by rw [hW]; simp
  have HE := hide (And.intro hres (And.intro her (And.intro hrl hsz)))
  have HA := hide (hA.keep kw)
  have HN := hide hn
  have KW := hide kw
  have HW := hide hW
  have e1 : ((er : Int) == (er : Int)) = true := by simp
  have hgo : ((er : Int) != 0) = true ∨ ((er : Int) != 0) = false ∧ ((rl : Int) == (sz : Int)) = true := by
    simp only [bne_iff_ne, ne_eq, bne_eq_false_iff_eq, beq_iff_eq]
    omega
  obtain ⟨_, hrl2, her5⟩ := hl
  clear hA hn hb hk hc hres her hrl hsz kw hW
  rcases hgo with hz | ⟨hz, hq⟩
  all_goals
    go_enter Try.func3, Try.ntmps3
    go_wp2_with fail
    rw [← HW.out]
    refine (roomy_any A n c data W HA.out HN.out (by omega)).mono ?_
    rintro e w1 ⟨A1, f1, rfl, i1, l1, m1, k1⟩
    have i2 := i1.take n (by omega)
    rw [List.take_left' HN.out] at i2
    have x0 := (k1.cell (p := ⟨w.heap.size, 0, none⟩) hwl).trans c0
    have x1 := (k1.cell (p := ⟨w.heap.size, 1, none⟩) hwl).trans c1
    have x2 := (k1.cell (p := ⟨w.heap.size, 2, none⟩) hwl).trans c2
    have x3 := (k1.cell (p := ⟨w.heap.size, 3, none⟩) hwl).trans c3
    have hwl1 : w.heap.size < w1.heap.size := Nat.lt_of_lt_of_le hwl k1.size
    have ka := below_alloc w1 (.cells #[.int .u64 (key : Int), .int .u32 (cook : Int), .bool d, .slice A1 n f1] 26)
    have I1 := hide (i1.keep ka)
    have I2 := hide (i2.keep ka)
    have IA := hide (HA.out.keep (below_step k1 ka))
    have K1 := hide (below_step (below_step KW.out k1) ka)
    have y0 := (ka.cell (p := ⟨w.heap.size, 0, none⟩) hwl1).trans x0
    have y1 := (ka.cell (p := ⟨w.heap.size, 1, none⟩) hwl1).trans x1
    have y2 := (ka.cell (p := ⟨w.heap.size, 2, none⟩) hwl1).trans x2
    have y3 := (ka.cell (p := ⟨w.heap.size, 3, none⟩) hwl1).trans x3
    have Y := hide (And.intro y0 (And.intro y1 (And.intro y2 y3)))
    have LW : Hid (w.heap.size < (w1.alloc (.cells #[.int .u64 (key : Int), .int .u32 (cook : Int), .bool d, .slice A1 n f1] 26)).heap.size) := hide (Nat.lt_of_lt_of_le hwl1 ka.size)
    clear i1 i2 k1 ka c0 c1 c2 c3 y0 y1 y2 y3
    go_wp2_with fail
    generalize w1.alloc (.cells #[.int .u64 (key : Int), .int .u32 (cook : Int), .bool d, .slice A1 n f1] 26) = W1 at I1 I2 IA K1 Y LW ⊢
    refine (HENC.out A1 f1 W1 I2.out).mono ?_
    rw [← HE.out.1, ← HE.out.2.1]
    rintro e w3 ⟨s3, rfl, o3, k3⟩
    obtain ⟨A3, f3, rfl, i3, _, _⟩ := o3.isB.form (n := rl) HE.out.2.2.1.symm
    have c0 := (k3.cell (p := ⟨w.heap.size, 0, none⟩) LW.out).trans Y.out.1
    have c1 := (k3.cell (p := ⟨w.heap.size, 1, none⟩) LW.out).trans Y.out.2.1
    have c2 := (k3.cell (p := ⟨w.heap.size, 2, none⟩) LW.out).trans Y.out.2.2.1
    have c3 := (k3.cell (p := ⟨w.heap.size, 3, none⟩) LW.out).trans Y.out.2.2.2
    have I3 := hide i3
    have I1 := hide (I1.out.keep k3)
    have IA := hide (IA.out.keep k3)
    have K3 := hide (below_step K1.out k3)
    have LW3 : Hid (w.heap.size < w3.heap.size) := hide (Nat.lt_of_lt_of_le LW.out k3.size)
    clear o3 k3 i3 x0 x1 x2 x3
    go_wp2_with fail
    refine (HREN.out A c w3 IA.out).mono ?_
    rw [← HE.out.1, ← HE.out.2.1]
    rintro e w4 ⟨s4, rfl, o4, k4⟩
    obtain ⟨A4, f4, rfl, i4, _, _⟩ := o4.isB.form (n := rl) HE.out.2.2.1.symm
    have d3 := (k4.cell (p := ⟨w.heap.size, 3, none⟩) LW3.out).trans c3
    have I4 := hide i4
    have I3 := hide (I3.out.keep k4)
    have I1 := hide (I1.out.keep k4)
    have IA := hide (IA.out.keep k4)
    have K4 := hide (below_step K3.out k4)
    clear o4 k4 i4 c0 c1 c2 c3
    go_wp2_with fail
    refine (same_any A3 A4 rl rl f3 f4 _ _ _ I3.out.rd I4.out.rd HE.out.2.2.1 HE.out.2.2.1 (by omega) (by omega)).mono ?_
    rintro e w5 ⟨rfl, d5, rfl⟩
    rw [decide_eq_true rfl]
    go_wp2_with fail
    refine (stands_any A1 f1 A n c data _ (I1.out.drewN d5) (IA.out.drewN d5) HN.out (by omega) l1 m1).mono ?_
    rintro e w6 ⟨rfl, d6, rfl⟩
    first
      | (go_wp2_with fail
         refine (known_any _).mono ?_
         rintro e w7 ⟨rfl, k7⟩
         go_wp2_with fail
         go_ret
         exact ⟨rfl, below_step (below_draw K4.out (d5 + d6)) k7⟩)
      | (go_wp2_with fail
         refine (ndsize_any _ _ (by omega) (by omega)).mono ?_
         rintro e w9 ⟨rfl, rfl⟩
         rw [Int.toNat_natCast, ← HE.out.2.2.2]
         go_wp2_with fail
         refine (known_any _).mono ?_
         rintro e w7 ⟨rfl, k7⟩
         go_wp2_with fail
         go_ret
         exact ⟨rfl, below_step (below_draw K4.out (d5 + d6)) k7⟩)
set_option maxHeartbeats 800000 in
theorem needleEncodes_long (key cook : Nat) (d : Bool) (A : Option Addr) (n c : Nat) (w : World) (h5 : ¬ n ≤ 70000) (_h : n ≤ 140737488351232) :
    Calls Try.prog 3 #[.agg #[.int .u64 (key : Int), .int .u32 (cook : Int), .bool d, .slice A n c]] w fun e w' => e = .returned (.bool true) ∧ Below w.heap.size w w' := by
  go_enter Try.func3, Try.ntmps3
  go_wp2_with fail
  go_ret
  exact ⟨rfl, below_alloc _ _⟩
theorem needleEncodes_walk (key cook : Nat) (d : Bool) (A : Option Addr) (n c : Nat) (data : List Nat) (W : World) (hk : key < 18446744073709551616) (hc : cook < 4294967296) (hA : IsB W (.slice A n c) data) (hn : data.length = n) (hb : ∀ x ∈ data, x < 256) (hl : n ≤ 140737488351232) :
    Calls Try.prog 3 #[.agg #[.int .u64 (key : Int), .int .u32 (cook : Int), .bool d, .slice A n c]] W fun e w' => e = .returned (.bool true) ∧ Below W.heap.size W w' := by
  by_cases h5 : n ≤ 70000
  · exact needleEncodes_core key cook d A n c data W hk hc hA hn hb h5
  · exact needleEncodes_long key cook d A n c W h5 hl
end Go.Proofs.Ytkgkhielfodmmaa
