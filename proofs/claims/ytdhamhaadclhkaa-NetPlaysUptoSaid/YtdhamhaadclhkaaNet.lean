/- The contracts of the net's Len, isFull, has, Send. Condition: lists of fewer than 2 to the 40. -/
import Derived.Test.YtdhamhaadclhkaaNClone
import Derived.RegionTactic
import Derived.Deep.RegionWith
import Derived.Deep.RegionLaw
namespace Go.Proofs.Ytdhamhaadclhkaa
open Go.RowKit
abbrev PN : TypeId := 51
theorem len5_any (F : Nat → Prop) (g : Nat) (v : Value) (X : List Itm) (w : World) (h : NShell PN w F g v X) :
    Calls Try.prog 32 #[.pointer (some ⟨g, 0, none⟩)] w fun e w' => e = .returned (.int .i64 (X.length : Int)) ∧ w = w' := by
  obtain ⟨A, c, rfl, _⟩ := h.row.form
  have c0 : w.cell? ⟨g, 0, none⟩ = some (.slice A X.length c) := h.cells.cell 0
  clear h
  go_enter Try.func32, Try.ntmps32
  go_wp2
  go_ret
  exact ⟨rfl, rfl⟩
theorem isFull_any (F : Nat → Prop) (g : Nat) (v : Value) (X : List Itm) (w : World) (h : NShell PN w F g v X) :
    Calls Try.prog 63 #[.pointer (some ⟨g, 0, none⟩)] w fun e w' => e = .returned (.bool (decide (X.length = 4096))) ∧ w = w' := by
  obtain ⟨A, c, rfl, _⟩ := h.row.form
  have c0 : w.cell? ⟨g, 0, none⟩ = some (.slice A X.length c) := h.cells.cell 0
  have hm := h.most
  obtain ⟨n, hn⟩ : ∃ n, n = X.length := ⟨_, rfl⟩
  rw [← hn] at c0 hm ⊢
  clear h hn
  rcases Nat.lt_or_ge n 4096 with h1 | h1
  · have h2 : decide ((4096 : Int) ≤ (n : Int)) = false := decide_eq_false (by omega)
    have h3 : decide (n = 4096) = false := decide_eq_false (by omega)
    rw [h3]
    go_enter Try.func63, Try.ntmps63
    go_wp2
    go_ret
    exact ⟨rfl, rfl⟩
  · have h2 : decide ((4096 : Int) ≤ (n : Int)) = true := decide_eq_true (by omega)
    have h3 : decide (n = 4096) = true := decide_eq_true (by omega)
    rw [h3]
    go_enter Try.func63, Try.ntmps63
    go_wp2
    go_ret
    exact ⟨rfl, rfl⟩
theorem has_any (F : Nat → Prop) (g : Nat) (v : Value) (X : List Itm) (i : Int) (w : World) (h : NShell PN w F g v X) :
    Calls Try.prog 65 #[.pointer (some ⟨g, 0, none⟩), .int .i64 i] w fun e w' => e = .returned (.bool (decide (0 ≤ i ∧ i < (X.length : Int)))) ∧ w = w' := by
  have HL := hide (len5_any F g v X w h)
  have hm := h.most
  obtain ⟨n, hn⟩ : ∃ n, n = X.length := ⟨_, rfl⟩
  rw [← hn] at hm HL ⊢
  clear h hn
  by_cases h0 : 0 ≤ i
  · by_cases h1 : i < (n : Int)
    · have h2 : decide (i < (n : Int)) = true := decide_eq_true h1
      rw [decide_eq_true (show 0 ≤ i ∧ i < (n : Int) from ⟨h0, h1⟩)]
      go_enter Try.func65, Try.ntmps65
      go_wp2_with fail
      refine HL.out.mono ?_
      rintro e w' ⟨rfl, rfl⟩
      go_wp2
      go_ret
      exact ⟨rfl, rfl⟩
    · have h2 : decide (i < (n : Int)) = false := decide_eq_false h1
      rw [decide_eq_false (show ¬ (0 ≤ i ∧ i < (n : Int)) from fun h => h1 h.2)]
      go_enter Try.func65, Try.ntmps65
      go_wp2_with fail
      refine HL.out.mono ?_
      rintro e w' ⟨rfl, rfl⟩
      go_wp2
      go_ret
      exact ⟨rfl, rfl⟩
  · rw [decide_eq_false (show ¬ (0 ≤ i ∧ i < (n : Int)) from fun h => h0 h.1)]
    go_enter Try.func65, Try.ntmps65
    go_wp2
    go_ret
    exact ⟨rfl, rfl⟩
theorem send_full (F : Nat → Prop) (g : Nat) (v : Value) (X : List Itm) (f t k : Int) (U V : Value) (w : World) (h : NShell PN w F g v X) (hf : X.length = 4096) :
    Calls Try.prog 20 #[.pointer (some ⟨g, 0, none⟩), .agg #[.int .i64 f, .int .i64 t, .int .i64 k, U, V]] w fun e w' => e = .returned (.bool false) ∧ Below w.heap.size w w' := by
  have ka := below_alloc w (.cells #[.int .i64 f, .int .i64 t, .int .i64 k, U, V] 45)
  have HF := hide (isFull_any F g v X _ (h.below ka))
  rw [decide_eq_true hf] at HF
  have KA := hide ka
  clear h hf ka
  go_enter Try.func20, Try.ntmps20
  go_wp2_with fail
  refine HF.out.mono ?_
  rintro e w' ⟨rfl, rfl⟩
  go_wp2_with fail
  go_ret
  exact ⟨rfl, KA.out⟩
set_option maxRecDepth 100000 in
set_option maxHeartbeats 3200000 in
theorem send_ok (F : Nat → Prop) (g : Nat) (v : Value) (X : List Itm) (f t k : Int) (A D : Option Addr) (n c m cp : Nat) (zs : List Int) (d : List Nat) (w : World) (h : NShell PN w F g v X) (hf : X.length < 4096) (hN : IsI w (.slice A n c) zs) (hA : A = none → c = 0) (hD : IsB w (.slice D m cp) d) (hd : d.length = m) (hn : n ≤ 1099511627776) (hm : m ≤ 1099511627776) :
    Calls Try.prog 20 #[.pointer (some ⟨g, 0, none⟩), .agg #[.int .i64 f, .int .i64 t, .int .i64 k, .slice A n c, .slice D m cp]] w fun e w' => e = .returned (.bool true) ∧ ∃ v' u1 u2, NShell PN w' (andNew F w w') g v' (X ++ [⟨f, t, k, u1, u2, zs, d⟩]) ∧ Turn F w w' := by
  have ka := below_alloc w (.cells #[.int .i64 f, .int .i64 t, .int .i64 k, .slice A n c, .slice D m cp] 45)
  have ma := msgAt_new w 45 f t k (.slice A n c) (.slice D m cp)
  obtain ⟨w1, hw1⟩ : ∃ w1, w1 = w.alloc (.cells #[.int .i64 f, .int .i64 t, .int .i64 k, .slice A n c, .slice D m cp] 45) := ⟨_, rfl⟩
  rw [← hw1] at ka ma
  have h1 := h.below ka
  have HF := hide (isFull_any F g v X _ h1)
  rw [decide_eq_false (by omega)] at HF
  have HC := hide (fun (wx : World) (kx : Below w.heap.size w wx) => clone5_any f t k A D n c m cp zs d wx (hN.keep kx) hA (hD.keep kx) hd hn hm)
  obtain ⟨A0, c0, rfl, hlc, hc63, hcn, -⟩ := h1.row.form
  have q0 : w1.cell? ⟨g, 0, none⟩ = some (.slice A0 X.length c0) := h1.cells.cell 0
  have hgl : g < w1.heap.size := h1.cells.lt
  have hfr := h1.cells.frozen 0
  obtain ⟨m0, m1, m2, m3, m4⟩ := ma
  have HW := hide hw1
  have H1 := hide h1
  have KA := hide ka
  have h := hide h
  have hd := hide hd
  have HLN := hide hN.len
  have HLZ : Hid (zs.length ≤ 1099511627776) := by unfold Hid; rw [hN.len]; exact hn
  have HLD : Hid (d.length ≤ 1099511627776) := by unfold Hid; rw [hd.out]; exact hm
  obtain ⟨N, hXN⟩ : ∃ N, N = X.length := ⟨_, rfl⟩
  rw [← hXN] at q0 hlc hf
  have HXN := hide hXN
  clear ka hN hA hD h1 hXN hw1
  go_enter Try.func20, Try.ntmps20
  go_wp2_with fail
  rw [← HW.out]
  refine HF.out.mono ?_
  rintro e w' ⟨rfl, rfl⟩
  go_wp2_with fail
  go_region_law (first
      | (refine step_append_msgs rfl (.tmp 15) (.tmp 18) rfl 0 (.slice A0 X.length c0) X (by rw [← HXN.out]; rfl) ((H1.out.below (K3.out.alloc K3.out.size _)).row) (.slice (some ⟨w3.heap.size, 0, none⟩) 1 1) [⟨f, t, k, .slice A3 n c3, .slice D3 m cp3, zs, d⟩] rfl (isM_one _ f t k A3 n c3 D3 m cp3 zs d _ rfl) (by rw [← HXN.out, List.length_singleton]; omega) (Nat.zero_le _) ?_; intro v4 w4 o4 g4 l4; obtain ⟨b4, s4, t4⟩ := h.out.appended (by decide) (by decide) (by decide) ((KA.out.trans (K3.out.mono KA.out.size)).alloc (KA.out.trans (K3.out.mono KA.out.size)).size _) o4 g4 l4 (len_app HXN.out hf) (each_app (good_fresh f t k on3 od3 KA.out.size (below_alloc w3 _) HLZ.out HLD.out)); obtain ⟨A4, c4, e4, -⟩ := o4.form; rw [List.length_append, List.length_singleton] at e4; subst e4; have q4 : w4.cell? ⟨g, 0, none⟩ = some (.slice A0 X.length c0) := (by exact b4.cell 0); have f4 := b4.frozen 0; have S4 := hide s4; have T4 := hide t4; clear s4 t4 o4 g4 l4 b4)
      | (go_simp; go_at_call 64; refine (HC.out _ (by exact ⟨KA.out.os, KA.out.tape, KA.out.output, KA.out.size, KA.out.block⟩)).mono ?_; rintro e w3 ⟨r3, rfl, fr3, k3⟩; obtain ⟨A3, c3, D3, cp3, rfl, on3, od3⟩ := fr3; rw [HLN.out] at on3; rw [hd.out] at od3; rw [HLN.out, hd.out]; have K3 : Hid (Below w1.heap.size w1 w3) := (by exact ⟨k3.os, k3.tape, k3.output, k3.size, k3.block⟩); have q3 : w3.cell? ⟨g, 0, none⟩ = some (.slice A0 N c0) := (by rw [← q0]; exact K3.out.cell hgl); have hg3 : g < w3.heap.size := (by exact Nat.lt_of_lt_of_le hgl K3.out.size)))
  all_goals
    go_wp2_with fail
    go_ret
    exact ⟨rfl, _, _, _, S4.out, T4.out⟩
/-- The net's Send. -/
def sendL (m : Int × Int × Int × List Int × List Nat) (L : List (Int × Int × Int × List Int × List Nat)) : List (Int × Int × Int × List Int × List Nat) := if L.length = 4096 then L else L ++ [m]
theorem send_any (F : Nat → Prop) (g : Nat) (L : List (Int × Int × Int × List Int × List Nat)) (f t k : Int) (A D : Option Addr) (n c m cp : Nat) (zs : List Int) (d : List Nat) (w : World) (h : NetAt PN w F g L) (hN : IsI w (.slice A n c) zs) (hA : A = none → c = 0) (hD : IsB w (.slice D m cp) d) (hd : d.length = m) (hn : n ≤ 1099511627776) (hm : m ≤ 1099511627776) :
    Calls Try.prog 20 #[.pointer (some ⟨g, 0, none⟩), .agg #[.int .i64 f, .int .i64 t, .int .i64 k, .slice A n c, .slice D m cp]] w fun e w' => e = .returned (.bool (decide (L.length < 4096))) ∧ ∃ F', NetAt PN w' F' g (sendL (f, t, k, zs, d) L) ∧ Next F w F' w' := by
  obtain ⟨v, X, rfl, hS⟩ := h
  have hm := hS.most
  unfold sendL
  rw [List.length_map]
  by_cases hf : X.length = 4096
  · rw [decide_eq_false (by omega), if_pos hf]
    refine (send_full F g v X f t k _ _ w hS hf).mono ?_
    rintro e w' ⟨rfl, k⟩
    exact ⟨rfl, F, ⟨v, X, rfl, hS.below k⟩, Next.of_below F k⟩
  · rw [decide_eq_true (by omega), if_neg hf]
    refine (send_ok F g v X f t k A D n c m cp zs d w hS (by omega) hN hA hD hd hn (by omega)).mono ?_
    rintro e w' ⟨rfl, v', u1, u2, h', t'⟩
    exact ⟨rfl, _, ⟨v', _, by rw [List.map_append]; rfl, h'⟩, andNew.next t'⟩
end Go.Proofs.Ytdhamhaadclhkaa
