/- The contracts of strip.Find and of the document's own: the place of a key, among places whose keys rise. Condition: fewer than 2 to the 40 places. -/
import Derived.Test.YtdbngchbhoanpaaSx21
namespace Go.Proofs.Ytdbngchbhoanpaa
open Go.RowKit Go.Maps
attribute [local go_sem] Oper.semAt_some
/-- Keys rise. -/
def RiseK (ps : List Plc) : Prop := ∀ i j, i < j → j < ps.length → (ps.getD i noPlc).key < (ps.getD j noPlc).key
theorem rise_ix {ps : List Plc} (h : IsIx ps) : RiseK ps := by
  intro i j hij hj
  induction j with
  | zero => omega
  | succ j ih =>
    have h1 := (h (j + 1) hj).1 (by omega)
    rw [Nat.add_sub_cancel] at h1
    rcases Nat.lt_or_ge i j with h2 | h2
    · exact Nat.lt_trans (ih h2 (by omega)) h1
    · obtain rfl : i = j := by omega
      exact h1
/-- What Find answers. -/
def FdA (ps : List Plc) (key : Nat) (v : Value) (b : Bool) : Prop := (∃ i, i < ps.length ∧ (ps.getD i noPlc).key = key ∧ v = plcV (ps.getD i noPlc) ∧ b = true) ∨ ((∀ i, i < ps.length → (ps.getD i noPlc).key ≠ key) ∧ v = plcV noPlc ∧ b = false)
/-- The same, of an ending. -/
def FdE (ps : List Plc) (key : Nat) (e : Ending) : Prop := ∃ v b, e = .returned (.tuple #[v, .bool b]) ∧ FdA ps key v b
theorem fdA_once {ps : List Plc} {key : Nat} {u v : Value} {b c : Bool} (hr : RiseK ps) (h : FdA ps key u b) (k : FdA ps key v c) : u = v ∧ b = c := by
  rcases h with ⟨i, h1, h2, rfl, rfl⟩ | ⟨h1, rfl, rfl⟩ <;> rcases k with ⟨j, k1, k2, rfl, rfl⟩ | ⟨k1, rfl, rfl⟩
  · have : i = j := by
      rcases Nat.lt_trichotomy i j with h | h | h
      · have := hr i j h k1; omega
      · exact h
      · have := hr j i h h1; omega
    rw [this]
    exact ⟨rfl, rfl⟩
  · exact absurd h2 (k1 i h1)
  · exact absurd k2 (h1 j k1)
  · exact ⟨rfl, rfl⟩
theorem five_set {w : World} {B z : Nat} {a b c d e : Value} (h : Blk w B 36 z [a, b, c, d, e]) (p : Plc) : Blk (((((w.setCell ⟨z, 0, none⟩ (.int .u64 (p.key : Int))).setCell ⟨z, 1, none⟩ (.int .i64 p.at_)).setCell ⟨z, 2, none⟩ (.int .i64 p.n)).setCell ⟨z, 3, none⟩ (.int .u32 (p.cook : Int))).setCell ⟨z, 4, none⟩ (.bool p.dead)) B 36 z [.int .u64 (p.key : Int), .int .i64 p.at_, .int .i64 p.n, .int .u32 (p.cook : Int), .bool p.dead] :=
  ((((h.stored 0 _).stored 1 _).stored 2 _).stored 3 _).stored 4 _
theorem five_below {w w' : World} {B z : Nat} (h : Below B w w') (hz : B ≤ z) (p : Plc) : Below B w (((((w'.setCell ⟨z, 0, none⟩ (.int .u64 (p.key : Int))).setCell ⟨z, 1, none⟩ (.int .i64 p.at_)).setCell ⟨z, 2, none⟩ (.int .i64 p.n)).setCell ⟨z, 3, none⟩ (.int .u32 (p.cook : Int))).setCell ⟨z, 4, none⟩ (.bool p.dead)) :=
  ((((h.setCell (p := ⟨z, 0, none⟩) hz _).setCell (p := ⟨z, 1, none⟩) hz _).setCell (p := ⟨z, 2, none⟩) hz _).setCell (p := ⟨z, 3, none⟩) hz _).setCell (p := ⟨z, 4, none⟩) hz _
set_option maxRecDepth 100000 in
set_option maxHeartbeats 3200000 in
theorem rfind_any (A : Option Addr) (n c key : Nat) (ps : List Plc) (w : World) (hA : IsP w A ps) (hn : ps.length = n) (hm : n ≤ 1000000000000) :
    Calls Try.prog 11 #[.slice A n c, .int .u64 (key : Int)] w fun e w' => FdE ps key e ∧ Below w.heap.size w w' := by
  have k0 := below_alloc w (.cells #[.int .u64 0, .int .i64 0, .int .i64 0, .int .u32 0, .bool false] 36)
  have b0 : Blk (w.alloc (.cells #[.int .u64 0, .int .i64 0, .int .i64 0, .int .u32 0, .bool false] 36)) 0 36 w.heap.size [.int .u64 0, .int .i64 0, .int .i64 0, .int .u32 0, .bool false] := Blk.new w (B := 0) 36 #[.int .u64 0, .int .i64 0, .int .i64 0, .int .u32 0, .bool false] (Nat.zero_le _)
  have HA := hide (hA.keep k0)
  have HN := hide hn
  have K0 := hide k0
  have B0 := hide b0
  clear hA hn k0 b0
  go_enter Try.func11, Try.ntmps11
  go_wp2_with fail
  obtain ⟨z, hz⟩ : ∃ z, z = w.heap.size := ⟨_, rfl⟩
  rw [← hz] at B0 ⊢
  generalize w.alloc (.cells #[.int .u64 0, .int .i64 0, .int .i64 0, .int .u32 0, .bool false] 36) = W at *
  have HZ := hide hz
  clear hz
  go_loop [6] (fun i => ∃ j : Nat, j ≤ n ∧ i = .int .i64 (j : Int) ∧ Hid (∀ k, k < j → (ps.getD k noPlc).key ≠ key)) (fun i => n - (intOf i).toNat)
  case atStart => exact ⟨0, Nat.zero_le _, rfl, by simp [Hid]⟩
  case round =>
    obtain ⟨j, hj, rfl, hP⟩ := hrel
    have a0 := B0.out.cell 0
    have a1 := B0.out.cell 1
    have a2 := B0.out.cell 2
    have a3 := B0.out.cell 3
    have a4 := B0.out.cell 4
    have g0 := B0.out.frozen 0
    have g1 := B0.out.frozen 1
    have g2 := B0.out.frozen 2
    have g3 := B0.out.frozen 3
    have g4 := B0.out.frozen 4
    dsimp only [List.getElem?_cons_zero, List.getElem?_cons_succ] at a0 a1 a2 a3 a4
    by_cases hlt : j < n
    · have hjn : (j : Int) < (n : Int) := by omega
      obtain ⟨b, o, rfl, f0, f1, f2, f3, f4⟩ := HA.out j (by rw [HN.out]; exact hlt)
      obtain ⟨P, hPP⟩ : ∃ P, ps.getD j noPlc = P := ⟨_, rfl⟩
      rw [hPP] at f0 f1 f2 f3 f4
      have HPP := hide hPP
      clear hPP
      by_cases hk : P.key = key
      · have hkz : ((P.key : Int) == (key : Int)) = true := by rw [hk]; simp
        have HK := hide hk
        clear hk
        go_wp2_with fail
        have q := five_set B0.out P
        have kq := five_below K0.out (Nat.le_of_eq HZ.out.symm) P
        generalize ((((W.setCell ⟨z, 0, none⟩ (.int .u64 (P.key : Int))).setCell ⟨z, 1, none⟩ (.int .i64 P.at_)).setCell ⟨z, 2, none⟩ (.int .i64 P.n)).setCell ⟨z, 3, none⟩ (.int .u32 (P.cook : Int))).setCell ⟨z, 4, none⟩ (.bool P.dead) = X at q kq ⊢
        have q0 := q.cell 0
        have q1 := q.cell 1
        have q2 := q.cell 2
        have q3 := q.cell 3
        have q4 := q.cell 4
        dsimp only [List.getElem?_cons_zero, List.getElem?_cons_succ] at q0 q1 q2 q3 q4
        refine bodyPost_ret (v := .tuple #[plcV P, .bool true]) (by simp [results, Try.results11, go_sem, q0, q1, q2, q3, q4, plcV]) rfl ⟨⟨_, _, rfl, .inl ⟨j, by rw [HN.out]; exact hlt, by rw [HPP.out]; exact HK.out, by rw [HPP.out], rfl⟩⟩, kq⟩
      · have hkz : ((P.key : Int) == (key : Int)) = false := by rw [beq_eq_false_iff_ne]; omega
        have HK : Hid (∀ k, k < j + 1 → (ps.getD k noPlc).key ≠ key) := by
          intro k hkj
          by_cases e : k = j
          · rw [e, HPP.out]; exact hk
          · exact hP.out k (by omega)
        clear hk
        go_wp2_with fail
        go_round
        case rel => exact ⟨j + 1, by omega, by go_num, HK⟩
        case measure => simp [intOf]; omega
    · obtain rfl : j = n := by omega
      go_wp2_with fail
      have q := five_set B0.out noPlc
      have kq := five_below K0.out (Nat.le_of_eq HZ.out.symm) noPlc
      unfold noPlc at q kq
      dsimp only at q kq
      generalize ((((W.setCell ⟨z, 0, none⟩ (.int .u64 0)).setCell ⟨z, 1, none⟩ (.int .i64 0)).setCell ⟨z, 2, none⟩ (.int .i64 0)).setCell ⟨z, 3, none⟩ (.int .u32 0)).setCell ⟨z, 4, none⟩ (.bool false) = X at q kq ⊢
      have q0 := q.cell 0
      have q1 := q.cell 1
      have q2 := q.cell 2
      have q3 := q.cell 3
      have q4 := q.cell 4
      dsimp only [List.getElem?_cons_zero, List.getElem?_cons_succ] at q0 q1 q2 q3 q4
      refine bodyPost_ret (v := .tuple #[plcV noPlc, .bool false]) (by simp [results, Try.results11, go_sem, q0, q1, q2, q3, q4, plcV, noPlc]) rfl ⟨⟨_, _, rfl, .inr ⟨fun i hi => hP.out i (by rw [← HN.out]; exact hi), rfl, rfl⟩⟩, kq⟩
set_option maxRecDepth 100000 in
set_option maxHeartbeats 3200000 in
theorem find_any (A : Option Addr) (n c key : Nat) (ps : List Plc) (w : World) (hA : IsP w A ps) (hn : ps.length = n) (hm : n ≤ 1000000000000) (hr : RiseK ps) :
    Calls Try.prog 10 #[.slice A n c, .int .u64 (key : Int)] w fun e w' => FdE ps key e ∧ Below w.heap.size w w' := by
  have k0 := below_alloc w (.cells #[.int .u64 0, .int .i64 0, .int .i64 0, .int .u32 0, .bool false] 36)
  have b0 : Blk (w.alloc (.cells #[.int .u64 0, .int .i64 0, .int .i64 0, .int .u32 0, .bool false] 36)) 0 36 w.heap.size [.int .u64 0, .int .i64 0, .int .i64 0, .int .u32 0, .bool false] := Blk.new w (B := 0) 36 #[.int .u64 0, .int .i64 0, .int .i64 0, .int .u32 0, .bool false] (Nat.zero_le _)
  have HA := hide (hA.keep k0)
  have HN := hide hn
  have HRI := hide hr
  have K0 := hide k0
  have B0 := hide b0
  clear hA hn k0 b0 hr
  go_enter Try.func10, Try.ntmps10
  go_wp2_with fail
  obtain ⟨z, hz⟩ : ∃ z, z = w.heap.size := ⟨_, rfl⟩
  rw [← hz] at B0 ⊢
  generalize w.alloc (.cells #[.int .u64 0, .int .i64 0, .int .i64 0, .int .u32 0, .bool false] 36) = W at *
  have HZ := hide hz
  clear hz
  go_loop [6, 7] (fun lo hi => ∃ a b : Nat, a ≤ b ∧ b ≤ n ∧ lo = .int .i64 (a : Int) ∧ hi = .int .i64 (b : Int) ∧ Hid (∀ k, k < a → (ps.getD k noPlc).key < key) ∧ Hid (∀ k, b ≤ k → k < n → key ≤ (ps.getD k noPlc).key)) (fun lo hi => (intOf hi).toNat - (intOf lo).toNat)
  case atStart => exact ⟨0, n, Nat.zero_le _, Nat.le_refl _, rfl, rfl, by simp [Hid], fun k h1 h2 => by omega⟩
  case round =>
    obtain ⟨a, b, hab, hbn, rfl, rfl, hL, hU⟩ := hrel
    by_cases hlt : a < b
    · obtain ⟨d, hd⟩ : ∃ d, d = b - a := ⟨_, rfl⟩
      obtain ⟨h, hh⟩ : ∃ h, h = d / 2 := ⟨_, rfl⟩
      obtain ⟨m, hm9⟩ : ∃ m, m = a + h := ⟨_, rfl⟩
      have e1 : (b : Int) - (a : Int) = (d : Int) := by omega
      have e2 : (d : Int) / 2 = (h : Int) := by omega
      have e3 : (a : Int) + (h : Int) = (m : Int) := by omega
      have hmn : m < n := by omega
      have hmni : (m : Int) < (n : Int) := by omega
      have HMB := hide (show a ≤ m ∧ m < b by omega)
      obtain ⟨bb, o, rfl, f0, f1, f2, f3, f4⟩ := HA.out m (by rw [HN.out]; exact hmn)
      obtain ⟨P, hPP⟩ : ∃ P, (ps.getD m noPlc).key = P := ⟨_, rfl⟩
      rw [hPP] at f0
      have HPP := hide hPP
      clear hPP f1 f2 f3 f4 hd hh hm9
      by_cases hk : P < key
      · have hki : (P : Int) < (key : Int) := by omega
        have HK : Hid (∀ k, k < m + 1 → (ps.getD k noPlc).key < key) := by
          intro k hk2
          rcases Nat.lt_or_ge k m with h9 | h9
          · have := HRI.out k m h9 (by rw [HN.out]; exact hmn)
            rw [HPP.out] at this
            omega
          · obtain rfl : k = m := by omega
            rw [HPP.out]; exact hk
        clear hk
        go_wp2_with fail
        go_round
        case rel => exact ⟨m + 1, b, by have := HMB.out; omega, hbn, by go_num, rfl, HK, hU⟩
        case measure => have := HMB.out; simp [intOf]; omega
      · have hki : ¬ (P : Int) < (key : Int) := by omega
        have HK : Hid (∀ k, m ≤ k → k < n → key ≤ (ps.getD k noPlc).key) := by
          intro k hk2 hk3
          rcases Nat.lt_or_ge m k with h9 | h9
          · have := HRI.out m k h9 (by rw [HN.out]; exact hk3)
            rw [HPP.out] at this
            omega
          · obtain rfl : k = m := by omega
            rw [HPP.out]; omega
        clear hk
        go_wp2_with fail
        go_round
        case rel => exact ⟨a, m, by have := HMB.out; omega, by omega, rfl, rfl, hL, HK⟩
        case measure => have := HMB.out; simp [intOf]; omega
    · obtain rfl : a = b := by omega
      have a0 := B0.out.cell 0
      have a1 := B0.out.cell 1
      have a2 := B0.out.cell 2
      have a3 := B0.out.cell 3
      have a4 := B0.out.cell 4
      have g0 := B0.out.frozen 0
      have g1 := B0.out.frozen 1
      have g2 := B0.out.frozen 2
      have g3 := B0.out.frozen 3
      have g4 := B0.out.frozen 4
      dsimp only [List.getElem?_cons_zero, List.getElem?_cons_succ] at a0 a1 a2 a3 a4
      by_cases han : a = n
      · subst han
        go_wp2_with fail
        have q := five_set B0.out noPlc
        have kq := five_below K0.out (Nat.le_of_eq HZ.out.symm) noPlc
        unfold noPlc at q kq
        dsimp only at q kq
        generalize ((((W.setCell ⟨z, 0, none⟩ (.int .u64 0)).setCell ⟨z, 1, none⟩ (.int .i64 0)).setCell ⟨z, 2, none⟩ (.int .i64 0)).setCell ⟨z, 3, none⟩ (.int .u32 0)).setCell ⟨z, 4, none⟩ (.bool false) = X at q kq ⊢
        have q0 := q.cell 0
        have q1 := q.cell 1
        have q2 := q.cell 2
        have q3 := q.cell 3
        have q4 := q.cell 4
        dsimp only [List.getElem?_cons_zero, List.getElem?_cons_succ] at q0 q1 q2 q3 q4
        refine bodyPost_ret (v := .tuple #[plcV noPlc, .bool false]) (by simp [results, Try.results10, go_sem, q0, q1, q2, q3, q4, plcV, noPlc]) rfl ⟨⟨_, _, rfl, .inr ⟨fun i hi => by have := hL.out i (by rw [← HN.out]; exact hi); omega, rfl, rfl⟩⟩, kq⟩
      · have hani : ((a : Int) == (n : Int)) = false := by rw [beq_eq_false_iff_ne]; omega
        have hlt2 : a < n := by omega
        have hlti : (a : Int) < (n : Int) := by omega
        obtain ⟨bb, o, rfl, f0, f1, f2, f3, f4⟩ := HA.out a (by rw [HN.out]; exact hlt2)
        obtain ⟨P, hPP⟩ : ∃ P, ps.getD a noPlc = P := ⟨_, rfl⟩
        rw [hPP] at f0 f1 f2 f3 f4
        have HPP := hide hPP
        clear hPP
        by_cases hk : P.key = key
        · have hkz : ((P.key : Int) != (key : Int)) = false := by rw [hk]; simp
          have HK := hide hk
          clear hk
          go_wp2_with fail
          have q := five_set B0.out P
          have kq := five_below K0.out (Nat.le_of_eq HZ.out.symm) P
          generalize ((((W.setCell ⟨z, 0, none⟩ (.int .u64 (P.key : Int))).setCell ⟨z, 1, none⟩ (.int .i64 P.at_)).setCell ⟨z, 2, none⟩ (.int .i64 P.n)).setCell ⟨z, 3, none⟩ (.int .u32 (P.cook : Int))).setCell ⟨z, 4, none⟩ (.bool P.dead) = X at q kq ⊢
          have q0 := q.cell 0
          have q1 := q.cell 1
          have q2 := q.cell 2
          have q3 := q.cell 3
          have q4 := q.cell 4
          dsimp only [List.getElem?_cons_zero, List.getElem?_cons_succ] at q0 q1 q2 q3 q4
          refine bodyPost_ret (v := .tuple #[plcV P, .bool true]) (by simp [results, Try.results10, go_sem, q0, q1, q2, q3, q4, plcV]) rfl ⟨⟨_, _, rfl, .inl ⟨a, by rw [HN.out]; exact hlt2, by rw [HPP.out]; exact HK.out, by rw [HPP.out], rfl⟩⟩, kq⟩
        · have hkz : ((P.key : Int) != (key : Int)) = true := by rw [bne_iff_ne]; omega
          have HK := hide hk
          clear hk
          go_wp2_with fail
          have q := five_set B0.out noPlc
          have kq := five_below K0.out (Nat.le_of_eq HZ.out.symm) noPlc
          unfold noPlc at q kq
          dsimp only at q kq
          generalize ((((W.setCell ⟨z, 0, none⟩ (.int .u64 0)).setCell ⟨z, 1, none⟩ (.int .i64 0)).setCell ⟨z, 2, none⟩ (.int .i64 0)).setCell ⟨z, 3, none⟩ (.int .u32 0)).setCell ⟨z, 4, none⟩ (.bool false) = X at q kq ⊢
          have q0 := q.cell 0
          have q1 := q.cell 1
          have q2 := q.cell 2
          have q3 := q.cell 3
          have q4 := q.cell 4
          dsimp only [List.getElem?_cons_zero, List.getElem?_cons_succ] at q0 q1 q2 q3 q4
          refine bodyPost_ret (v := .tuple #[plcV noPlc, .bool false]) (by simp [results, Try.results10, go_sem, q0, q1, q2, q3, q4, plcV, noPlc]) rfl ⟨⟨_, _, rfl, .inr ⟨fun i hi => by
            rcases Nat.lt_trichotomy i a with h | h | h
            · have := hL.out i h; omega
            · rw [h, HPP.out]; exact HK.out
            · have := HRI.out a i h hi
              have h3 := hU.out a (Nat.le_refl _) hlt2
              omega, rfl, rfl⟩⟩, kq⟩
end Go.Proofs.Ytdbngchbhoanpaa
