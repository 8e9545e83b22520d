/- The contract of the document's Parse: the file id of a text, or ErrForm. Condition: no more than 2 to the 38 bytes. -/
import Derived.Test.YtdchgjniepdhfaaFdParse
import Derived.Test.YtdchgjniepdhfaaFdRText
import Derived.Test.YtdchgjniepdhfaaFdUnhex
namespace Go.Proofs.Ytdchgjniepdhfaa
open Go.RowKit
/-- The first comma, or none. -/
def CommaAt (l : List UInt8) (i : Nat) : Prop := (i < l.length ∧ cutA l = l.take i ∧ cutZ l = l.drop (i + 1)) ∨ (i = l.length ∧ cutZ l = [])
theorem cutZ_none {a : List UInt8} (h : ∀ x ∈ a, x ≠ 44) : cutZ a = [] := by
  unfold cutZ
  induction a with
  | nil => rfl
  | cons x a ih =>
    have h1 : (x != 44) = true := by simpa using h x List.mem_cons_self
    rw [List.dropWhile_cons, h1]
    simp only [if_true]
    exact ih (fun y hy => h y (List.mem_cons_of_mem _ hy))
theorem commaAt (l : List UInt8) (i : Nat) (hi : i ≤ l.length) (h : ∀ x ∈ l.take i, x ≠ 44) (he : ∀ h : i < l.length, l[i] = 44) : CommaAt l i := by
  by_cases hlt : i < l.length
  · have e : l = l.take i ++ 44 :: l.drop (i + 1) := by
      have h1 := he hlt
      conv => lhs; rw [← List.take_append_drop i l, List.drop_eq_getElem_cons hlt, h1]
    have ha := cutA_at (b := l.drop (i + 1)) h
    have hz := cutZ_at (b := l.drop (i + 1)) h
    rw [← e] at ha hz
    exact .inl ⟨hlt, ha, hz⟩
  · obtain rfl : i = l.length := by omega
    rw [List.take_length] at h
    exact .inr ⟨rfl, cutZ_none h⟩
theorem text_at {l : List UInt8} {i m : Nat} (hA : CommaAt l i) (hB : CommaAt (l.drop (i + 1)) m) {f : Fd} (h : IsText l f) : (1 ≤ i ∧ i ≤ 8 ∧ i + 1 + m < l.length) ∧ l.take i = vL f.v ∧ (l.drop (i + 1)).take m = kL f.k ∧ l.drop (i + 1 + m + 1) = cL f.c := by
  obtain ⟨hf, ht⟩ := h
  have eA := textA f
  have eB := textB f
  have eK := textK f
  have eC := textC f
  rw [ht] at eA eB
  have n1 := nd_v hf.1 hf.2.1
  have n2 := nd_k hf.2.2.1 hf.2.2.2.1
  have n3 : (cL f.c).length = 8 := fixd_len ..
  rcases hA with ⟨a1, a2, a3⟩ | ⟨_, a3⟩
  · rw [eA] at a2
    rw [eB] at a3
    rw [← a3] at hB ⊢
    have ei : i = (vL f.v).length := by rw [a2, List.length_take]; omega
    rcases hB with ⟨b1, b2, b3⟩ | ⟨_, b3⟩
    · rw [eK] at b2
      rw [eC] at b3
      have hl : (kL f.k ++ 44 :: cL f.c).length = l.length - (i + 1) := by rw [a3, List.length_drop]
      refine ⟨⟨by omega, by omega, by omega⟩, a2.symm, b2.symm, ?_⟩
      rw [b3, a3, List.drop_drop]
      congr 1
    · exfalso
      rw [eC] at b3
      rw [b3] at n3
      simp at n3
  · exfalso
    rw [eB] at a3
    simp at a3
theorem hCA_end {l : List UInt8} {n : Nat} (h : CommaAt l n) (hn : n = l.length) : cutZ l = [] := by
  rcases h with ⟨h, _⟩ | ⟨_, h⟩
  · omega
  · exact h
theorem fixd_isDec : ∀ k n, ∀ x ∈ fixd 10 k n, 48 ≤ x.toNat ∧ x.toNat ≤ 57
  | 0, _ => by simp [fixd]
  | k + 1, n => by
    intro x hx
    rw [fixd, List.mem_append] at hx
    rcases hx with hx | hx
    · exact fixd_isDec k _ x hx
    · rw [List.mem_singleton] at hx
      subst hx
      have : ∀ d < 10, 48 ≤ (hexd d).toNat ∧ (hexd d).toNat ≤ 57 := by decide +kernel
      exact this _ (by omega)
theorem mkS_at {s : ByteArray} {l : List UInt8} (hs : s = mkS l) (j : Nat) (h : j < s.size) (h2 : j < l.length) : (s[j]'h).toNat = l[j].toNat := by
  subst hs
  rfl
theorem mem_take_succ {l : List UInt8} {i : Nat} (h : i < l.length) (hp : ∀ x ∈ l.take i, x ≠ 44) (hx : l[i].toNat ≠ 44) : ∀ x ∈ l.take (i + 1), x ≠ 44 := by
  intro x hm
  rw [List.take_succ_eq_append_getElem h, List.mem_append, List.mem_singleton] at hm
  rcases hm with hm | hm
  · exact hp x hm
  · subst hm
    intro e
    rw [e] at hx
    exact hx rfl
set_option maxRecDepth 100000 in
set_option maxHeartbeats 6400000 in
theorem rparse_any (l : List UInt8) (w : World) (hl : l.length < 1099511627776) :
    Calls Try.prog 11 #[.string (mkS l)] w fun e w' => (∃ v, e = .returned v ∧ isAnswer l v) ∧ Below w.heap.size w w' := by
  obtain ⟨s, hs⟩ : ∃ s, s = mkS l := ⟨_, rfl⟩
  obtain ⟨n, hn⟩ : ∃ n, n = l.length := ⟨_, rfl⟩
  have hsz : s.size = n := by rw [hs, hn]; rfl
  have hn40 : n < 1099511627776 := by rw [hn]; exact hl
  rw [← hs]
  have HS := hide hs
  have HN := hide hn
  clear hs hn hl
  go_enter Try.func11, Try.ntmps11
  go_wp2_with fail
  have ka := below_alloc w (.cells #[.int .i64 0, .int .u64 0, .int .u32 0] 25)
  have b0 : Blk (w.alloc (.cells #[.int .i64 0, .int .u64 0, .int .u32 0] 25)) 0 25 w.heap.size [.int .i64 0, .int .u64 0, .int .u32 0] := Blk.new w 25 #[.int .i64 0, .int .u64 0, .int .u32 0] (Nat.zero_le _)
  obtain ⟨g, hg⟩ : ∃ g, g = w.heap.size := ⟨_, rfl⟩
  rw [← hg] at b0 ⊢
  obtain ⟨W, hW⟩ : ∃ W, W = w.alloc (.cells #[.int .i64 0, .int .u64 0, .int .u32 0] 25) := ⟨_, rfl⟩
  rw [← hW] at ka b0 ⊢
  have HG := hide hg
  have B0 := hide b0
  have KA := hide ka
  clear hg hW b0 ka
  go_loop [4] (fun i => ∃ j : Nat, j ≤ n ∧ i = .int .i64 (j : Int) ∧ Hid (∀ x ∈ l.take j, x ≠ 44)) (fun i => n - (intOf i).toNat)
  case atStart => exact ⟨0, Nat.zero_le _, rfl, by simp [Hid]⟩
  case round =>
    obtain ⟨i, hi, rfl, hI⟩ := hrel
    by_cases hgo : ∃ h : i < l.length, l[i].toNat ≠ 44
    · obtain ⟨h1, h2⟩ := hgo
      have hlt : i < n := by rw [HN.out]; exact h1
      have hj2 : i < s.size := by rw [hsz]; exact hlt
      obtain ⟨x, hx⟩ : ∃ x, (s[i]'hj2).toNat = x := ⟨_, rfl⟩
      have hx44 : ((x : Int) != 44) = true := by
        rw [bne_iff_ne]
        have := mkS_at HS.out i hj2 h1
        omega
      have HM := hide (mem_take_succ h1 hI.out h2)
      clear h1 h2
      go_wp2_with fail
      go_round
      case rel => exact ⟨i + 1, by omega, by go_num, HM⟩
      case measure => simp [intOf]; omega
    · have hCA : Hid (CommaAt l i) := commaAt l i (by rw [← HN.out]; exact hi) hI.out (fun h => by
        have : l[i].toNat = 44 := by
          apply Classical.byContradiction
          intro hne
          exact hgo ⟨h, hne⟩
        exact UInt8.toNat_inj.1 this)
      have hend : (¬ i < n) ∨ (∃ h : i < s.size, (s[i]'h).toNat = 44) := by
        by_cases hlt : i < n
        · refine .inr ⟨by rw [hsz]; exact hlt, ?_⟩
          have h1 : i < l.length := by rw [← HN.out]; exact hlt
          rw [mkS_at HS.out i (by rw [hsz]; exact hlt) h1]
          apply Classical.byContradiction
          intro hne
          exact hgo ⟨h1, hne⟩
        · exact .inl hlt
      clear hgo
      rcases hend with hlt | ⟨hj2, h44⟩
      · obtain rfl : i = n := by omega
        have hNO : Hid (∀ f, ¬ IsText l f) := by
          intro f hf
          have e := hCA_end hCA.out HN.out
          obtain ⟨hf, ht⟩ := hf
          have eB := textB f
          rw [ht, e] at eB
          simp at eB
        clear hlt
        go_wp2_with fail
        go_loop [5] (fun k => k = .int .i64 ((i : Int) + 1)) (fun _ => 0)
        case atStart => rfl
        case round =>
          subst hrel
          have hk1 : ¬ ((i : Int) + 1 < (i : Int)) := by omega
          have hk2 : (i : Int) ≤ (i : Int) + 1 := by omega
          by_cases hc1 : i < 1
          · have hc1i : (i : Int) < 1 := by omega
            clear hc1
            have a0 := B0.out.cell 0
            have a1 := B0.out.cell 1
            have a2 := B0.out.cell 2
            have g0 := B0.out.frozen 0
            have g1 := B0.out.frozen 1
            have g2 := B0.out.frozen 2
            dsimp only [List.getElem?_cons_succ, List.getElem?_cons_zero] at a0 a1 a2
            go_wp2_with fail
            have q := three B0.out (.int .i64 0) (.int .u64 0) (.int .u32 0)
            have kq := three_below KA.out (Nat.le_of_eq HG.out.symm) (.int .i64 0) (.int .u64 0) (.int .u32 0)
            generalize ((W.setCell ⟨g, 0, none⟩ (.int .i64 0)).setCell ⟨g, 1, none⟩ (.int .u64 0)).setCell ⟨g, 2, none⟩ (.int .u32 0) = X at q kq ⊢
            have q0 := q.cell 0
            have q1 := q.cell 1
            have q2 := q.cell 2
            dsimp only [List.getElem?_cons_succ, List.getElem?_cons_zero] at q0 q1 q2
            refine bodyPost_ret (v := .tuple #[.agg #[.int .i64 0, .int .u64 0, .int .u32 0], .int .i64 3]) (by simp [results, Try.results11, go_sem, q0, q1, q2]) rfl ⟨⟨_, rfl, .inr ⟨?_, rfl⟩⟩, kq⟩
            exact hNO.out
          · have hc1i : ¬ (i : Int) < 1 := by omega
            clear hc1
            by_cases hc2 : 8 < i
            · have hc2i : (8 : Int) < (i : Int) := by omega
              clear hc2
              have a0 := B0.out.cell 0
              have a1 := B0.out.cell 1
              have a2 := B0.out.cell 2
              have g0 := B0.out.frozen 0
              have g1 := B0.out.frozen 1
              have g2 := B0.out.frozen 2
              dsimp only [List.getElem?_cons_succ, List.getElem?_cons_zero] at a0 a1 a2
              go_wp2_with fail
              have q := three B0.out (.int .i64 0) (.int .u64 0) (.int .u32 0)
              have kq := three_below KA.out (Nat.le_of_eq HG.out.symm) (.int .i64 0) (.int .u64 0) (.int .u32 0)
              generalize ((W.setCell ⟨g, 0, none⟩ (.int .i64 0)).setCell ⟨g, 1, none⟩ (.int .u64 0)).setCell ⟨g, 2, none⟩ (.int .u32 0) = X at q kq ⊢
              have q0 := q.cell 0
              have q1 := q.cell 1
              have q2 := q.cell 2
              dsimp only [List.getElem?_cons_succ, List.getElem?_cons_zero] at q0 q1 q2
              refine bodyPost_ret (v := .tuple #[.agg #[.int .i64 0, .int .u64 0, .int .u32 0], .int .i64 3]) (by simp [results, Try.results11, go_sem, q0, q1, q2]) rfl ⟨⟨_, rfl, .inr ⟨?_, rfl⟩⟩, kq⟩
              exact hNO.out
            · have hc2i : ¬ (8 : Int) < (i : Int) := by omega
              clear hc2
              have a0 := B0.out.cell 0
              have a1 := B0.out.cell 1
              have a2 := B0.out.cell 2
              have g0 := B0.out.frozen 0
              have g1 := B0.out.frozen 1
              have g2 := B0.out.frozen 2
              dsimp only [List.getElem?_cons_succ, List.getElem?_cons_zero] at a0 a1 a2
              go_wp2_with fail
              have q := three B0.out (.int .i64 0) (.int .u64 0) (.int .u32 0)
              have kq := three_below KA.out (Nat.le_of_eq HG.out.symm) (.int .i64 0) (.int .u64 0) (.int .u32 0)
              generalize ((W.setCell ⟨g, 0, none⟩ (.int .i64 0)).setCell ⟨g, 1, none⟩ (.int .u64 0)).setCell ⟨g, 2, none⟩ (.int .u32 0) = X at q kq ⊢
              have q0 := q.cell 0
              have q1 := q.cell 1
              have q2 := q.cell 2
              dsimp only [List.getElem?_cons_succ, List.getElem?_cons_zero] at q0 q1 q2
              refine bodyPost_ret (v := .tuple #[.agg #[.int .i64 0, .int .u64 0, .int .u32 0], .int .i64 3]) (by simp [results, Try.results11, go_sem, q0, q1, q2]) rfl ⟨⟨_, rfl, .inr ⟨?_, rfl⟩⟩, kq⟩
              exact hNO.out
      · have hlt : i < n := by rw [← hsz]; exact hj2
        have hx44 : (((44 : Nat) : Int) != 44) = false := rfl
        obtain ⟨p, hp⟩ : ∃ p, p = i + 1 := ⟨_, rfl⟩
        have hpi : (i : Int) + 1 = (p : Int) := by omega
        have hpn : p ≤ n := by omega
        obtain ⟨R, hR⟩ : ∃ R, R = l.drop p := ⟨_, rfl⟩
        have hRL : R.length = n - p := by rw [hR, List.length_drop, HN.out]
        obtain ⟨N2, hN2⟩ : ∃ N2, N2 = R.length := ⟨_, rfl⟩
        have hN2p : p + N2 = n := by omega
        have HR := hide hR
        have HP := hide hp
        have HN2 := hide hN2
        clear hR hp hN2 hRL
        go_wp2_with fail
        clear hpi
        go_loop [5] (fun k => ∃ q m : Nat, q ≤ n ∧ k = .int .i64 (q : Int) ∧ Hid (q = p + m) ∧ Hid (∀ x ∈ R.take m, x ≠ 44)) (fun k => n - (intOf k).toNat)
        case atStart => exact ⟨p, 0, hpn, rfl, rfl, by simp [Hid]⟩
        case round =>
          obtain ⟨q, m, hq, rfl, hqm, hM⟩ := hrel
          have hRl : ∀ (h : m < R.length) (h2 : q < l.length), R[m] = l[q] := by
            intro h h2
            have e1 := HR.out
            have e2 := hqm.out
            subst e1
            subst e2
            rw [List.getElem_drop]
          by_cases hgo : ∃ h : m < R.length, R[m].toNat ≠ 44
          · obtain ⟨h1, h2⟩ := hgo
            have hqlt : q < n := by have := hqm.out; have := HN2.out; omega
            have hql : q < l.length := by rw [← HN.out]; exact hqlt
            have hj3 : q < s.size := by rw [hsz]; exact hqlt
            obtain ⟨x, hx⟩ : ∃ x, (s[q]'hj3).toNat = x := ⟨_, rfl⟩
            have hx44 : ((x : Int) != 44) = true := by
              rw [bne_iff_ne]
              have := mkS_at HS.out q hj3 hql
              rw [← hRl h1 hql] at this
              omega
            have HM2 := hide (mem_take_succ h1 hM.out h2)
            have HQ2 : Hid (q + 1 = p + (m + 1)) := by unfold Hid; rw [hqm.out]; rfl
            clear h1 h2 hRl
            go_wp2_with fail
            go_round
            case rel => exact ⟨q + 1, m + 1, by omega, by go_num, HQ2, HM2⟩
            case measure => simp [intOf]; omega
          · have hCB : Hid (CommaAt R m) := commaAt R m (by have := hqm.out; have := HN2.out; omega) hM.out (fun h => by
              have : R[m].toNat = 44 := by
                apply Classical.byContradiction
                intro hne
                exact hgo ⟨h, hne⟩
              exact UInt8.toNat_inj.1 this)
            have hTX : Hid (∀ f, IsText l f → (1 ≤ i ∧ i ≤ 8 ∧ q < n) ∧ l.take i = vL f.v ∧ R.take m = kL f.k ∧ l.drop (q + 1) = cL f.c) := by
              intro f hf
              have h2 := hCB.out
              rw [HR.out, HP.out] at h2
              have := text_at hCA.out h2 hf
              rw [← HP.out, ← HR.out, ← hqm.out, ← HN.out] at this
              exact this
            by_cases hqn : q < n
            · have h44b : ∃ h : q < s.size, (s[q]'h).toNat = 44 := by
                refine ⟨by rw [hsz]; exact hqn, ?_⟩
                have h1 : q < l.length := by rw [← HN.out]; exact hqn
                have h2 : m < R.length := by have := hqm.out; have := HN2.out; omega
                rw [mkS_at HS.out q (by rw [hsz]; exact hqn) h1, ← hRl h2 h1]
                apply Classical.byContradiction
                intro hne
                exact hgo ⟨h2, hne⟩
              obtain ⟨hj3, h44b⟩ := h44b
              have hqn2 : ¬ (n : Int) ≤ (q : Int) := by omega
              clear hgo hRl
              by_cases hc1 : i < 1
              · have hc1i : (i : Int) < 1 := by omega
                have HC := hide hc1
                clear hc1
                have a0 := B0.out.cell 0
                have a1 := B0.out.cell 1
                have a2 := B0.out.cell 2
                have g0 := B0.out.frozen 0
                have g1 := B0.out.frozen 1
                have g2 := B0.out.frozen 2
                dsimp only [List.getElem?_cons_succ, List.getElem?_cons_zero] at a0 a1 a2
                go_wp2_with fail
                have q := three B0.out (.int .i64 0) (.int .u64 0) (.int .u32 0)
                have kq := three_below KA.out (Nat.le_of_eq HG.out.symm) (.int .i64 0) (.int .u64 0) (.int .u32 0)
                generalize ((W.setCell ⟨g, 0, none⟩ (.int .i64 0)).setCell ⟨g, 1, none⟩ (.int .u64 0)).setCell ⟨g, 2, none⟩ (.int .u32 0) = X at q kq ⊢
                have q0 := q.cell 0
                have q1 := q.cell 1
                have q2 := q.cell 2
                dsimp only [List.getElem?_cons_succ, List.getElem?_cons_zero] at q0 q1 q2
                refine bodyPost_ret (v := .tuple #[.agg #[.int .i64 0, .int .u64 0, .int .u32 0], .int .i64 3]) (by simp [results, Try.results11, go_sem, q0, q1, q2]) rfl ⟨⟨_, rfl, .inr ⟨?_, rfl⟩⟩, kq⟩
                intro f hf
                have := (hTX.out f hf).1
                have := HC.out
                omega
              · have hc1i : ¬ (i : Int) < 1 := by omega
                clear hc1
                by_cases hc2 : 8 < i
                · have hc2i : (8 : Int) < (i : Int) := by omega
                  have HC := hide hc2
                  clear hc2
                  have a0 := B0.out.cell 0
                  have a1 := B0.out.cell 1
                  have a2 := B0.out.cell 2
                  have g0 := B0.out.frozen 0
                  have g1 := B0.out.frozen 1
                  have g2 := B0.out.frozen 2
                  dsimp only [List.getElem?_cons_succ, List.getElem?_cons_zero] at a0 a1 a2
                  go_wp2_with fail
                  have q := three B0.out (.int .i64 0) (.int .u64 0) (.int .u32 0)
                  have kq := three_below KA.out (Nat.le_of_eq HG.out.symm) (.int .i64 0) (.int .u64 0) (.int .u32 0)
                  generalize ((W.setCell ⟨g, 0, none⟩ (.int .i64 0)).setCell ⟨g, 1, none⟩ (.int .u64 0)).setCell ⟨g, 2, none⟩ (.int .u32 0) = X at q kq ⊢
                  have q0 := q.cell 0
                  have q1 := q.cell 1
                  have q2 := q.cell 2
                  dsimp only [List.getElem?_cons_succ, List.getElem?_cons_zero] at q0 q1 q2
                  refine bodyPost_ret (v := .tuple #[.agg #[.int .i64 0, .int .u64 0, .int .u32 0], .int .i64 3]) (by simp [results, Try.results11, go_sem, q0, q1, q2]) rfl ⟨⟨_, rfl, .inr ⟨?_, rfl⟩⟩, kq⟩
                  intro f hf
                  have := (hTX.out f hf).1
                  have := HC.out
                  omega
                · have hc2i : ¬ (8 : Int) < (i : Int) := by omega
                  have hi8 : i ≤ 8 := by omega
                  clear hc2
                  go_wp2_with fail
                  go_loop [6, 7] (fun v j => ∃ (b a : Nat), b ≤ i ∧ a ≤ 99999999 ∧ v = .int .i64 (a : Int) ∧ j = .int .i64 (b : Int) ∧ Hid (a < 10 ^ b) ∧ Hid (a = numW 10 (l.take b))) (fun _ j => i - (intOf j).toNat)
                  case atStart => exact ⟨0, 0, Nat.zero_le _, by omega, rfl, rfl, by simp [Hid], by simp [Hid, numW_zero]⟩
                  case round =>
                    obtain ⟨b, a, hb, ha, rfl, rfl, hA10, hA⟩ := hrel
                    by_cases hbi : b < i
                    · have hbn : b < n := by omega
                      have hbl : b < l.length := by rw [← HN.out]; exact hbn
                      have hbs : b < s.size := by rw [hsz]; exact hbn
                      have hbnI : (b : Int) < (n : Int) := by omega
                      obtain ⟨x, hx⟩ : ∃ x, (s[b]'hbs).toNat = x := ⟨_, rfl⟩
                      have hx256 : x < 256 := by rw [← hx]; exact UInt8.toNat_lt _
                      have hxl : l[b].toNat = x := by rw [← mkS_at HS.out b hbs hbl]; exact hx
                      have HXL := hide hxl
                      have HMEM : Hid (l[b] ∈ l.take i) := by
                        unfold Hid
                        rw [List.mem_iff_getElem]
                        refine ⟨b, by rw [List.length_take]; omega, ?_⟩
                        rw [List.getElem_take]
                      have HTK := hide (numW_take 10 l b hbl)
                      clear hxl
                      by_cases hx1 : x < 48
                      · have i1 : (x : Int) < 48 := by omega
                        have HX1 := hide hx1
                        clear hx1
                        have a0 := B0.out.cell 0
                        have a1 := B0.out.cell 1
                        have a2 := B0.out.cell 2
                        have g0 := B0.out.frozen 0
                        have g1 := B0.out.frozen 1
                        have g2 := B0.out.frozen 2
                        dsimp only [List.getElem?_cons_succ, List.getElem?_cons_zero] at a0 a1 a2
                        go_wp2_with fail
                        have q := three B0.out (.int .i64 0) (.int .u64 0) (.int .u32 0)
                        have kq := three_below KA.out (Nat.le_of_eq HG.out.symm) (.int .i64 0) (.int .u64 0) (.int .u32 0)
                        generalize ((W.setCell ⟨g, 0, none⟩ (.int .i64 0)).setCell ⟨g, 1, none⟩ (.int .u64 0)).setCell ⟨g, 2, none⟩ (.int .u32 0) = X at q kq ⊢
                        have q0 := q.cell 0
                        have q1 := q.cell 1
                        have q2 := q.cell 2
                        dsimp only [List.getElem?_cons_succ, List.getElem?_cons_zero] at q0 q1 q2
                        refine bodyPost_ret (v := .tuple #[.agg #[.int .i64 0, .int .u64 0, .int .u32 0], .int .i64 3]) (by simp [results, Try.results11, go_sem, q0, q1, q2]) rfl ⟨⟨_, rfl, .inr ⟨?_, rfl⟩⟩, kq⟩
                        intro f hf
                        have h1 := (hTX.out f hf).2.1
                        have h2 := HMEM.out
                        rw [h1] at h2
                        have h3 := fixd_isDec _ _ _ h2
                        have := HXL.out
                        have := HX1.out
                        omega
                      · by_cases hx2 : 57 < x
                        · have i1 : ¬ (x : Int) < 48 := by omega
                          have i2 : (57 : Int) < (x : Int) := by omega
                          have HX1 := hide hx2
                          clear hx1 hx2
                          have a0 := B0.out.cell 0
                          have a1 := B0.out.cell 1
                          have a2 := B0.out.cell 2
                          have g0 := B0.out.frozen 0
                          have g1 := B0.out.frozen 1
                          have g2 := B0.out.frozen 2
                          dsimp only [List.getElem?_cons_succ, List.getElem?_cons_zero] at a0 a1 a2
                          go_wp2_with fail
                          have q := three B0.out (.int .i64 0) (.int .u64 0) (.int .u32 0)
                          have kq := three_below KA.out (Nat.le_of_eq HG.out.symm) (.int .i64 0) (.int .u64 0) (.int .u32 0)
                          generalize ((W.setCell ⟨g, 0, none⟩ (.int .i64 0)).setCell ⟨g, 1, none⟩ (.int .u64 0)).setCell ⟨g, 2, none⟩ (.int .u32 0) = X at q kq ⊢
                          have q0 := q.cell 0
                          have q1 := q.cell 1
                          have q2 := q.cell 2
                          dsimp only [List.getElem?_cons_succ, List.getElem?_cons_zero] at q0 q1 q2
                          refine bodyPost_ret (v := .tuple #[.agg #[.int .i64 0, .int .u64 0, .int .u32 0], .int .i64 3]) (by simp [results, Try.results11, go_sem, q0, q1, q2]) rfl ⟨⟨_, rfl, .inr ⟨?_, rfl⟩⟩, kq⟩
                          intro f hf
                          have h1 := (hTX.out f hf).2.1
                          have h2 := HMEM.out
                          rw [h1] at h2
                          have h3 := fixd_isDec _ _ _ h2
                          have := HXL.out
                          have := HX1.out
                          omega
                        · have i1 : ¬ (x : Int) < 48 := by omega
                          have i2 : ¬ (57 : Int) < (x : Int) := by omega
                          obtain ⟨z, hz⟩ : ∃ z, z = a * 10 + (x - 48) := ⟨_, rfl⟩
                          have hz8 : z < 10 ^ (b + 1) := by
                            have := hA10.out
                            rw [Nat.pow_succ]
                            omega
                          have hz9 : z ≤ 99999999 := by
                            have h1 : 10 ^ (b + 1) ≤ 10 ^ 8 := Nat.pow_le_pow_right (by omega) (by omega)
                            omega
                          have hzi : (a : Int) * 10 + (x : Int) - 48 = (z : Int) := by omega
                          have HZ8 := hide hz8
                          have HZ : Hid (z = numW 10 (l.take (b + 1))) := by
                            unfold Hid
                            rw [HTK.out, ← hA.out]
                            unfold valD
                            rw [HXL.out, if_pos ⟨by omega, by omega⟩, ← hz]
                            omega
                          clear hz hz8 hx1 hx2
                          go_wp2_with fail
                          go_round
                          case rel => exact ⟨b + 1, z, by omega, hz9, rfl, by go_num, HZ8, HZ⟩
                          case measure => simp [intOf]; omega
                    · obtain rfl : b = i := by omega
                      obtain ⟨s3, hs3⟩ : ∃ s3, s3 = mkS (R.take m) := ⟨_, rfl⟩
                      have hx3 : s.extract p q = s3 := by
                        rw [hs3, HS.out]
                        apply ByteArray.ext
                        apply Array.ext'
                        rw [Lib.extract_data, mkS_data]
                        show _ = R.take m
                        rw [HR.out, hqm.out]
                        congr 1
                        omega
                      obtain ⟨s4, hs4⟩ : ∃ s4, s4 = mkS (l.drop (q + 1)) := ⟨_, rfl⟩
                      have hx4 : s.extract (q + 1) n = s4 := by
                        rw [hs4, HS.out]
                        apply ByteArray.ext
                        apply Array.ext'
                        rw [Lib.extract_data, mkS_data]
                        show _ = l.drop (q + 1)
                        rw [List.take_of_length_le]
                        rw [List.length_drop, ← HN.out]
                        omega
                      have HU3 := hide (fun Z => by
                        have := unhex_any (R.take m) 1 16 Z (by rw [List.length_take]; have := HN2.out; omega)
                        rw [← hs3, show ((1 : Nat) : Int) = 1 from rfl, show ((16 : Nat) : Int) = 16 from rfl] at this
                        exact this)
                      have HU4 := hide (fun Z => by
                        have := unhex_any (l.drop (q + 1)) 8 8 Z (by rw [List.length_drop]; have := HN.out; omega)
                        rw [← hs4, show ((8 : Nat) : Int) = 8 from rfl] at this
                        exact this)
                      have hpb : (b : Int) + 1 = (p : Int) := by have := HP.out; omega
                      have hpq : (p : Int) ≤ (q : Int) := by have := hqm.out; omega
                      have hqn1 : (q : Int) + 1 ≤ (n : Int) := by omega
                      have hqn3 : (q : Int) ≤ (n : Int) := by omega
                      clear hs3 hs4 hbi
                      go_wp2_with fail
                      refine (HU3.out _).mono ?_
                      rintro e w1 ⟨⟨key, ok, rfl, hkl, hkey⟩, rfl⟩
                      have HKEY := hide hkey
                      clear hkey
                      go_wp2_with fail
                      refine (HU4.out _).mono ?_
                      rintro e w1 ⟨⟨ck, ok2, rfl, hcl, hck⟩, rfl⟩
                      have HCK := hide hck
                      clear hck
                      obtain ⟨c0, hc0⟩ : ∃ c0, c0 = ck % 4294967296 := ⟨_, rfl⟩
                      have hw3 : (ck : Int) % 4294967296 = (c0 : Int) := by omega
                      have hc32 : c0 < 4294967296 := by omega
                      have HALL : Hid (∀ f, IsText l f → ok = true ∧ ok2 = true ∧ (a : Int) = (f.v : Int) ∧ key = f.k ∧ c0 = f.c) := by
                        intro f hf
                        obtain ⟨h1, h2, h3, h4⟩ := hTX.out f hf
                        obtain ⟨hf1, hf2⟩ := hf
                        have k1 := HKEY.out
                        have k2 := HCK.out
                        have n2 := nd_k hf1.2.2.1 hf1.2.2.2.1
                        have n3 : (cL f.c).length = 8 := fixd_len ..
                        rw [h3] at k1
                        rw [h4] at k2
                        obtain ⟨e1, e2⟩ := k1 ⟨n2.1, n2.2, fixd_isHex _ _⟩
                        obtain ⟨e3, e4⟩ := k2 ⟨by omega, by omega, fixd_isHex _ _⟩
                        refine ⟨e2, e4, ?_, ?_, ?_⟩
                        · rw [hA.out, h2, numW_vL _ hf1.2.1]
                        · rw [e1, numW_kL _ hf1.2.2.2.1]
                        · rw [hc0, e3, numW_cL _ hf1.2.2.2.2]
                          exact Nat.mod_eq_of_lt hf1.2.2.2.2
                      have HT : Hid (((a : Int) < 1 ∨ 99999999 < (a : Int) ∨ key = 0) ∨ (∃ f : Fd, FdOk f ∧ a = f.v ∧ key = f.k ∧ c0 = f.c)) := by
                        unfold Hid
                        by_cases h1 : a < 1
                        · exact .inl (.inl (by omega))
                        · by_cases h3 : key = 0
                          · exact .inl (.inr (.inr h3))
                          · exact .inr ⟨⟨a, key, c0⟩, ⟨by simp only; omega, by simp only; omega, by simp only; omega, hkl, hc32⟩, rfl, rfl, rfl⟩
                      have HBI8 := hide hi8
                      clear hc0 hc32 hkl hcl
                      go_wp2_with fail
                      have k5 := below_alloc W (.cells #[.int .i64 (a : Int), .int .u64 (key : Int), .int .u32 (c0 : Int)] 25)
                      have F5 : Blk (W.alloc (.cells #[.int .i64 (a : Int), .int .u64 (key : Int), .int .u32 (c0 : Int)] 25)) 0 25 W.heap.size [.int .i64 (a : Int), .int .u64 (key : Int), .int .u32 (c0 : Int)] := Blk.new W 25 #[.int .i64 (a : Int), .int .u64 (key : Int), .int .u32 (c0 : Int)] (Nat.zero_le _)
                      have B5 := hide (B0.out.keep k5)
                      have K6 := hide (below_step KA.out k5)
                      have hne := hide (show ¬ g = W.heap.size by have := B0.out.lt; omega)
                      clear k5
                      obtain ⟨h, hh⟩ : ∃ h, h = W.heap.size := ⟨_, rfl⟩
                      rw [← hh] at F5 hne ⊢
                      obtain ⟨W5, hW5⟩ : ∃ Z, Z = W.alloc (.cells #[.int .i64 (a : Int), .int .u64 (key : Int), .int .u32 (c0 : Int)] 25) := ⟨_, rfl⟩
                      rw [← hW5] at F5 B5 K6 ⊢
                      clear hW5 hh
                      rcases HT.out with hb | ⟨f, hf, rfl, rfl, rfl⟩
                      · refine (rtext_bad a key c0 W5 hb).mono ?_
                        have HB := hide hb
                        clear hb
                        rintro e w6 ⟨rfl, k6⟩
                        have KK := hide (below_step K6.out k6)
                        have B6 := hide (B5.out.keep k6)
                        clear k6
                        rcases ok with _ | _
                        · skip
                          have a0 := B6.out.cell 0
                          have a1 := B6.out.cell 1
                          have a2 := B6.out.cell 2
                          have g0 := B6.out.frozen 0
                          have g1 := B6.out.frozen 1
                          have g2 := B6.out.frozen 2
                          dsimp only [List.getElem?_cons_succ, List.getElem?_cons_zero] at a0 a1 a2
                          go_wp2_with fail
                          have q := three B6.out (.int .i64 0) (.int .u64 0) (.int .u32 0)
                          have kq := three_below KK.out (Nat.le_of_eq HG.out.symm) (.int .i64 0) (.int .u64 0) (.int .u32 0)
                          generalize ((w6.setCell ⟨g, 0, none⟩ (.int .i64 0)).setCell ⟨g, 1, none⟩ (.int .u64 0)).setCell ⟨g, 2, none⟩ (.int .u32 0) = X at q kq ⊢
                          have q0 := q.cell 0
                          have q1 := q.cell 1
                          have q2 := q.cell 2
                          dsimp only [List.getElem?_cons_succ, List.getElem?_cons_zero] at q0 q1 q2
                          refine bodyPost_ret (v := .tuple #[.agg #[.int .i64 0, .int .u64 0, .int .u32 0], .int .i64 3]) (by simp [results, Try.results11, go_sem, q0, q1, q2]) rfl ⟨⟨_, rfl, .inr ⟨?_, rfl⟩⟩, kq⟩
                          rintro f hf
                          obtain ⟨e1, e2, e3, e4, e5⟩ := HALL.out f hf
                          cases e1
                        · rcases ok2 with _ | _
                          · skip
                            have a0 := B6.out.cell 0
                            have a1 := B6.out.cell 1
                            have a2 := B6.out.cell 2
                            have g0 := B6.out.frozen 0
                            have g1 := B6.out.frozen 1
                            have g2 := B6.out.frozen 2
                            dsimp only [List.getElem?_cons_succ, List.getElem?_cons_zero] at a0 a1 a2
                            go_wp2_with fail
                            have q := three B6.out (.int .i64 0) (.int .u64 0) (.int .u32 0)
                            have kq := three_below KK.out (Nat.le_of_eq HG.out.symm) (.int .i64 0) (.int .u64 0) (.int .u32 0)
                            generalize ((w6.setCell ⟨g, 0, none⟩ (.int .i64 0)).setCell ⟨g, 1, none⟩ (.int .u64 0)).setCell ⟨g, 2, none⟩ (.int .u32 0) = X at q kq ⊢
                            have q0 := q.cell 0
                            have q1 := q.cell 1
                            have q2 := q.cell 2
                            dsimp only [List.getElem?_cons_succ, List.getElem?_cons_zero] at q0 q1 q2
                            refine bodyPost_ret (v := .tuple #[.agg #[.int .i64 0, .int .u64 0, .int .u32 0], .int .i64 3]) (by simp [results, Try.results11, go_sem, q0, q1, q2]) rfl ⟨⟨_, rfl, .inr ⟨?_, rfl⟩⟩, kq⟩
                            rintro f hf
                            obtain ⟨e1, e2, e3, e4, e5⟩ := HALL.out f hf
                            cases e2
                          · skip
                            have a0 := B6.out.cell 0
                            have a1 := B6.out.cell 1
                            have a2 := B6.out.cell 2
                            have g0 := B6.out.frozen 0
                            have g1 := B6.out.frozen 1
                            have g2 := B6.out.frozen 2
                            dsimp only [List.getElem?_cons_succ, List.getElem?_cons_zero] at a0 a1 a2
                            go_wp2_with fail
                            have q := three B6.out (.int .i64 0) (.int .u64 0) (.int .u32 0)
                            have kq := three_below KK.out (Nat.le_of_eq HG.out.symm) (.int .i64 0) (.int .u64 0) (.int .u32 0)
                            generalize ((w6.setCell ⟨g, 0, none⟩ (.int .i64 0)).setCell ⟨g, 1, none⟩ (.int .u64 0)).setCell ⟨g, 2, none⟩ (.int .u32 0) = X at q kq ⊢
                            have q0 := q.cell 0
                            have q1 := q.cell 1
                            have q2 := q.cell 2
                            dsimp only [List.getElem?_cons_succ, List.getElem?_cons_zero] at q0 q1 q2
                            refine bodyPost_ret (v := .tuple #[.agg #[.int .i64 0, .int .u64 0, .int .u32 0], .int .i64 3]) (by simp [results, Try.results11, go_sem, q0, q1, q2]) rfl ⟨⟨_, rfl, .inr ⟨?_, rfl⟩⟩, kq⟩
                            rintro f hf
                            obtain ⟨e1, e2, e3, e4, e5⟩ := HALL.out f hf
                            obtain ⟨z1, z2, z3, _, _⟩ := hf.1
                            have hb := HB.out
                            rw [e3, e4] at hb
                            omega
                      · have HFO := hide hf
                        refine (rtext_ok f W5 hf).mono ?_
                        clear hf
                        obtain ⟨t, ht⟩ : ∃ t, t = mkS (textL f) := ⟨_, rfl⟩
                        rw [← ht]
                        rintro e w6 ⟨rfl, k6⟩
                        have F6 := hide (F5.keep k6)
                        have KK := hide (below_step K6.out k6)
                        have B6 := hide (B5.out.keep k6)
                        clear k6
                        have HTE := hide ht
                        clear ht
                        rcases ok with _ | _
                        · skip
                          have a0 := B6.out.cell 0
                          have a1 := B6.out.cell 1
                          have a2 := B6.out.cell 2
                          have g0 := B6.out.frozen 0
                          have g1 := B6.out.frozen 1
                          have g2 := B6.out.frozen 2
                          dsimp only [List.getElem?_cons_succ, List.getElem?_cons_zero] at a0 a1 a2
                          go_wp2_with fail
                          have q := three B6.out (.int .i64 0) (.int .u64 0) (.int .u32 0)
                          have kq := three_below KK.out (Nat.le_of_eq HG.out.symm) (.int .i64 0) (.int .u64 0) (.int .u32 0)
                          generalize ((w6.setCell ⟨g, 0, none⟩ (.int .i64 0)).setCell ⟨g, 1, none⟩ (.int .u64 0)).setCell ⟨g, 2, none⟩ (.int .u32 0) = X at q kq ⊢
                          have q0 := q.cell 0
                          have q1 := q.cell 1
                          have q2 := q.cell 2
                          dsimp only [List.getElem?_cons_succ, List.getElem?_cons_zero] at q0 q1 q2
                          refine bodyPost_ret (v := .tuple #[.agg #[.int .i64 0, .int .u64 0, .int .u32 0], .int .i64 3]) (by simp [results, Try.results11, go_sem, q0, q1, q2]) rfl ⟨⟨_, rfl, .inr ⟨?_, rfl⟩⟩, kq⟩
                          rintro f hf
                          obtain ⟨e1, e2, e3, e4, e5⟩ := HALL.out f hf
                          cases e1
                        · rcases ok2 with _ | _
                          · skip
                            have a0 := B6.out.cell 0
                            have a1 := B6.out.cell 1
                            have a2 := B6.out.cell 2
                            have g0 := B6.out.frozen 0
                            have g1 := B6.out.frozen 1
                            have g2 := B6.out.frozen 2
                            dsimp only [List.getElem?_cons_succ, List.getElem?_cons_zero] at a0 a1 a2
                            go_wp2_with fail
                            have q := three B6.out (.int .i64 0) (.int .u64 0) (.int .u32 0)
                            have kq := three_below KK.out (Nat.le_of_eq HG.out.symm) (.int .i64 0) (.int .u64 0) (.int .u32 0)
                            generalize ((w6.setCell ⟨g, 0, none⟩ (.int .i64 0)).setCell ⟨g, 1, none⟩ (.int .u64 0)).setCell ⟨g, 2, none⟩ (.int .u32 0) = X at q kq ⊢
                            have q0 := q.cell 0
                            have q1 := q.cell 1
                            have q2 := q.cell 2
                            dsimp only [List.getElem?_cons_succ, List.getElem?_cons_zero] at q0 q1 q2
                            refine bodyPost_ret (v := .tuple #[.agg #[.int .i64 0, .int .u64 0, .int .u32 0], .int .i64 3]) (by simp [results, Try.results11, go_sem, q0, q1, q2]) rfl ⟨⟨_, rfl, .inr ⟨?_, rfl⟩⟩, kq⟩
                            rintro f hf
                            obtain ⟨e1, e2, e3, e4, e5⟩ := HALL.out f hf
                            cases e2
                          · by_cases hE : textL f = l
                            · have hts : t = s := by rw [HTE.out, HS.out, hE]
                              have HE := hide hE
                              clear hE HTE
                              rw [hts]
                              have hss : (s.toList == s.toList) = true := by simp
                              clear hts
                              have a0 := B6.out.cell 0
                              have a1 := B6.out.cell 1
                              have a2 := B6.out.cell 2
                              have g0 := B6.out.frozen 0
                              have g1 := B6.out.frozen 1
                              have g2 := B6.out.frozen 2
                              have f0 := F6.out.cell 0
                              have f1 := F6.out.cell 1
                              have f2 := F6.out.cell 2
                              dsimp only [List.getElem?_cons_succ, List.getElem?_cons_zero] at a0 a1 a2 f0 f1 f2
                              go_wp2_with fail
                              have q := three B6.out (.int .i64 (f.v : Int)) (.int .u64 (f.k : Int)) (.int .u32 (f.c : Int))
                              have kq := three_below KK.out (Nat.le_of_eq HG.out.symm) (.int .i64 (f.v : Int)) (.int .u64 (f.k : Int)) (.int .u32 (f.c : Int))
                              generalize ((w6.setCell ⟨g, 0, none⟩ (.int .i64 (f.v : Int))).setCell ⟨g, 1, none⟩ (.int .u64 (f.k : Int))).setCell ⟨g, 2, none⟩ (.int .u32 (f.c : Int)) = X at q kq ⊢
                              have q0 := q.cell 0
                              have q1 := q.cell 1
                              have q2 := q.cell 2
                              dsimp only [List.getElem?_cons_succ, List.getElem?_cons_zero] at q0 q1 q2
                              refine bodyPost_ret (v := .tuple #[.agg #[.int .i64 (f.v : Int), .int .u64 (f.k : Int), .int .u32 (f.c : Int)], .int .i64 0]) (by simp [results, Try.results11, go_sem, q0, q1, q2]) rfl ⟨⟨_, rfl, .inl ⟨f, ⟨HFO.out, HE.out⟩, rfl⟩⟩, kq⟩
                            · have hne2 : (t.toList == s.toList) = false := by
                                rw [beq_eq_false_iff_ne]
                                intro h
                                rw [ByteArray.toList_eq, ByteArray.toList_eq, HTE.out, HS.out, mkS_data, mkS_data] at h
                                exact hE h
                              have HE := hide hE
                              clear hE
                              have a0 := B6.out.cell 0
                              have a1 := B6.out.cell 1
                              have a2 := B6.out.cell 2
                              have g0 := B6.out.frozen 0
                              have g1 := B6.out.frozen 1
                              have g2 := B6.out.frozen 2
                              dsimp only [List.getElem?_cons_succ, List.getElem?_cons_zero] at a0 a1 a2
                              go_wp2_with fail
                              have q := three B6.out (.int .i64 0) (.int .u64 0) (.int .u32 0)
                              have kq := three_below KK.out (Nat.le_of_eq HG.out.symm) (.int .i64 0) (.int .u64 0) (.int .u32 0)
                              generalize ((w6.setCell ⟨g, 0, none⟩ (.int .i64 0)).setCell ⟨g, 1, none⟩ (.int .u64 0)).setCell ⟨g, 2, none⟩ (.int .u32 0) = X at q kq ⊢
                              have q0 := q.cell 0
                              have q1 := q.cell 1
                              have q2 := q.cell 2
                              dsimp only [List.getElem?_cons_succ, List.getElem?_cons_zero] at q0 q1 q2
                              refine bodyPost_ret (v := .tuple #[.agg #[.int .i64 0, .int .u64 0, .int .u32 0], .int .i64 3]) (by simp [results, Try.results11, go_sem, q0, q1, q2]) rfl ⟨⟨_, rfl, .inr ⟨?_, rfl⟩⟩, kq⟩
                              rintro f2 hf
                              obtain ⟨e1, e2, e3, e4, e5⟩ := HALL.out f2 hf
                              have : f2 = f := by
                                obtain ⟨v, k, c⟩ := f
                                obtain ⟨v2, k2, c2⟩ := f2
                                simp only at e3 e4 e5
                                simp only [Fd.mk.injEq]
                                refine ⟨?_, ?_, ?_⟩ <;> omega
                              rw [this] at hf
                              exact HE.out hf.2
            · obtain rfl : q = n := by omega
              have HNO : Hid (∀ f, ¬ IsText l f) := by
                intro f hf
                have := (hTX.out f hf).1
                omega
              have hqi : ¬ (q : Int) < (q : Int) := by omega
              have hqq : (q : Int) ≤ (q : Int) := by omega
              clear hgo hRl hqn
              by_cases hc1 : i < 1
              · have hc1i : (i : Int) < 1 := by omega
                have HC := hide hc1
                clear hc1
                have a0 := B0.out.cell 0
                have a1 := B0.out.cell 1
                have a2 := B0.out.cell 2
                have g0 := B0.out.frozen 0
                have g1 := B0.out.frozen 1
                have g2 := B0.out.frozen 2
                dsimp only [List.getElem?_cons_succ, List.getElem?_cons_zero] at a0 a1 a2
                go_wp2_with fail
                have q := three B0.out (.int .i64 0) (.int .u64 0) (.int .u32 0)
                have kq := three_below KA.out (Nat.le_of_eq HG.out.symm) (.int .i64 0) (.int .u64 0) (.int .u32 0)
                generalize ((W.setCell ⟨g, 0, none⟩ (.int .i64 0)).setCell ⟨g, 1, none⟩ (.int .u64 0)).setCell ⟨g, 2, none⟩ (.int .u32 0) = X at q kq ⊢
                have q0 := q.cell 0
                have q1 := q.cell 1
                have q2 := q.cell 2
                dsimp only [List.getElem?_cons_succ, List.getElem?_cons_zero] at q0 q1 q2
                refine bodyPost_ret (v := .tuple #[.agg #[.int .i64 0, .int .u64 0, .int .u32 0], .int .i64 3]) (by simp [results, Try.results11, go_sem, q0, q1, q2]) rfl ⟨⟨_, rfl, .inr ⟨?_, rfl⟩⟩, kq⟩
                exact HNO.out
              · have hc1i : ¬ (i : Int) < 1 := by omega
                clear hc1
                by_cases hc2 : 8 < i
                · have hc2i : (8 : Int) < (i : Int) := by omega
                  have HC := hide hc2
                  clear hc2
                  have a0 := B0.out.cell 0
                  have a1 := B0.out.cell 1
                  have a2 := B0.out.cell 2
                  have g0 := B0.out.frozen 0
                  have g1 := B0.out.frozen 1
                  have g2 := B0.out.frozen 2
                  dsimp only [List.getElem?_cons_succ, List.getElem?_cons_zero] at a0 a1 a2
                  go_wp2_with fail
                  have q := three B0.out (.int .i64 0) (.int .u64 0) (.int .u32 0)
                  have kq := three_below KA.out (Nat.le_of_eq HG.out.symm) (.int .i64 0) (.int .u64 0) (.int .u32 0)
                  generalize ((W.setCell ⟨g, 0, none⟩ (.int .i64 0)).setCell ⟨g, 1, none⟩ (.int .u64 0)).setCell ⟨g, 2, none⟩ (.int .u32 0) = X at q kq ⊢
                  have q0 := q.cell 0
                  have q1 := q.cell 1
                  have q2 := q.cell 2
                  dsimp only [List.getElem?_cons_succ, List.getElem?_cons_zero] at q0 q1 q2
                  refine bodyPost_ret (v := .tuple #[.agg #[.int .i64 0, .int .u64 0, .int .u32 0], .int .i64 3]) (by simp [results, Try.results11, go_sem, q0, q1, q2]) rfl ⟨⟨_, rfl, .inr ⟨?_, rfl⟩⟩, kq⟩
                  exact HNO.out
                · have hc2i : ¬ (8 : Int) < (i : Int) := by omega
                  clear hc2
                  have a0 := B0.out.cell 0
                  have a1 := B0.out.cell 1
                  have a2 := B0.out.cell 2
                  have g0 := B0.out.frozen 0
                  have g1 := B0.out.frozen 1
                  have g2 := B0.out.frozen 2
                  dsimp only [List.getElem?_cons_succ, List.getElem?_cons_zero] at a0 a1 a2
                  go_wp2_with fail
                  have q := three B0.out (.int .i64 0) (.int .u64 0) (.int .u32 0)
                  have kq := three_below KA.out (Nat.le_of_eq HG.out.symm) (.int .i64 0) (.int .u64 0) (.int .u32 0)
                  generalize ((W.setCell ⟨g, 0, none⟩ (.int .i64 0)).setCell ⟨g, 1, none⟩ (.int .u64 0)).setCell ⟨g, 2, none⟩ (.int .u32 0) = X at q kq ⊢
                  have q0 := q.cell 0
                  have q1 := q.cell 1
                  have q2 := q.cell 2
                  dsimp only [List.getElem?_cons_succ, List.getElem?_cons_zero] at q0 q1 q2
                  refine bodyPost_ret (v := .tuple #[.agg #[.int .i64 0, .int .u64 0, .int .u32 0], .int .i64 3]) (by simp [results, Try.results11, go_sem, q0, q1, q2]) rfl ⟨⟨_, rfl, .inr ⟨?_, rfl⟩⟩, kq⟩
                  exact HNO.out
end Go.Proofs.Ytdchgjniepdhfaa
