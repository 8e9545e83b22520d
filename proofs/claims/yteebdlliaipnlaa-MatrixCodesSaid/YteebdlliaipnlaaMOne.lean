/- A row appended to a matrix of the call's own; the contracts of matrix.One and of the document's One. No condition but the widths. -/
import Derived.Test.YteebdlliaipnlaaMGrid
namespace Go.Proofs.Yteebdlliaipnlaa
open Go.RowKit
theorem wpList_append_mrow {w : World} {ops : Array Oper} {rest : List Oper} {o : Oper} {a : Act} {Q : Exit → Act → World → Prop} (hgd : o.guard = none) (s x : Operand)
    (ho : o.op = .call { callee := .builtin .append, args := #[s, x], argTypes := #[22, 22] })
    (B : Nat) (v : Value) (xss : ML) (hs : a.eval s = v) (hown : OwnMt w B v xss)
    (b : Nat) (u : Value) (xs : List Nat) (hx : a.eval x = .slice (some ⟨b, 0, none⟩) 1 1) (hu : w.cell? ⟨b, 0, none⟩ = some u) (hr : Own w B u xs)
    (hlen : xss.length + 1 ≤ 1099511627776) (hbase : B ≤ w.heap.size)
    (h : ∀ v' w', OwnMt w' B v' (xss ++ [xs]) → Below B w w' → wpList Try.prog ops Q rest (a.put o.dst v') w') : wpList Try.prog ops Q (o :: rest) a w := by
  obtain ⟨vs, h1, h2⟩ := hown
  obtain ⟨A, c, e, _⟩ := hr.form
  exact wpList_append_row hgd s x ho B v vs hs h1 b u hx hu (by rw [e]; rfl) (by rw [h2.1]; exact hlen) hbase (fun v' w' k1 k2 k3 => h v' w' (OwnMt.snoc h1 h2 hr k1 k3) k2)
theorem cell_newAt (w : World) (u : Value) (e : TypeId) {b : Nat} (h : b = w.heap.size) : (w.alloc (.cells #[u] e)).cell? ⟨b, 0, none⟩ = some u := by
  subst h
  exact cell_new w u e
theorem take_snoc (xss : ML) (k : Nat) (h : k < xss.length) : xss.take (k + 1) = xss.take k ++ [xss.getD k []] := by
  rw [List.take_succ_eq_append_getElem h]
  simp [h]
theorem one_bad (n : Int) (w : World) (h : n < 1 ∨ 64 < n) : Calls Try.prog 15 #[.int .i64 n] w fun e w' => e = .returned (.tuple #[.slice none 0 0, .int .i64 1]) ∧ w = w' := by
  by_cases h1 : n < 1
  · clear h
    go_enter Try.func15, Try.ntmps15
    go_wp2_with fail
    go_ret2
    exact ⟨rfl, rfl⟩
  · have h2 : 64 < n := by omega
    clear h
    go_enter Try.func15, Try.ntmps15
    go_wp2_with fail
    go_ret2
    exact ⟨rfl, rfl⟩
theorem rone_bad (n : Int) (w : World) (h : n < 1 ∨ 64 < n) : Calls Try.prog 16 #[.int .i64 n] w fun e w' => e = .returned (.tuple #[.slice none 0 0, .int .i64 1]) ∧ w = w' := by
  by_cases h1 : n < 1
  · clear h
    go_enter Try.func16, Try.ntmps16
    go_wp2_with fail
    go_ret2
    exact ⟨rfl, rfl⟩
  · have h2 : 64 < n := by omega
    clear h
    go_enter Try.func16, Try.ntmps16
    go_wp2_with fail
    go_ret2
    exact ⟨rfl, rfl⟩
set_option maxHeartbeats 800000 in
theorem one_any (n : Nat) (w : World) (h1 : 1 ≤ n) (h2 : n ≤ 64) :
    Calls Try.prog 15 #[.int .i64 (n : Int)] w fun e w' => ∃ g, e = .returned (.tuple #[.slice (some ⟨g, 0, none⟩) n n, .int .i64 0]) ∧ OwnMt w' w.heap.size (.slice (some ⟨g, 0, none⟩) n n) (oneL n) ∧ Below w.heap.size w w' := by
  have g1 : ¬ (n : Int) < 1 := by omega
  have g2 : ¬ 64 < (n : Int) := by omega
  have HNO := hide (noughts_any n n w (by omega) (by omega))
  obtain ⟨B, hB⟩ : ∃ B, B = w.heap.size := ⟨_, rfl⟩
  rw [← hB] at HNO ⊢
  clear hB
  go_enter Try.func15, Try.ntmps15
  go_wp2_with fail
  refine HNO.out.mono ?_
  rintro e w1 ⟨g, R, rfl, gr, kb⟩
  have GR := hide gr
  have KB := hide kb
  clear gr kb HNO
  go_wp2_with fail
  go_loopw [17] (fun i wr => ∃ k : Nat, k ≤ n ∧ i = .int .i64 (k : Int) ∧ Hid (∃ f, Grid wr B g n n R f ∧ ∀ a b, f a b = if a < k then dl a b else G.zero) ∧ Hid (Below B w wr)) (fun i _ => n - (intOf i).toNat)
  case atStart => exact ⟨0, Nat.zero_le _, rfl, hide ⟨_, GR.out, fun a b => (if_neg (Nat.not_lt_zero a)).symm⟩, KB⟩
  case round =>
    obtain ⟨k, hk, rfl, hf, hbel⟩ := hrel
    by_cases hlt : k < n
    · obtain ⟨f, gf, ef⟩ := hf.out
      have c1 := gf.cell k hlt
      have c2 := gf.num k k hlt hlt
      have c3 := gf.frozen k k hlt
      have st := gf.set k k hlt G.one
      have BL := hide (gf.below k k hlt (.int .u8 (G.one.n : Int)) hbel.out)
      have NX : Hid (∃ f, Grid (wr.setCell ⟨R k, k, none⟩ (.int .u8 (G.one.n : Int))) B g n n R f ∧ ∀ a b, f a b = if a < k + 1 then dl a b else G.zero) := by
        refine ⟨_, st, fun a b => ?_⟩
        by_cases e1 : a = k
        · subst e1
          rw [if_pos (by omega)]
          by_cases e2 : b = a
          · subst e2; rw [upd_at, dl_eq]
          · rw [upd_col e2, ef, if_neg (by omega), dl_ne (fun q => e2 q.symm)]
        · rw [upd_row e1, ef]
          by_cases e2 : a < k
          · rw [if_pos e2, if_pos (by omega)]
          · rw [if_neg e2, if_neg (by omega)]
      have e1 : ((G.one.n : Nat) : Int) = 1 := rfl
      rw [e1] at NX BL
      clear st gf ef hf hbel e1
      go_wp2_with fail
      go_roundw
      case rel => exact ⟨k + 1, by omega, by go_num, NX, BL⟩
      case measure => simp [intOf]; omega
    · obtain rfl : k = n := by omega
      go_wp2_with fail
      go_ret2
      obtain ⟨f, gf, ef⟩ := hf.out
      refine ⟨g, rfl, ?_, hbel.out⟩
      have := gf.own (by omega) (by omega)
      rwa [show laid k k f = oneL k from laid_congr (fun i hi j _ => by rw [ef, if_pos hi])] at this
theorem one_row {n k : Nat} (hk : k < n) : (List.replicate n 0).set k 1 = (oneL n).getD k [] := by
  unfold oneL
  rw [laid_row dl hk]
  apply List.ext_getElem
  · simp
  · intro i h1 h2
    rw [List.getElem_set]
    simp only [List.getElem_replicate, List.getElem_map, List.getElem_range]
    by_cases e : k = i
    · subst e; rw [if_pos rfl, dl_eq]; rfl
    · rw [if_neg e, dl_ne e]; rfl
set_option maxHeartbeats 800000 in
theorem rone_any (n : Nat) (w : World) (h1 : 1 ≤ n) (h2 : n ≤ 64) :
    Calls Try.prog 16 #[.int .i64 (n : Int)] w fun e w' => ∃ v, e = .returned (.tuple #[v, .int .i64 0]) ∧ OwnMt w' w.heap.size v (oneL n) ∧ Below w.heap.size w w' := by
  obtain ⟨i1, hj, hy0, hy1, hy2⟩ := info_parts Try.info_u8'
  have HJ := hide (And.intro hj (And.intro hy0 (And.intro hy1 hy2)))
  clear hj hy0 hy1 hy2
  have g1 : ¬ (n : Int) < 1 := by omega
  have g2 : ¬ 64 < (n : Int) := by omega
  obtain ⟨B, hB⟩ : ∃ B, B = w.heap.size := ⟨_, rfl⟩
  rw [← hB]
  have HB := hide hB
  clear hB
  go_enter Try.func16, Try.ntmps16
  go_wp2_with fail
  go_loopw [4, 5] (fun s i wr => ∃ k : Nat, k ≤ n ∧ i = .int .i64 (k : Int) ∧ Hid (OwnMt wr B s ((oneL n).take k)) ∧ Hid (Below B w wr)) (fun _ i _ => n - (intOf i).toNat)
  case atStart => exact ⟨0, Nat.zero_le _, rfl, hide (OwnMt.nil _ _), hide (by rw [HB.out]; exact Below.refl _ _)⟩
  case round =>
    obtain ⟨k, hk, rfl, hown, hbel⟩ := hrel
    by_cases hlt : k < n
    · obtain ⟨hj, hy0, hy1, hy2⟩ := HJ.out
      go_wp2_with (at_make; refine halt ?_)
      refine ⟨?_⟩
      refine wpList_make_full _ rfl (.tmp 18) (.tmp 18) 39 rfl wr.heap.size 5 i1 (.int .u8 0) 1 Try.underlying39 hj hy0 hy1 .i64 .i64 n n n rfl rfl rfl rfl (by rw [hy2]; omega) (by unfold maxLen; omega) (Nat.le_refl _) ?_
      intro w3 h3 g3
      clear hj hy0 hy1 hy2
      have hgs : B ≤ wr.heap.size := by rw [HB.out]; exact hbel.out.size
      have o3 := (made_bytes h3).more hgs
      have k3 : Below wr.heap.size wr w3 := (Below.refl _ _).grown g3 (Nat.le_refl _) (by simp)
      have ow3 := hown.out.keep k3
      have kb3 := hbel.out.trans (k3.mono hgs)
      obtain ⟨b, hb⟩ : ∃ b, b = wr.heap.size := ⟨_, rfl⟩
      rw [← hb] at o3 ⊢
      have cs := o3.cells_ (by simp) k
      have c1 := cs.1 hlt
      have c2 := cs.2
      have st := o3.stored' (by simp) k 1
      rw [one_row hlt] at st
      have ST := hide (st.more (B' := B) (Nat.le_refl _))
      have kset := k3.setCell (p := ⟨b, k, none⟩) (Nat.le_of_eq hb.symm) (.int .u8 ((1 : Nat) : Int))
      have OW := hide (hown.out.keep kset)
      have KS := hide (hbel.out.trans (kset.mono hgs))
      clear h3 g3 o3 k3 ow3 kb3 cs st kset hown hbel hgs hb
      rw [show ((1 : Nat) : Int) = 1 from rfl] at ST OW KS
      have HSZ : Hid (w3.heap.size = (w3.setCell ⟨b, k, none⟩ (.int .u8 1)).heap.size) := by unfold Hid; simp
      go_wp2_with (at_builtin; refine halt ?_)
      refine ⟨?_⟩
      have ka := below_alloc (w3.setCell ⟨b, k, none⟩ (.int .u8 1)) (.cells #[.slice (some ⟨b, 0, none⟩) n n] 39)
      have kt := KS.out.trans (ka.mono (by rw [HB.out]; exact KS.out.size))
      refine wpList_append_mrow rfl (.tmp 23) (.tmp 25) rfl B _ _ rfl (OW.out.keep ka) _ _ _ rfl (cell_newAt _ _ _ HSZ.out) (ST.out.keep ka) (by rw [List.length_take]; omega) (by rw [HB.out]; exact kt.size) ?_
      intro v' w4 o4 k4
      rw [← take_snoc _ _ (by unfold oneL; rw [laid_len]; exact hlt)] at o4
      have O4 := hide o4
      have K4 := hide (kt.trans k4)
      clear o4 k4 kt ka OW ST KS HSZ
      go_wp2_with fail
      go_roundw
      case rel => exact ⟨k + 1, by omega, by go_num, O4, K4⟩
      case measure => simp [intOf]; omega
    · obtain rfl : k = n := by omega
      go_wp2_with fail
      go_ret2
      refine ⟨_, rfl, ?_, hbel.out⟩
      have := hown.out
      rwa [List.take_of_length_le (by unfold oneL; rw [laid_len]; exact Nat.le_refl _)] at this
end Go.Proofs.Yteebdlliaipnlaa
