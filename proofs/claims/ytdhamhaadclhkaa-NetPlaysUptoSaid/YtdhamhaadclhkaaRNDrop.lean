/- The contract of the document's Drop. No condition but the widths. -/
import Derived.Test.YtdhamhaadclhkaaNDelF
namespace Go.Proofs.Ytdhamhaadclhkaa
open Go.RowKit
set_option maxRecDepth 100000 in
set_option maxHeartbeats 3200000 in
theorem rdrop_any (F : Nat → Prop) (g : Nat) (L : List Tale) (node : Int) (w : World) (h : NetAt RN w F g L) :
    Calls Try.prog 31 #[.pointer (some ⟨g, 0, none⟩), .int .i64 node] w fun e w' => e = .returned (.int .i64 ((L.length : Int) - ((dropL node L).length : Int))) ∧ ∃ F', NetAt RN w' F' g (dropL node L) ∧ Next F w F' w' := by
  obtain ⟨v, X, rfl, hS⟩ := h
  rw [dropL_says, List.length_map, List.length_map]
  have hfl : (X.filter (stays node)).length ≤ X.length := List.length_filter_le _ _
  have hm := hS.most
  obtain ⟨A0, c0, rfl, hlc, hc63, -, hcl⟩ := hS.row.form
  have q0 : w.cell? ⟨g, 0, none⟩ = some (.slice A0 X.length c0) := hS.cells.cell 0
  have hgl : g < w.heap.size := hS.cells.lt
  have fg := hS.cells.frozen 0
  obtain ⟨N, hN⟩ : ∃ N, N = X.length := ⟨_, rfl⟩
  obtain ⟨M, hM⟩ : ∃ M, M = (X.filter (stays node)).length := ⟨_, rfl⟩
  rw [← hN] at q0 hlc hm hfl
  rw [← hM] at hfl
  rw [← hN, ← hM]
  have HN := hide hN
  have HM := hide hM
  have HC := hide hcl
  have HS := hide hS
  clear hcl hS hN hM
  go_enter Try.func31, Try.ntmps31
  go_wp2_with fail
  go_loopw [5, 6] (fun v5 i6 wr => ∃ j : Nat, j ≤ N ∧ i6 = .int .i64 (j : Int) ∧ Hid (OwnM wr w.heap.size v5 ((X.take j).filter (stays node))) ∧ Hid (Below w.heap.size w wr)) (fun _ i6 _ => N - (intOf i6).toNat)
  case atStart => exact ⟨0, Nat.zero_le _, rfl, OwnM.nil _ _, Below.refl _ _⟩
  case round =>
    obtain ⟨j, hj, rfl, hO, hb⟩ := hrel
    have q0' := (hb.out.cell (p := ⟨g, 0, none⟩) hgl).trans q0
    by_cases hlt : j < N
    · have hjX : j < X.length := by rw [← HN.out]; exact hlt
      obtain ⟨b, rfl, -, hbl, y0, y1, y2, y3, y4, -⟩ := HC.out j hjX
      have gd := HS.out.each X[j] (List.getElem_mem hjX)
      obtain ⟨A, c, D, cp, hq, -⟩ := five_form gd
      obtain ⟨f, t, k, U, V, zs, d, hx⟩ : ∃ f t k U V zs d, X[j] = ⟨f, t, k, U, V, zs, d⟩ := ⟨_, _, _, _, _, _, _, rfl⟩
      have HJ : Hid (stays node X[j] = !decide (f = node ∨ t = node)) := by unfold Hid; rw [hx]; rfl
      rw [hx] at y0 y1 y2 y3 y4 hq
      have HXJ := hide hx
      simp only [Itm.mk.injEq, true_and, and_true] at hq
      obtain ⟨rfl, rfl⟩ := hq
      have x0 := (hb.out.cell (p := ⟨b, j * 5, none⟩) hbl).trans y0
      have x1 := (hb.out.cell (p := ⟨b, j * 5 + 1, none⟩) hbl).trans y1
      have x2 := (hb.out.cell (p := ⟨b, j * 5 + 2, none⟩) hbl).trans y2
      have x3 := (hb.out.cell (p := ⟨b, j * 5 + 3, none⟩) hbl).trans y3
      have x4 := (hb.out.cell (p := ⟨b, j * 5 + 4, none⟩) hbl).trans y4
      have hlt2 : (j : Int) < (N : Int) := by omega
      have hj0 : 0 ≤ (j : Int) := by omega
      have htk : ∀ r : Bool, stays node X[j] = r → (X.take (j + 1)).filter (stays node) = if r = true then (X.take j).filter (stays node) ++ [X[j]] else (X.take j).filter (stays node) := by
        intro r hr
        rw [List.take_succ_eq_append_getElem hjX, List.filter_append]
        rcases r with _ | _ <;> simp [hr]
      have HTK := hide htk
      clear y0 y1 y2 y3 y4 hx gd htk
      by_cases e1 : f = node
      · have ne1 : (f != node) = false := by simp [e1]
        have hr : stays node X[j] = false := by rw [HJ.out]; simp [e1]
        have ht := HTK.out _ hr
        have HT := hide ht
        clear ht hr e1
        go_wp2_with fail
        refine ⟨⟨j + 1, by omega, by go_num, ?_, hb⟩, by simp [intOf]; omega⟩
        rw [HT.out]
        exact hO
      · have ne1 : (f != node) = true := by simp [e1]
        by_cases e2 : t = node
        · have ne2 : (t != node) = false := by simp [e2]
          have hr : stays node X[j] = false := by rw [HJ.out]; simp [e2]
          have ht := HTK.out _ hr
          have HT := hide ht
          clear ht hr e1 e2
          go_wp2_with fail
          refine ⟨⟨j + 1, by omega, by go_num, ?_, hb⟩, by simp [intOf]; omega⟩
          rw [HT.out]
          exact hO
        · have ne2 : (t != node) = true := by simp [e2]
          have hr : stays node X[j] = true := by rw [HJ.out]; simp [e1, e2]
          have ht := HTK.out _ hr
          rw [HXJ.out] at ht
          have HT := hide ht
          have hfj : ((X.take j).filter (stays node)).length ≤ 4096 := by
            refine Nat.le_trans (List.length_filter_le _ _) ?_
            rw [List.length_take]
            omega
          have kz := below_alloc wr (.cells #[.int .i64 f, .int .i64 t, .int .i64 k, .slice A zs.length c, .slice D d.length cp] 45)
          clear ht hr e1 e2
          go_wp2_with (at_builtin; refine halt ?_)
          refine ⟨?_⟩
          refine wpList_append_msgs rfl (.tmp 39) (.tmp 47) rfl w.heap.size _ _ rfl (ownsRow_keep hO.out kz) _ [⟨f, t, k, .slice A zs.length c, .slice D d.length cp, zs, d⟩] rfl (isM_one _ f t k A _ c D _ cp zs d _ rfl) (by rw [List.length_singleton]; omega) (Nat.le_trans hb.out.size kz.size) ?_
          intro v4 w4 o4 g4 _
          have K4 := hide ((hb.out.trans (kz.mono hb.out.size)).grown g4 (Nat.le_trans hb.out.size kz.size) (fun q e => (World.ownsRow.lt (ownsRow_keep hO.out kz) q e).1))
          have O4 := hide o4
          clear o4 g4 kz
          go_wp2_with fail
          refine ⟨⟨j + 1, by omega, by go_num, ?_, K4⟩, by simp [intOf]; omega⟩
          rw [HT.out]
          exact O4
    · obtain rfl : j = N := by omega
      have o := hO.out
      rw [HN.out, List.take_length] at o
      have o0 : OwnM wr 0 _ _ := ownsRow_more o (Nat.zero_le _)
      obtain ⟨A4, c4, ev, -⟩ := o0.form
      rw [← HM.out] at ev
      subst ev
      have hnl : ¬ ((j : Int) < (j : Int)) := by omega
      have kb := hb.out
      have hbl := HS.out.below kb
      have F0 : wr.frozen? ⟨g, 0, none⟩ = false := hbl.cells.frozen 0
      have S4 := hide (hbl.newrow (F' := fun q => F q ∨ (w.heap.size ≤ q ∧ q < wr.heap.size)) (by decide) (by decide) (by decide) o0 (fun q hq => .inl hq) (fun q hq => .inr (World.ownsRow.lt o q hq)) (fun q hq => hq.elim (fun z => hbl.low q z) (fun z => z.2)) (fun q hq => (hbl.each q (List.mem_filter.1 hq).1).more (fun z hz => .inl hz)) (by rw [← HM.out]; omega))
      have T4 : Hid (Turn F w (wr.setCell ⟨g, 0, none⟩ (.slice A4 M c4))) := (Turn.of_below F kb).trans ((Turn.of_grown (grown_set wr g 0 (.slice A4 M c4))).mono (fun q hq => by
        have hq : q = g := Option.some.inj hq
        rw [hq]; exact HS.out.own))
      clear o o0 kb hbl
      go_wp2_with fail
      go_ret
      exact ⟨rfl, _, ⟨_, _, rfl, S4.out⟩, T4.out, fun q hq => hq.imp id (fun z => z.1)⟩
end Go.Proofs.Ytdhamhaadclhkaa
