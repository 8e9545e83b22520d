/- The contracts of the law's own 'known', and the walks of the laws NetOfNothing and NetFull. No conditions but the widths. -/
import Derived.Test.YtdhamhaadclhkaaNAny
namespace Go.Proofs.Ytdhamhaadclhkaa
open Go.RowKit
set_option maxHeartbeats 1600000 in
theorem take_nil5 (i : Int) (w : World) :
    Calls Try.prog 25 #[.pointer none, .int .i64 i] w fun e w' => e = .returned (.tuple #[zeroMsg, .bool false]) ∧ Below w.heap.size w w' := by
  have ka := below_alloc w (.cells zeroArr 45)
  have HA := hide (at_nil5 i (w.alloc (.cells zeroArr 45)))
  have m1 := msgAt_new w 45 0 0 0 (.slice none 0 0) (.slice none 0 0)
  obtain ⟨w1, hw1⟩ : ∃ w1, w1 = w.alloc (.cells zeroArr 45) := ⟨_, rfl⟩
  rw [← hw1] at HA ka m1
  have b1 : Blk w1 0 45 w.heap.size zeroArr.toList := by rw [hw1]; exact Blk.new w _ _ (Nat.zero_le _)
  obtain ⟨g1, hg1⟩ : ∃ g1, g1 = w.heap.size := ⟨_, rfl⟩
  rw [← hg1] at b1
  have HW := hide hw1
  have HG := hide hg1
  have KA := hide ka
  have B1 := hide b1
  unfold zeroMsg at HA
  clear hw1 hg1 ka m1 b1
  go_enter Try.func25, Try.ntmps25
  go_wp2_with fail
  rw [← HW.out, ← HG.out]
  refine HA.out.mono ?_
  rintro e w2 ⟨rfl, k2⟩
  have b2 := B1.out.keep k2
  have K2 := hide (KA.out.trans (k2.mono KA.out.size))
  have hgl : g1 < w2.heap.size := b2.lt
  have z0 : w2.cell? ⟨g1, 0, none⟩ = some (.int .i64 0) := b2.cell 0
  have z1 : w2.cell? ⟨g1, 1, none⟩ = some (.int .i64 0) := b2.cell 1
  have z2 : w2.cell? ⟨g1, 2, none⟩ = some (.int .i64 0) := b2.cell 2
  have z3 : w2.cell? ⟨g1, 3, none⟩ = some (.slice none 0 0) := b2.cell 3
  have z4 : w2.cell? ⟨g1, 4, none⟩ = some (.slice none 0 0) := b2.cell 4
  have y0 := b2.frozen 0
  have y1 := b2.frozen 1
  have y2 := b2.frozen 2
  have y3 := b2.frozen 3
  have y4 := b2.frozen 4
  have B2 := hide b2
  clear k2 b2
  go_wp2_with fail
  obtain ⟨W8, hW8⟩ : ∃ W8, W8 = setMsg w2 g1 0 0 0 (.slice none 0 0) (.slice none 0 0) := ⟨_, rfl⟩
  obtain ⟨b9, k9, gr9⟩ := laid_msg K2.out (Nat.le_of_eq HG.out.symm) B2.out rfl 0 0 0 (.slice none 0 0) (.slice none 0 0)
  rw [← hW8] at b9 gr9 k9
  unfold setMsg at hW8
  rw [← hW8]
  have ka := below_alloc W8 (.cells zeroArr 45)
  obtain ⟨q0, q1, q2, q3, q4⟩ := (b9.keep ka).msgAt
  refine bodyPost_ret (v := .tuple #[zeroMsg, .bool false]) (by simp [results, Try.results25, go_sem, zeroMsg, q0, q1, q2, q3, q4]) rfl ⟨rfl, k9.trans (ka.mono k9.size)⟩

def tale (k : Int) : Tale := (0, 0, k, [], [])
theorem isB_none (w : World) : IsB w (.slice none 0 0) [] := ⟨none, 0, rfl, fun h => absurd rfl h, fun _ => rfl, Nat.zero_le _, by decide⟩
theorem send_tale (F : Nat → Prop) (g : Nat) (L : List Tale) (k : Int) (w : World) (h : NetAt PN w F g L) :
    Calls Try.prog 20 #[.pointer (some ⟨g, 0, none⟩), .agg #[.int .i64 0, .int .i64 0, .int .i64 k, .slice none 0 0, .slice none 0 0]] w fun e w' => e = .returned (.bool (decide (L.length < 4096))) ∧ ∃ F', NetAt PN w' F' g (sendL (tale k) L) ∧ Next F w F' w' :=
  send_any F g L 0 0 k none none 0 0 0 0 [] [] w h (isI_nil w) (fun _ => rfl) (isB_none w) rfl (Nat.zero_le _) (Nat.zero_le _)
set_option maxHeartbeats 1600000 in
theorem known_any (w : World) : Calls Try.prog 18 #[] w fun e w' => e = .returned (.bool true) ∧ Below w.heap.size w w' := by
  have n0 := net_new PN w _ rfl
  have ka := below_alloc w (.cells #[.slice none 0 0] PN)
  have e0 := Nat.le_refl w.heap.size
  have hc := send_tale _ _ [] 1 _ n0
  obtain ⟨w1, hw1⟩ : ∃ w1, w1 = w.alloc (.cells #[.slice none 0 0] PN) := ⟨_, rfl⟩
  obtain ⟨g, hg⟩ : ∃ g, g = w.heap.size := ⟨_, rfl⟩
  rw [← hw1, ← hg] at n0 hc
  rw [← hw1] at ka
  have HW := hide hw1
  have HG := hide hg
  have HC := hide hc
  have KA := hide ka
  have HF : Hid (∀ k, k = g → w.heap.size ≤ k) := by unfold Hid; intro k e; rw [e, hg]; exact e0
  clear hc hw1 hg ka n0 e0
  go_enter Try.func18, Try.ntmps18
  go_wp2_with fail
  rw [← HW.out, ← HG.out]
  refine HC.out.mono ?_
  rintro e w2 ⟨rfl, F2, h2, n2⟩
  have K2 := hide (KA.out.trans (n2.below KA.out.size HF.out))
  have U2 := hide (n2.up KA.out.size HF.out)
  have H2 := hide h2
  clear h2 n2
  go_wp2_with fail
  refine (send_tale F2 g _ 2 _ H2.out).mono ?_
  rintro e w3 ⟨rfl, F3, h3, n3⟩
  have K3 := hide (K2.out.trans (n3.below K2.out.size U2.out))
  have U3 := hide (n3.up K2.out.size U2.out)
  have H3 := hide h3
  clear h3 n3
  go_wp2_with fail
  refine (take5_any F3 g _ 0 _ H3.out).mono ?_
  rintro e w4 ⟨r, rfl, F4, fr, h4, n4⟩
  have K4 := hide (K3.out.trans (n4.below K3.out.size U3.out))
  have e1 : getM 0 (sendL (tale 2) (sendL (tale 1) [])) = tale 1 := rfl
  rw [e1] at fr
  obtain ⟨A, c, D, cp, rfl, -⟩ := fr
  have e2 : (decide (0 ≤ (0 : Int) ∧ (0 : Int) < ((sendL (tale 2) (sendL (tale 1) [])).length : Int))) = true := rfl
  rw [e2]
  have hl := len5_at F4 g _ _ (h4.below (below_alloc w4 (.cells #[.int .i64 0, .int .i64 0, .int .i64 1, .slice A 0 c, .slice D 0 cp] 45)))
  rw [show cutM 0 (sendL (tale 2) (sendL (tale 1) [])) = [tale 2] from rfl] at hl
  have HL := hide hl
  clear h4 n4 e1 e2 hl
  unfold tale
  go_wp2_with fail
  refine HL.out.mono ?_
  rintro e w5 ⟨rfl, rfl⟩
  go_wp2_with fail
  go_ret
  exact ⟨rfl, K4.out.trans ((below_alloc w4 _).mono K4.out.size)⟩
theorem netOfNothing_walk (a0 : Int) (_w0 : (Lit.int .i64 a0).wf = true) (w : World) :
    Calls Try.prog 6 #[.int .i64 a0] w fun e w' => e = .returned (.bool true) ∧ Below w.heap.size w w' := by
  have HA := hide (at_nil5 a0 w)
  unfold zeroMsg at HA
  go_enter Try.func6, Try.ntmps6
  go_wp2_with fail
  refine HA.out.mono ?_
  rintro e w1 ⟨rfl, k1⟩
  have K1 := hide (k1.trans ((below_alloc w1 (.cells zeroArr 45)).mono k1.size))
  have HT := hide (take_nil5 a0 (w1.alloc (.cells zeroArr 45)))
  unfold zeroMsg at HT
  clear k1
  go_wp2_with fail
  refine HT.out.mono ?_
  rintro e w2 ⟨rfl, k2⟩
  have k2' := K1.out.trans (k2.mono K1.out.size)
  have K2 := hide (k2'.trans ((below_alloc w2 (.cells zeroArr 45)).mono k2'.size))
  clear k2 k2'
  go_wp2_with fail
  refine (send_nil5 _ _ _ _ _ _).mono ?_
  rintro e w3 ⟨rfl, k3⟩
  have K3 := hide (K2.out.trans (k3.mono K2.out.size))
  clear k3
  go_wp2_with fail
  refine (len_nil5 _).mono ?_
  rintro e w4 ⟨rfl, rfl⟩
  go_wp2_with fail
  refine (twice_nil5 _ _).mono ?_
  rintro e w4 ⟨rfl, rfl⟩
  go_wp2_with fail
  refine (drop_nil5 _ _).mono ?_
  rintro e w5 ⟨rfl, k5⟩
  have K5 := hide (K3.out.trans (k5.mono K3.out.size))
  clear k5
  go_wp2_with fail
  refine (known_any _).mono ?_
  rintro e w6 ⟨rfl, k6⟩
  go_wp2_with fail
  go_ret
  exact ⟨rfl, K5.out.trans (k6.mono K5.out.size)⟩
end Go.Proofs.Ytdhamhaadclhkaa
