/- The contract of volume's own Dirt, of a volume of one place. -/
import Derived.Test.YtehgjkckhjggbaaVr27
import Derived.Test.YtehgjkckhjggbaaVr31
namespace Go.Proofs.Ytehgjkckhjggbaa
open Go.RowKit Go.Maps Go.WideMaps
/-- How many bytes of size nobody needs where one needle lies. -/
def dirt1 (size : Nat) (q : Pl) : Nat := (min q.at_ size - 8) + (size - max 8 (q.at_ + q.n))
theorem dirt_nil (w : World) : Calls Try.prog 23 #[.pointer none] w fun e w' => e = .returned (.int .i64 0) ∧ w' = w := by
  go_enter Try.func23, Try.ntmps23
  go_wp2_with fail
  go_ret
  exact ⟨rfl, rfl⟩
theorem w64_in (n : Int) (h : -9223372036854775808 ≤ n ∧ n ≤ 9223372036854775807) : wrap64 n = n := by
  unfold wrap64
  omega
theorem one_blk {w : World} {B g cap : Nat} {q : Pl} (h : OwnPl w B (.slice (some ⟨g, 0, none⟩) 1 cap) [q]) : B ≤ g ∧ ∃ r, Blk w 0 83 g (plC q ++ r) := by
  obtain ⟨_, h2 | ⟨g', cap', cur, e, h3, h4, h5, h6, h7, h8⟩⟩ := h
  · cases h2.2
  · cases e
    refine ⟨h3, cur.toList.drop 5, Nat.zero_le _, cur, h4, ?_⟩
    have h9 : cur.toList.take 5 = plC q := by simpa using h8
    rw [← h9, List.take_append_drop]
theorem szV_fit {w : World} {F : Nat → Prop} {d room : Nat} {L : DiskL} (h : DiskAt w F d room L) (k : Str) : szV k L ≤ 1073741824 := by
  unfold szV
  rcases e : getK k L with _ | a
  · simp
  · exact h.sane.len e
set_option maxRecDepth 100000 in
set_option maxHeartbeats 3200000 in
theorem dirt_one {w : World} {F : Nat → Prop} {v d b room : Nat} {s : ByteArray} {q : Pl} {L : DiskL} (h : VolD w F v d b room s [q] L) (hs : s.size ≤ 1099511627776) :
    Calls Try.prog 23 #[.pointer (some ⟨v, 0, none⟩)] w fun e w' => e = .returned (.int .i64 (dirt1 (szV s.data.toList L) q : Nat)) ∧ Below w.heap.size w w' := by
  have hz := vsize_any h hs
  have HV := hide h
  have HS := hide hs
  clear h hs
  go_enter Try.func23, Try.ntmps23
  go_wp2_with fail
  refine hz.mono ?_
  rintro e w1 ⟨rfl, k1⟩
  have V1 := hide (HV.out.below k1)
  have K1 := hide k1
  have c2 : w1.cell? ⟨v, 2, none⟩ = some (.map (some b)) := V1.out.vol.blk.cell 2
  clear hz HV k1
  go_wp2_with fail
  refine (values_any b w1).mono ?_
  rintro e w2 ⟨rfl, m2, k2⟩
  have V2 := hide (V1.out.below k2)
  have K2 := hide (K1.out.trans (k2.mono K1.out.size))
  have h3 := sortedfunc_one (.func (.func 58) #[] #[]) m2 V2.out.vol.map
  clear k2 m2 c2
  go_wp2_with fail
  refine h3.mono ?_
  rintro e w3 ⟨v3, rfl, o3, k3⟩
  obtain ⟨g, cap, rfl, hg⟩ := one_form o3
  obtain ⟨-, r3, b3⟩ := one_blk o3
  have K3 := hide (K2.out.trans (k3.mono K2.out.size))
  have B3 := hide b3
  have hq := V2.out.vol.fit q (by simp)
  have hS := szV_fit V2.out.disk s.data.toList
  obtain ⟨S, hSS⟩ : ∃ S, S = szV s.data.toList L := ⟨_, rfl⟩
  rw [← hSS] at hS ⊢
  obtain ⟨qk, qa, qn, qc, qd⟩ := q
  obtain ⟨f1, f2, f3, f4, f5⟩ := hq
  dsimp only at f1 f2 f3 f4 f5
  unfold plC at b3
  dsimp only [List.cons_append, List.nil_append] at b3
  have x0 := b3.cell 0
  have x1 := b3.cell 1
  have x2 := b3.cell 2
  have x3 := b3.cell 3
  have x4 := b3.cell 4
  dsimp only [List.getElem?_cons_succ, List.getElem?_cons_zero] at x0 x1 x2 x3 x4
  have FQ := hide (And.intro f3 (And.intro f4 (And.intro f5 hS)))
  have HSS := hide hSS
  clear h3 k3 o3 b3 hSS hg V1 V2 K1 K2 f1 f2 f3 f4 f5 hS
  go_wp2_with fail
  go_loopw [4, 5, 19] (fun dd en i wr => ∃ k : Nat, k ≤ 1 ∧ i = .int .i64 (k : Int) ∧ dd = .int .i64 ((if k = 0 then 0 else min qa S - 8 : Nat) : Int) ∧ en = .int .i64 ((if k = 0 then 8 else max 8 (qa + qn) : Nat) : Int) ∧ Hid (Below w3.heap.size w3 wr)) (fun _ _ i _ => 1 - (intOf i).toNat)
  case atStart => exact ⟨0, by omega, rfl, rfl, rfl, hide (Below.refl _ _)⟩
  case round =>
    obtain ⟨k, hk, rfl, rfl, rfl, hb⟩ := hrel
    rcases (by omega : k = 0 ∨ k = 1) with rfl | rfl
    · have y0 := (hb.out.cell (cell_lt x0)).trans x0
      have y1 := (hb.out.cell (cell_lt x1)).trans x1
      have y2 := (hb.out.cell (cell_lt x2)).trans x2
      have y3 := (hb.out.cell (cell_lt x3)).trans x3
      have y4 := (hb.out.cell (cell_lt x4)).trans x4
      clear x0 x1 x2 x3 x4
      go_wp2_with fail
      obtain ⟨e3, e4, e5, e6⟩ := FQ.out
      refine ⟨⟨1, by omega, rfl, ?_, ?_, hide (hb.out.trans ((below_alloc wr _).mono hb.out.size))⟩, by simp [intOf]⟩
      · have h9 : wrap64 (max (wrap64 (min (qa : Int) (S : Int) - 8)) 0) = ((min qa S - 8 : Nat) : Int) := by
          rw [w64_in (min (qa : Int) (S : Int) - 8) (by omega), w64_in _ (by omega)]
          omega
        rw [h9]
        rfl
      · have h9 : max 8 (wrap64 ((qa : Int) + (qn : Int))) = ((max 8 (qa + qn) : Nat) : Int) := by
          rw [w64_in _ (by omega)]
          omega
        rw [h9]
        rfl
    · clear x0 x1 x2 x3 x4
      go_wp2_with fail
      obtain ⟨e3, e4, e5, e6⟩ := FQ.out
      have h9 : wrap64 (((min qa S - 8 : Nat) : Int) + max (wrap64 ((S : Int) - ((max 8 (qa + qn) : Nat) : Int))) 0) = (dirt1 S ⟨qk, qa, qn, qc, qd⟩ : Int) := by
        unfold dirt1
        dsimp only
        rw [w64_in ((S : Int) - ((max 8 (qa + qn) : Nat) : Int)) (by omega), w64_in _ (by omega)]
        omega
      rw [h9, HSS.out]
      go_ret
      exact ⟨rfl, K3.out.trans (hb.out.mono K3.out.size)⟩
end Go.Proofs.Ytehgjkckhjggbaa
