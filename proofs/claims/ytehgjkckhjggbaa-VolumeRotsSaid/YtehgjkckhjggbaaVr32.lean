/- The contracts of volume's own made and of Create (without a disk; where the file is not there and there is room). No condition but the widths. -/
import Derived.Test.YtehgjkckhjggbaaVr31
import Derived.Test.YtehgjkckhjggbaaVr30
import Derived.Test.YtehgjkckhjggbaaVr25
import Derived.Test.YtehgjkckhjggbaaVr17
namespace Go.Proofs.Ytehgjkckhjggbaa
open Go.RowKit Go.Maps
set_option maxRecDepth 100000 in
set_option maxHeartbeats 1600000 in
theorem made_any (d : Nat) (s : ByteArray) (w : World) :
    Calls Try.prog 41 #[.pointer (some ⟨d, 0, none⟩), .string s] w fun e w' => ∃ v b, e = .returned (.pointer (some ⟨v, 0, none⟩)) ∧ VolAt w' v d b s [] ∧ w.heap.size ≤ v ∧ w.heap.size ≤ b ∧ Below w.heap.size w w' := by
  have qm := @run_makeMap Try.prog
  go_enter Try.func41, Try.ntmps41
  go_wp2_with fail
  have k1 := below_alloc w (.map #[] 0)
  obtain ⟨Z, hZ⟩ : ∃ Z, Z = w.alloc (.map #[] 0) := ⟨_, rfl⟩
  have m1 := World.ownsMap_made w Try.prog 31 tok
  have s1 : Z.heap.size = w.heap.size + 1 := by rw [hZ]; simp
  rw [← hZ] at k1 m1 ⊢
  have k2 := below_alloc Z (.cells #[.pointer (some ⟨d, 0, none⟩), .string s, .map (some w.heap.size)] 87)
  have b2 := Blk.new Z (B := 0) 87 #[.pointer (some ⟨d, 0, none⟩), .string s, .map (some w.heap.size)] (Nat.zero_le _)
  rw [s1] at b2
  obtain ⟨Z2, hZ2⟩ : ∃ Z2, Z2 = Z.alloc (.cells #[.pointer (some ⟨d, 0, none⟩), .string s, .map (some w.heap.size)] 87) := ⟨_, rfl⟩
  rw [← hZ2] at k2 b2 ⊢
  have m2 := ownsMap_turn (S := fun _ => False) m1 (Turn.of_below _ k2) id
  clear hZ hZ2 m1
  go_ret
  exact ⟨_, _, rfl, ⟨b2, m2, List.Pairwise.nil, (fun p hp => by cases hp), by decide⟩, by omega, Nat.le_refl _, k1.trans (k2.mono k1.size)⟩
set_option maxRecDepth 100000 in
theorem create_nil (z : Int) (w : World) : Calls Try.prog 11 #[.pointer none, .int .i64 z] w fun e w' => e = .returned (.tuple #[.pointer none, .int .i64 1]) ∧ Below w.heap.size w w' := by
  by_cases hz : z < 0 ∨ 99999999 < z
  · go_enter Try.func11, Try.ntmps11
    go_wp2_with fail
    refine (vname_bad z w hz).mono ?_
    rintro e w1 ⟨rfl, rfl⟩
    go_wp2_with fail
    refine bodyPost_ret (v := .tuple #[.pointer none, .int .i64 1]) (by simp [results, Try.results11, go_sem]) rfl ⟨rfl, Below.refl _ _⟩
  · obtain ⟨n, rfl⟩ : ∃ n : Nat, z = (n : Int) := ⟨z.toNat, by omega⟩
    have hn : n ≤ 99999999 := by omega
    clear hz
    go_enter Try.func11, Try.ntmps11
    go_wp2_with fail
    refine (vname_any n w hn).mono ?_
    rintro e w1 ⟨rfl, k⟩
    go_wp2_with fail
    refine bodyPost_ret (v := .tuple #[.pointer none, .int .i64 1]) (by simp [results, Try.results11, go_sem]) rfl ⟨rfl, k⟩
set_option maxRecDepth 100000 in
set_option maxHeartbeats 3200000 in
theorem create_ok (F : Nat → Prop) (d room : Nat) (L : DiskL) (id : Nat) (w : World) (hD : DiskAt w F d room L) (hid : id ≤ 99999999) (hg : getK (nameV id).data.toList L = none) (h0 : (layL room (nameV id).data.toList (headV id) L).2 = 0) :
    Calls Try.prog 11 #[.pointer (some ⟨d, 0, none⟩), .int .i64 (id : Int)] w fun e w' => ∃ v b F', e = .returned (.tuple #[.pointer (some ⟨v, 0, none⟩), .int .i64 0]) ∧ VolD w' F' v d b room (nameV id) [] (layL room (nameV id).data.toList (headV id) L).1 ∧ Next F w F' w' ∧ w.heap.size ≤ v ∧ w.heap.size ≤ b := by
  have HD := hide hD
  obtain ⟨L1, hL1⟩ : ∃ L1, L1 = (layL room (nameV id).data.toList (headV id) L).1 := ⟨_, rfl⟩
  rw [← hL1]
  have hsz := nameV_size id
  have HV := hide (vname_any id w hid)
  obtain ⟨s, hs⟩ : ∃ s, s = nameV id := ⟨_, rfl⟩
  rw [← hs] at hg h0 hL1 hsz HV ⊢
  have HL := hide (And.intro h0 hL1)
  have HG := hide hg
  have hsl : s.toList.isEmpty = false := by
    rw [ByteArray.toList_eq]
    have h9 : s.data.toList.length = 13 := hsz
    rcases hq : s.data.toList with _ | ⟨a, r⟩
    · rw [hq] at h9; cases h9
    · rfl
  have HS : Hid (s.size ≤ 1099511627776) := hide (by omega)
  have HID := hide hid
  clear hD hid hg h0 hL1 hs hsz
  go_enter Try.func11, Try.ntmps11
  go_wp2_with fail
  refine HV.out.mono ?_
  rintro e w1 ⟨rfl, k1⟩
  have D1 := hide (HD.out.below k1)
  have K1 := hide k1
  clear k1 HD HV
  go_wp2_with fail
  refine (dsize_any F d room L s w1 D1.out HS.out).mono ?_
  rintro e w2 ⟨rfl, k2⟩
  rw [HG.out]
  have D2 := hide (D1.out.below k2)
  have K2 := hide (K1.out.trans (k2.mono K1.out.size))
  clear k2 D1 K1
  simp only [szV, HG.out, Option.map_none, Option.getD_none, Option.isSome_none]
  go_wp2_with fail
  refine (vhead_any id w2 HID.out).mono ?_
  rintro e w3 ⟨rfl, k3⟩
  have D3 := hide (D2.out.below k3)
  have K3 := hide (K2.out.trans (k3.mono K2.out.size))
  clear k3 D2 K2
  obtain ⟨x4, hx4⟩ : ∃ x, x = id / 16777216 % 256 := ⟨_, rfl⟩
  obtain ⟨x5, hx5⟩ : ∃ x, x = id / 65536 % 256 := ⟨_, rfl⟩
  obtain ⟨x6, hx6⟩ : ∃ x, x = id / 256 % 256 := ⟨_, rfl⟩
  obtain ⟨x7, hx7⟩ : ∃ x, x = id % 256 := ⟨_, rfl⟩
  have hh : headV id = [103, 118, 1, 0, x4, x5, x6, x7] := by rw [hx4, hx5, hx6, hx7]; rfl
  have hb8 := headV_byte id
  rw [hh] at hb8
  rw [hh] at HL ⊢
  have HB8 := hide hb8
  clear hh hb8 hx4 hx5 hx6 hx7
  rw [show (u8s [103, 118, 1, 0, x4, x5, x6, x7]).toArray = #[.int .u8 103, .int .u8 118, .int .u8 1, .int .u8 0, .int .u8 (x4 : Int), .int .u8 (x5 : Int), .int .u8 (x6 : Int), .int .u8 (x7 : Int)] from rfl]
  go_wp2_with fail
  have ka := below_alloc w3 (.cells #[.int .u8 103, .int .u8 118, .int .u8 1, .int .u8 0, .int .u8 (x4 : Int), .int .u8 (x5 : Int), .int .u8 (x6 : Int), .int .u8 (x7 : Int)] 76)
  have hw : (w3.alloc (.cells #[.int .u8 103, .int .u8 118, .int .u8 1, .int .u8 0, .int .u8 (x4 : Int), .int .u8 (x5 : Int), .int .u8 (x6 : Int), .int .u8 (x7 : Int)] 76)).heap[w3.heap.size]? = some (.cells (u8s [103, 118, 1, 0, x4, x5, x6, x7]).toArray 76 (0, 0)) := heap_alloc_new w3 _
  refine (vlay_any F d room L s _ 8 8 [103, 118, 1, 0, x4, x5, x6, x7] _ (D3.out.below ka) HS.out (by have h9 := isB_in hw 0 8 8 (by simp) (by omega) (by decide); simpa using h9) rfl HB8.out (by decide)).mono ?_
  rintro e w4 ⟨rfl, F4, d4, n4⟩
  rw [HL.out.1]
  rw [← HL.out.2] at d4
  have D4 := hide d4
  have N4 := hide ((Next.of_below F (K3.out.trans (ka.mono K3.out.size))).trans n4)
  clear d4 n4 hw ka D3 K3
  go_wp2_with fail
  refine (made_any d s w4).mono ?_
  rintro e w5 ⟨v, b, rfl, hv, l1, l2, k5⟩
  have HE : Hid (VolD w5 F4 v d b room s [] L1) := hide ⟨D4.out.below k5, hv, fun hk => by have := D4.out.low v hk; omega, fun hk => by have := D4.out.low b hk; omega⟩
  have NE := hide (N4.out.trans (Next.of_below F4 k5))
  have hl1 : w.heap.size ≤ v := Nat.le_trans N4.out.turn.size l1
  have hl2 : w.heap.size ≤ b := Nat.le_trans N4.out.turn.size l2
  clear hv k5 l1 l2
  go_wp2_with fail
  refine bodyPost_ret (v := .tuple #[.pointer (some ⟨v, 0, none⟩), .int .i64 0]) (by simp [results, Try.results11, go_sem]) rfl ⟨v, b, F4, rfl, HE.out, NE.out, hl1, hl2⟩
end Go.Proofs.Ytehgjkckhjggbaa
