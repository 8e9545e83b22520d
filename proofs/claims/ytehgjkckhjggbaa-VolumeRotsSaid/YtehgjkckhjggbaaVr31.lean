/- The contracts of volume's own Size and bytes. No condition but the widths. -/
import Derived.Test.YtehgjkckhjggbaaVr13
import Derived.Test.YtehgjkckhjggbaaVr30
import Derived.Test.YtehgjkckhjggbaaVr24
import Derived.Test.YtehgjkckhjggbaaVr5
namespace Go.Proofs.Ytehgjkckhjggbaa
open Go.RowKit Go.Maps
/-- How many bytes a file has; one that is not there has none. -/
def szV (k : Str) (L : DiskL) : Nat := ((getK k L).map fun a : List Nat × Nat => a.1.length).getD 0
theorem dsize_any (F : Nat → Prop) (d room : Nat) (L : DiskL) (s : ByteArray) (w : World) (hD : DiskAt w F d room L) (hs : s.size ≤ 1099511627776) :
    Calls Try.prog 37 #[.pointer (some ⟨d, 0, none⟩), .string s] w fun e w' => e = .returned (.tuple #[.int .i64 (szV s.data.toList L : Int), .bool (getK s.data.toList L).isSome]) ∧ Below w.heap.size w w' := by
  unfold szV
  rcases e : getK s.data.toList L with _ | ⟨xs, l⟩
  · exact size_none F d room L s w hD hs e
  · exact size_some F d room L s xs l w hD hs e
/-- A volume and its disk, apart. -/
structure VolD (w : World) (F : Nat → Prop) (v d b room : Nat) (s : ByteArray) (T : PlL) (L : DiskL) : Prop where
  disk : DiskAt w F d room L
  vol : VolAt w v d b s T
  av : ¬ F v
  ab : ¬ F b
theorem VolD.below {w w' : World} {F : Nat → Prop} {v d b room : Nat} {s : ByteArray} {T : PlL} {L : DiskL} (h : VolD w F v d b room s T L) (k : Below w.heap.size w w') : VolD w' F v d b room s T L := ⟨h.disk.below k, h.vol.below k, h.av, h.ab⟩
/-- Behind a call on the disk alone. -/
theorem VolD.disked {w w' : World} {F F' : Nat → Prop} {v d b room : Nat} {s : ByteArray} {T : PlL} {L L' : DiskL} (h : VolD w F v d b room s T L) (hD : DiskAt w' F' d room L') (n : Next F w F' w') : VolD w' F' v d b room s T L' :=
  ⟨hD, h.vol.turn n.turn h.av h.ab, fun hk => (n.foot v hk).elim h.av (fun e => by have := h.vol.low; omega), fun hk => (n.foot b hk).elim h.ab (fun e => by have := h.vol.low; omega)⟩
/-- Behind a store into the map alone. -/
theorem VolD.stored {w w' : World} {F : Nat → Prop} {v d b room : Nat} {s : ByteArray} {T T' : PlL} {L : DiskL} (h : VolD w F v d b room s T L) (hv : VolAt w' v d b s T') (t : Turn (fun k => k = b) w w') : VolD w' F v d b room s T' L :=
  ⟨h.disk.turn t (fun k hk e => h.ab (by rw [← e]; exact hk)), hv, h.av, h.ab⟩
set_option maxRecDepth 100000 in
theorem vsize_nil (w : World) : Calls Try.prog 18 #[.pointer none] w fun e w' => e = .returned (.int .i64 0) ∧ w = w' := by
  go_enter Try.func18, Try.ntmps18
  go_wp2_with fail
  go_ret
  exact ⟨rfl, rfl⟩
set_option maxRecDepth 100000 in
set_option maxHeartbeats 1600000 in
theorem vsize_any {w : World} {F : Nat → Prop} {v d b room : Nat} {s : ByteArray} {T : PlL} {L : DiskL} (h : VolD w F v d b room s T L) (hs : s.size ≤ 1099511627776) :
    Calls Try.prog 18 #[.pointer (some ⟨v, 0, none⟩)] w fun e w' => e = .returned (.int .i64 (szV s.data.toList L : Int)) ∧ Below w.heap.size w w' := by
  have c0 : w.cell? ⟨v, 0, none⟩ = some (.pointer (some ⟨d, 0, none⟩)) := h.vol.blk.cell 0
  have c1 : w.cell? ⟨v, 1, none⟩ = some (.string s) := h.vol.blk.cell 1
  have hv := h.vol.low.1
  have HD := hide h.disk
  have HS := hide hs
  clear h hs
  obtain ⟨n, hn⟩ : ∃ n, n = szV s.data.toList L := ⟨_, rfl⟩
  rw [← hn]
  have HN := hide hn
  clear hn
  go_enter Try.func18, Try.ntmps18
  go_wp2_with fail
  refine heldT_top (fun W' => W'.cell? ⟨v, 0, none⟩ = some (.pointer (some ⟨d, 0, none⟩)) ∧ W'.cell? ⟨v, 1, none⟩ = some (.string s)) 14 #[false, false, false, false, false, false, false, false, false, false, false, false, false, false] (by kernel_rfl) (by kernel_rfl) (by kernel_rfl) ?_
  have hHeld : (fun W' => W'.cell? ⟨v, 0, none⟩ = some (.pointer (some ⟨d, 0, none⟩)) ∧ W'.cell? ⟨v, 1, none⟩ = some (.string s)) (w.drewN 1) := ⟨c0, c1⟩
  have HD := hide (HD.out.below (below_drewN (Below.refl _ _) 1))
  have KU : Hid (Below w.heap.size w (w.drewN 1)) := hide (below_drewN (Below.refl _ _) 1)
  change wpAnyH _ _ _ _ _ _ _ _ (w.drewN 1)
  generalize w.drewN 1 = U at *
  refine' wpAnyH_take (i := 0) (oi := ⟨_, _, _, _, _, _⟩) (v := _) rfl (by kernel_rfl) (by kernel_rfl) (by kernel_rfl) (fun _ _ _ h => h) (Or.inl ⟨rfl, ?_⟩) hHeld ?_
  rotate_left
  · (intro W' hW; (try dsimp only at hW); obtain ⟨z0, z1⟩ := hW; go_simp; (try with_reducible rfl))
  try simp only [Act.put, List.setIfInBounds_toArray, List.set_cons_zero, List.set_cons_succ]
  refine' wpAnyH_take (i := 1) (oi := ⟨_, _, _, _, _, _⟩) (v := _) rfl (by kernel_rfl) (by kernel_rfl) (by kernel_rfl) (fun _ _ _ h => h) (Or.inl ⟨rfl, ?_⟩) hHeld ?_
  rotate_left
  · (intro W' hW; (try dsimp only at hW); obtain ⟨z0, z1⟩ := hW; go_simp; (try with_reducible rfl))
  try simp only [Act.put, List.setIfInBounds_toArray, List.set_cons_zero, List.set_cons_succ]
  refine' wpAnyH_take (i := 2) (oi := ⟨_, _, _, _, _, _⟩) (v := _) rfl (by kernel_rfl) (by kernel_rfl) (by kernel_rfl) (fun _ _ _ h => h) (Or.inl ⟨rfl, ?_⟩) hHeld ?_
  rotate_left
  · (intro W' hW; (try dsimp only at hW); obtain ⟨z0, z1⟩ := hW; go_simp; (try with_reducible rfl))
  try simp only [Act.put, List.setIfInBounds_toArray, List.set_cons_zero, List.set_cons_succ]
  refine' wpAnyH_take (i := 3) (oi := ⟨_, _, _, _, _, _⟩) (v := _) rfl (by kernel_rfl) (by kernel_rfl) (by kernel_rfl) (fun _ _ _ h => h) (Or.inl ⟨rfl, ?_⟩) hHeld ?_
  rotate_left
  · (intro W' hW; (try dsimp only at hW); obtain ⟨z0, z1⟩ := hW; go_simp; (try with_reducible rfl))
  try simp only [Act.put, List.setIfInBounds_toArray, List.set_cons_zero, List.set_cons_succ]
  refine' wpAnyH_take (i := 4) (oi := ⟨_, _, _, _, _, _⟩) (v := _) rfl (by kernel_rfl) (by kernel_rfl) (by kernel_rfl) (fun _ _ _ h => h) (Or.inl ⟨rfl, ?_⟩) hHeld ?_
  rotate_left
  · (intro W' hW; (try dsimp only at hW); obtain ⟨z0, z1⟩ := hW; go_simp; (try with_reducible rfl))
  try simp only [Act.put, List.setIfInBounds_toArray, List.set_cons_zero, List.set_cons_succ]
  refine' wpAnyH_take (i := 5) (oi := ⟨_, _, _, _, _, _⟩) (v := _) rfl (by kernel_rfl) (by kernel_rfl) (by kernel_rfl) (fun _ _ _ h => h) (Or.inl ⟨rfl, ?_⟩) hHeld ?_
  rotate_left
  · (intro W' hW; (try dsimp only at hW); obtain ⟨z0, z1⟩ := hW; go_simp; (try with_reducible rfl))
  try simp only [Act.put, List.setIfInBounds_toArray, List.set_cons_zero, List.set_cons_succ]
  refine' wpAnyH_take (i := 6) (oi := ⟨_, _, _, _, _, _⟩) (v := _) rfl (by kernel_rfl) (by kernel_rfl) (by kernel_rfl) (fun _ _ _ h => h) (Or.inl ⟨rfl, ?_⟩) hHeld ?_
  rotate_left
  · (intro W' hW; (try dsimp only at hW); obtain ⟨z0, z1⟩ := hW; go_simp; (try with_reducible rfl))
  try simp only [Act.put, List.setIfInBounds_toArray, List.set_cons_zero, List.set_cons_succ]
  refine' wpAnyH_take (i := 7) (oi := ⟨_, _, _, _, _, _⟩) (v := _) rfl (by kernel_rfl) (by kernel_rfl) (by kernel_rfl) (fun _ _ _ h => h) (Or.inl ⟨rfl, ?_⟩) hHeld ?_
  rotate_left
  · (intro W' hW; (try dsimp only at hW); obtain ⟨z0, z1⟩ := hW; go_simp; (try with_reducible rfl))
  try simp only [Act.put, List.setIfInBounds_toArray, List.set_cons_zero, List.set_cons_succ]
  clear hHeld
  refine heldT_one (i := 8) (by kernel_rfl) rfl (fun K' hK => ?_)
  go_simp
  go_at_call 37
  refine (dsize_any F d room L s U HD.out HS.out).mono ?_
  rintro e u ⟨rfl, k⟩
  rw [← HN.out]
  obtain ⟨is, his⟩ : ∃ i, i = (getK s.data.toList L).isSome := ⟨_, rfl⟩
  rw [← his]
  have K2 := hide (KU.out.trans (k.mono KU.out.size))
  clear k his
  have hHeld : (fun W' => W'.cell? ⟨v, 0, none⟩ = some (.pointer (some ⟨d, 0, none⟩)) ∧ W'.cell? ⟨v, 1, none⟩ = some (.string s)) u := ⟨(K2.out.cell (p := ⟨v, 0, none⟩) hv).trans c0, (K2.out.cell (p := ⟨v, 1, none⟩) hv).trans c1⟩
  refine hK.out _ _ hHeld ?_
  clear hK
  try simp only [List.setIfInBounds_toArray, List.set_cons_zero, List.set_cons_succ]
  refine' wpAnyH_take (i := 9) (oi := ⟨_, _, _, _, _, _⟩) (v := _) rfl (by kernel_rfl) (by kernel_rfl) (by kernel_rfl) (fun _ _ _ h => h) (Or.inl ⟨rfl, ?_⟩) hHeld ?_
  rotate_left
  · (intro W' hW; (try dsimp only at hW); obtain ⟨z0, z1⟩ := hW; go_simp; (try with_reducible rfl))
  try simp only [Act.put, List.setIfInBounds_toArray, List.set_cons_zero, List.set_cons_succ]
  refine' wpAnyH_take (i := 10) (oi := ⟨_, _, _, _, _, _⟩) (v := _) rfl (by kernel_rfl) (by kernel_rfl) (by kernel_rfl) (fun _ _ _ h => h) (Or.inl ⟨rfl, ?_⟩) hHeld ?_
  rotate_left
  · (intro W' hW; (try dsimp only at hW); obtain ⟨z0, z1⟩ := hW; go_simp; (try with_reducible rfl))
  try simp only [Act.put, List.setIfInBounds_toArray, List.set_cons_zero, List.set_cons_succ]
  refine' wpAnyH_take (i := 11) (oi := ⟨_, _, _, _, _, _⟩) (v := _) rfl (by kernel_rfl) (by kernel_rfl) (by kernel_rfl) (fun _ _ _ h => h) (Or.inl ⟨rfl, ?_⟩) hHeld ?_
  rotate_left
  · (intro W' hW; (try dsimp only at hW); obtain ⟨z0, z1⟩ := hW; go_simp; (try with_reducible rfl))
  try simp only [Act.put, List.setIfInBounds_toArray, List.set_cons_zero, List.set_cons_succ]
  refine' wpAnyH_take (i := 12) (oi := ⟨_, _, _, _, _, _⟩) (v := _) rfl (by kernel_rfl) (by kernel_rfl) (by kernel_rfl) (fun _ _ _ h => h) (Or.inl ⟨rfl, ?_⟩) hHeld ?_
  rotate_left
  · (intro W' hW; (try dsimp only at hW); obtain ⟨z0, z1⟩ := hW; go_simp; (try with_reducible rfl))
  try simp only [Act.put, List.setIfInBounds_toArray, List.set_cons_zero, List.set_cons_succ]
  refine' wpAnyH_take (i := 13) (oi := ⟨_, _, _, _, _, _⟩) (v := _) rfl (by kernel_rfl) (by kernel_rfl) (by kernel_rfl) (fun _ _ _ h => h) (Or.inl ⟨rfl, ?_⟩) hHeld ?_
  rotate_left
  · (intro W' hW; (try dsimp only at hW); obtain ⟨z0, z1⟩ := hW; go_simp; (try with_reducible rfl))
  try simp only [Act.put, List.setIfInBounds_toArray, List.set_cons_zero, List.set_cons_succ]
  refine wpAnyH_done (by kernel_rfl) ?_ _
  clear hHeld
  go_wp2_with fail
  go_ret
  exact ⟨rfl, K2.out⟩
set_option maxRecDepth 100000 in
set_option maxHeartbeats 1600000 in
theorem vbytes_any {w : World} {F : Nat → Prop} {v d b room : Nat} {s : ByteArray} {T : PlL} {L : DiskL} (h : VolD w F v d b room s T L) (hs : s.size ≤ 1099511627776) :
    Calls Try.prog 52 #[.pointer (some ⟨v, 0, none⟩)] w fun e w' => ∃ u, e = .returned u ∧ Own w' w.heap.size u (readL s.data.toList L).1 ∧ Below w.heap.size w w' := by
  have c0 : w.cell? ⟨v, 0, none⟩ = some (.pointer (some ⟨d, 0, none⟩)) := h.vol.blk.cell 0
  have c1 : w.cell? ⟨v, 1, none⟩ = some (.string s) := h.vol.blk.cell 1
  have hv := h.vol.low.1
  have HD := hide h.disk
  have HS := hide hs
  clear h hs
  go_enter Try.func52, Try.ntmps52
  go_wp2_with fail
  refine heldT_top (fun W' => W'.cell? ⟨v, 0, none⟩ = some (.pointer (some ⟨d, 0, none⟩)) ∧ W'.cell? ⟨v, 1, none⟩ = some (.string s)) 14 #[false, false, false, false, false, false, false, false, false, false, false, false, false, false] (by kernel_rfl) (by kernel_rfl) (by kernel_rfl) ?_
  have hHeld : (fun W' => W'.cell? ⟨v, 0, none⟩ = some (.pointer (some ⟨d, 0, none⟩)) ∧ W'.cell? ⟨v, 1, none⟩ = some (.string s)) (w.drewN 1) := ⟨c0, c1⟩
  have HD := hide (HD.out.below (below_drewN (Below.refl _ _) 1))
  have KU : Hid (Below w.heap.size w (w.drewN 1)) := hide (below_drewN (Below.refl _ _) 1)
  change wpAnyH _ _ _ _ _ _ _ _ (w.drewN 1)
  generalize w.drewN 1 = U at *
  refine' wpAnyH_take (i := 0) (oi := ⟨_, _, _, _, _, _⟩) (v := _) rfl (by kernel_rfl) (by kernel_rfl) (by kernel_rfl) (fun _ _ _ h => h) (Or.inl ⟨rfl, ?_⟩) hHeld ?_
  rotate_left
  · (intro W' hW; (try dsimp only at hW); obtain ⟨z0, z1⟩ := hW; go_simp; (try with_reducible rfl))
  try simp only [Act.put, List.setIfInBounds_toArray, List.set_cons_zero, List.set_cons_succ]
  refine' wpAnyH_take (i := 1) (oi := ⟨_, _, _, _, _, _⟩) (v := _) rfl (by kernel_rfl) (by kernel_rfl) (by kernel_rfl) (fun _ _ _ h => h) (Or.inl ⟨rfl, ?_⟩) hHeld ?_
  rotate_left
  · (intro W' hW; (try dsimp only at hW); obtain ⟨z0, z1⟩ := hW; go_simp; (try with_reducible rfl))
  try simp only [Act.put, List.setIfInBounds_toArray, List.set_cons_zero, List.set_cons_succ]
  refine' wpAnyH_take (i := 2) (oi := ⟨_, _, _, _, _, _⟩) (v := _) rfl (by kernel_rfl) (by kernel_rfl) (by kernel_rfl) (fun _ _ _ h => h) (Or.inl ⟨rfl, ?_⟩) hHeld ?_
  rotate_left
  · (intro W' hW; (try dsimp only at hW); obtain ⟨z0, z1⟩ := hW; go_simp; (try with_reducible rfl))
  try simp only [Act.put, List.setIfInBounds_toArray, List.set_cons_zero, List.set_cons_succ]
  refine' wpAnyH_take (i := 3) (oi := ⟨_, _, _, _, _, _⟩) (v := _) rfl (by kernel_rfl) (by kernel_rfl) (by kernel_rfl) (fun _ _ _ h => h) (Or.inl ⟨rfl, ?_⟩) hHeld ?_
  rotate_left
  · (intro W' hW; (try dsimp only at hW); obtain ⟨z0, z1⟩ := hW; go_simp; (try with_reducible rfl))
  try simp only [Act.put, List.setIfInBounds_toArray, List.set_cons_zero, List.set_cons_succ]
  refine' wpAnyH_take (i := 4) (oi := ⟨_, _, _, _, _, _⟩) (v := _) rfl (by kernel_rfl) (by kernel_rfl) (by kernel_rfl) (fun _ _ _ h => h) (Or.inl ⟨rfl, ?_⟩) hHeld ?_
  rotate_left
  · (intro W' hW; (try dsimp only at hW); obtain ⟨z0, z1⟩ := hW; go_simp; (try with_reducible rfl))
  try simp only [Act.put, List.setIfInBounds_toArray, List.set_cons_zero, List.set_cons_succ]
  refine' wpAnyH_take (i := 5) (oi := ⟨_, _, _, _, _, _⟩) (v := _) rfl (by kernel_rfl) (by kernel_rfl) (by kernel_rfl) (fun _ _ _ h => h) (Or.inl ⟨rfl, ?_⟩) hHeld ?_
  rotate_left
  · (intro W' hW; (try dsimp only at hW); obtain ⟨z0, z1⟩ := hW; go_simp; (try with_reducible rfl))
  try simp only [Act.put, List.setIfInBounds_toArray, List.set_cons_zero, List.set_cons_succ]
  refine' wpAnyH_take (i := 6) (oi := ⟨_, _, _, _, _, _⟩) (v := _) rfl (by kernel_rfl) (by kernel_rfl) (by kernel_rfl) (fun _ _ _ h => h) (Or.inl ⟨rfl, ?_⟩) hHeld ?_
  rotate_left
  · (intro W' hW; (try dsimp only at hW); obtain ⟨z0, z1⟩ := hW; go_simp; (try with_reducible rfl))
  try simp only [Act.put, List.setIfInBounds_toArray, List.set_cons_zero, List.set_cons_succ]
  refine' wpAnyH_take (i := 7) (oi := ⟨_, _, _, _, _, _⟩) (v := _) rfl (by kernel_rfl) (by kernel_rfl) (by kernel_rfl) (fun _ _ _ h => h) (Or.inl ⟨rfl, ?_⟩) hHeld ?_
  rotate_left
  · (intro W' hW; (try dsimp only at hW); obtain ⟨z0, z1⟩ := hW; go_simp; (try with_reducible rfl))
  try simp only [Act.put, List.setIfInBounds_toArray, List.set_cons_zero, List.set_cons_succ]
  clear hHeld
  refine heldT_one (i := 8) (by kernel_rfl) rfl (fun K' hK => ?_)
  go_simp
  go_at_call 48
  refine (read_any F d room L s U HD.out HS.out).mono ?_
  rintro e u ⟨v4, rfl, o, k⟩
  obtain ⟨A4, c4, rfl, i4, l4, m4⟩ := o.isB.form rfl
  obtain ⟨n4, hn4⟩ : ∃ n, n = (readL s.data.toList L).1.length := ⟨_, rfl⟩
  rw [← hn4] at o i4 l4 ⊢
  have K2 := hide (KU.out.trans (k.mono KU.out.size))
  have O := hide (Own.more o KU.out.size)
  clear k o i4 hn4
  have hHeld : (fun W' => W'.cell? ⟨v, 0, none⟩ = some (.pointer (some ⟨d, 0, none⟩)) ∧ W'.cell? ⟨v, 1, none⟩ = some (.string s)) u := ⟨(K2.out.cell (p := ⟨v, 0, none⟩) hv).trans c0, (K2.out.cell (p := ⟨v, 1, none⟩) hv).trans c1⟩
  refine hK.out _ _ hHeld ?_
  clear hK
  try simp only [List.setIfInBounds_toArray, List.set_cons_zero, List.set_cons_succ]
  refine' wpAnyH_take (i := 9) (oi := ⟨_, _, _, _, _, _⟩) (v := _) rfl (by kernel_rfl) (by kernel_rfl) (by kernel_rfl) (fun _ _ _ h => h) (Or.inl ⟨rfl, ?_⟩) hHeld ?_
  rotate_left
  · (intro W' hW; (try dsimp only at hW); obtain ⟨z0, z1⟩ := hW; go_simp; (try with_reducible rfl))
  try simp only [Act.put, List.setIfInBounds_toArray, List.set_cons_zero, List.set_cons_succ]
  refine' wpAnyH_take (i := 10) (oi := ⟨_, _, _, _, _, _⟩) (v := _) rfl (by kernel_rfl) (by kernel_rfl) (by kernel_rfl) (fun _ _ _ h => h) (Or.inl ⟨rfl, ?_⟩) hHeld ?_
  rotate_left
  · (intro W' hW; (try dsimp only at hW); obtain ⟨z0, z1⟩ := hW; go_simp; (try with_reducible rfl))
  try simp only [Act.put, List.setIfInBounds_toArray, List.set_cons_zero, List.set_cons_succ]
  refine' wpAnyH_take (i := 11) (oi := ⟨_, _, _, _, _, _⟩) (v := _) rfl (by kernel_rfl) (by kernel_rfl) (by kernel_rfl) (fun _ _ _ h => h) (Or.inl ⟨rfl, ?_⟩) hHeld ?_
  rotate_left
  · (intro W' hW; (try dsimp only at hW); obtain ⟨z0, z1⟩ := hW; go_simp; (try with_reducible rfl))
  try simp only [Act.put, List.setIfInBounds_toArray, List.set_cons_zero, List.set_cons_succ]
  refine' wpAnyH_take (i := 12) (oi := ⟨_, _, _, _, _, _⟩) (v := _) rfl (by kernel_rfl) (by kernel_rfl) (by kernel_rfl) (fun _ _ _ h => h) (Or.inl ⟨rfl, ?_⟩) hHeld ?_
  rotate_left
  · (intro W' hW; (try dsimp only at hW); obtain ⟨z0, z1⟩ := hW; go_simp; (try with_reducible rfl))
  try simp only [Act.put, List.setIfInBounds_toArray, List.set_cons_zero, List.set_cons_succ]
  refine' wpAnyH_take (i := 13) (oi := ⟨_, _, _, _, _, _⟩) (v := _) rfl (by kernel_rfl) (by kernel_rfl) (by kernel_rfl) (fun _ _ _ h => h) (Or.inl ⟨rfl, ?_⟩) hHeld ?_
  rotate_left
  · (intro W' hW; (try dsimp only at hW); obtain ⟨z0, z1⟩ := hW; go_simp; (try with_reducible rfl))
  try simp only [Act.put, List.setIfInBounds_toArray, List.set_cons_zero, List.set_cons_succ]
  refine wpAnyH_done (by kernel_rfl) ?_ _
  clear hHeld
  go_wp2_with fail
  go_ret
  exact ⟨_, rfl, O.out, K2.out⟩
end Go.Proofs.Ytehgjkckhjggbaa
