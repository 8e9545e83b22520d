/- The contracts of disk.New and of the disk's Read, Size, Used, Remove. Condition: names no longer than the model's strings. -/
import Derived.Test.YtmledochidefeaaDisk2
namespace Go.Proofs.Ytmledochidefeaa
open Go.RowKit Go.Maps
theorem new_any (room : Nat) (w : World) (h : room ≤ 1073741824) :
    Calls Try.prog 9 #[.int .i64 (room : Int)] w fun e w' => ∃ d F, e = .returned (.tuple #[.pointer (some ⟨d, 0, none⟩), .int .i64 0]) ∧ DiskAt w' F d room [] ∧ (∀ k, F k → w.heap.size ≤ k) ∧ Below w.heap.size w w' := by
  go_enter Try.func9, Try.ntmps9
  go_wp2_with fail
  go_ret2
  refine ⟨w.heap.size, fun k => k = w.heap.size, rfl, ⟨[], rfl, ⟨⟨none, Blk.new (B := 0) w _ _ (Nat.zero_le _), .inl ⟨rfl, rfl⟩⟩, rfl, ?_, h, Nat.zero_le _, Nat.zero_le _, (fun p hp => by cases hp), List.Pairwise.nil, (fun p hp => by cases hp)⟩, ⟨(fun p hp => by cases hp), fun p hp => by cases hp⟩⟩, fun k hk => by omega, below_alloc _ _⟩
  rintro k rfl
  simp
theorem new_bad (z : Int) (w : World) (h : z < 0 ∨ 1073741824 < z) :
    Calls Try.prog 9 #[.int .i64 z] w fun e w' => e = .returned (.tuple #[.pointer none, .int .i64 1]) ∧ w = w' := by
  rcases h with h | h
  · go_enter Try.func9, Try.ntmps9
    go_wp2_with fail
    go_ret2
    exact ⟨rfl, rfl⟩
  · have h0 : ¬ z < 0 := by omega
    go_enter Try.func9, Try.ntmps9
    go_wp2_with fail
    go_ret2
    exact ⟨rfl, rfl⟩
set_option maxHeartbeats 800000 in
theorem read_some (F : Nat → Prop) (d room : Nat) (L : DiskL) (s : ByteArray) (xs : List Nat) (l : Nat) (w : World) (hD : DiskAt w F d room L) (hs : s.size ≤ 1099511627776) (hg : getK s.data.toList L = some (xs, l)) :
    Calls Try.prog 31 #[.pointer (some ⟨d, 0, none⟩), .string s] w fun e w' => ∃ v, e = .returned (.tuple #[v, .int .i64 0]) ∧ Own w' w.heap.size v xs ∧ Below w.heap.size w w' := by
  obtain ⟨X, A, c, rfl, hS, hf, hx, ho, hb, hl, hlen⟩ := disk_found hD hg
  obtain ⟨n, hn⟩ : ∃ n, n = xs.length := ⟨_, rfl⟩
  rw [← hn] at hx ho hl hlen
  have FS := hide (find_some F d room X s A n c l xs w hS hs hx)
  have HI := hide ho.isB
  have HN := hide hn
  clear hD hg hS hf hx ho hn
  go_enter Try.func31, Try.ntmps31
  go_wp2_with fail
  refine FS.out.mono ?_
  rintro e w1 ⟨rfl, k1⟩
  have k2 := below_step k1 (below_alloc w1 (.cells #[.slice A n c, .int .i64 (l : Int)] 77))
  have b2 := Blk.new (B := 0) w1 77 #[.slice A n c, .int .i64 (l : Int)] (Nat.zero_le _)
  have I2 := hide (HI.out.keep k2)
  have K2 := hide k2
  clear k1 k2 b2
  go_wp2_with fail
  refine (clone_any A n c xs _ I2.out HN.out.symm (by omega)).mono ?_
  rintro e w3 ⟨v, rfl, o3, k3⟩
  have O3 := hide (o3.down K2.out.size)
  have K3 := hide (below_step K2.out k3)
  clear o3 k3
  go_wp2_with fail
  go_ret2
  exact ⟨v, rfl, O3.out, K3.out⟩
theorem read_none (F : Nat → Prop) (d room : Nat) (L : DiskL) (s : ByteArray) (w : World) (hD : DiskAt w F d room L) (hs : s.size ≤ 1099511627776) (hg : getK s.data.toList L = none) :
    Calls Try.prog 31 #[.pointer (some ⟨d, 0, none⟩), .string s] w fun e w' => e = .returned (.tuple #[.slice none 0 0, .int .i64 7]) ∧ Below w.heap.size w w' := by
  obtain ⟨X, rfl, hS, hf, hx⟩ := disk_missing hD hg
  have FS := hide (find_none F d room X s w hS hs hx)
  clear hD hg hS hf hx
  go_enter Try.func31, Try.ntmps31
  go_wp2_with fail
  refine FS.out.mono ?_
  rintro e w1 ⟨rfl, k1⟩
  have K2 := hide (below_step k1 (below_alloc w1 (.cells #[.slice none 0 0, .int .i64 0] 77)))
  clear k1
  go_wp2_with fail
  go_ret2
  exact ⟨rfl, K2.out⟩
theorem size_some (F : Nat → Prop) (d room : Nat) (L : DiskL) (s : ByteArray) (xs : List Nat) (l : Nat) (w : World) (hD : DiskAt w F d room L) (hs : s.size ≤ 1099511627776) (hg : getK s.data.toList L = some (xs, l)) :
    Calls Try.prog 17 #[.pointer (some ⟨d, 0, none⟩), .string s] w fun e w' => e = .returned (.tuple #[.int .i64 (xs.length : Int), .bool true]) ∧ Below w.heap.size w w' := by
  obtain ⟨X, A, c, rfl, hS, hf, hx, ho, hb, hl, hlen⟩ := disk_found hD hg
  obtain ⟨n, hn⟩ : ∃ n, n = xs.length := ⟨_, rfl⟩
  rw [← hn] at hx ho hl hlen ⊢
  have FS := hide (find_some F d room X s A n c l xs w hS hs hx)
  clear hD hg hS hf hx ho hn
  go_enter Try.func17, Try.ntmps17
  go_wp2_with fail
  refine FS.out.mono ?_
  rintro e w1 ⟨rfl, k1⟩
  have K2 := hide (below_step k1 (below_alloc w1 (.cells #[.slice A n c, .int .i64 (l : Int)] 77)))
  clear k1
  go_wp2_with fail
  go_ret2
  exact ⟨rfl, K2.out⟩
theorem size_none (F : Nat → Prop) (d room : Nat) (L : DiskL) (s : ByteArray) (w : World) (hD : DiskAt w F d room L) (hs : s.size ≤ 1099511627776) (hg : getK s.data.toList L = none) :
    Calls Try.prog 17 #[.pointer (some ⟨d, 0, none⟩), .string s] w fun e w' => e = .returned (.tuple #[.int .i64 0, .bool false]) ∧ Below w.heap.size w w' := by
  obtain ⟨X, rfl, hS, hf, hx⟩ := disk_missing hD hg
  have FS := hide (find_none F d room X s w hS hs hx)
  clear hD hg hS hf hx
  go_enter Try.func17, Try.ntmps17
  go_wp2_with fail
  refine FS.out.mono ?_
  rintro e w1 ⟨rfl, k1⟩
  have K2 := hide (below_step k1 (below_alloc w1 (.cells #[.slice none 0 0, .int .i64 0] 77)))
  clear k1
  go_wp2_with fail
  go_ret2
  exact ⟨rfl, K2.out⟩
end Go.Proofs.Ytmledochidefeaa
