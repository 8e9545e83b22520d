/- The contract of the disk's Rot. Condition: names no longer than the model's strings. -/
import Derived.Test.YtmledochidefeaaDisk2
import Derived.Test.YtmledochidefeaaOwnAt
namespace Go.Proofs.Ytmledochidefeaa
open Go.RowKit Go.Maps
theorem rot_none (F : Nat → Prop) (d room : Nat) (L : DiskL) (s : ByteArray) (z : Int) (y : Int) (w : World) (hD : DiskAt w F d room L) (hs : s.size ≤ 1099511627776) (hg : getK s.data.toList L = none) :
    Calls Try.prog 18 #[.pointer (some ⟨d, 0, none⟩), .string s, .int .i64 z, .int .u8 y] w fun e w' => e = .returned (.int .i64 7) ∧ Below w.heap.size w w' := by
  obtain ⟨X, rfl, hS, hf, hx⟩ := disk_missing hD hg
  have FS := hide (find_none F d room X s w hS hs hx)
  clear hD hg hS hf hx
  go_enter Try.func18, Try.ntmps18
  go_wp2_with fail
  refine FS.out.mono ?_
  rintro e w1 ⟨rfl, k1⟩
  have K2 := hide (below_step k1 (below_alloc w1 (.cells #[.slice none 0 0, .int .i64 0] 77)))
  clear k1
  go_wp2_with fail
  go_ret
  exact ⟨rfl, K2.out⟩
theorem rot_out (F : Nat → Prop) (d room : Nat) (L : DiskL) (s : ByteArray) (xs : List Nat) (l : Nat) (z : Int) (y : Int) (w : World) (hD : DiskAt w F d room L) (hs : s.size ≤ 1099511627776) (hg : getK s.data.toList L = some (xs, l)) (hz : z < 0 ∨ (xs.length : Int) ≤ z) :
    Calls Try.prog 18 #[.pointer (some ⟨d, 0, none⟩), .string s, .int .i64 z, .int .u8 y] w fun e w' => e = .returned (.int .i64 7) ∧ Below w.heap.size w w' := by
  obtain ⟨X, A, c, rfl, hS, hf, hx, ho, hb, hl, hlen⟩ := disk_found hD hg
  obtain ⟨n, hn⟩ : ∃ n, n = xs.length := ⟨_, rfl⟩
  rw [← hn] at hx ho hl hlen hz
  have FS := hide (find_some F d room X s A n c l xs w hS hs hx)
  clear hD hg hS hf hx ho hn
  rcases hz with hz | hz
  · go_enter Try.func18, Try.ntmps18
    go_wp2_with fail
    refine FS.out.mono ?_
    rintro e w1 ⟨rfl, k1⟩
    have K2 := hide (below_step k1 (below_alloc w1 (.cells #[.slice A n c, .int .i64 (l : Int)] 77)))
    clear k1
    go_wp2_with fail
    go_ret
    exact ⟨rfl, K2.out⟩
  · have hz0 : ¬ z < 0 := by omega
    go_enter Try.func18, Try.ntmps18
    go_wp2_with fail
    refine FS.out.mono ?_
    rintro e w1 ⟨rfl, k1⟩
    have K2 := hide (below_step k1 (below_alloc w1 (.cells #[.slice A n c, .int .i64 (l : Int)] 77)))
    clear k1
    go_wp2_with fail
    go_ret
    exact ⟨rfl, K2.out⟩
set_option maxHeartbeats 1600000 in
theorem rot_ok (F : Nat → Prop) (d room : Nat) (L : DiskL) (s : ByteArray) (xs : List Nat) (l k y : Nat) (w : World) (hD : DiskAt w F d room L) (hs : s.size ≤ 1099511627776) (hg : getK s.data.toList L = some (xs, l)) (hk : k < xs.length) (hy : y < 256) :
    Calls Try.prog 18 #[.pointer (some ⟨d, 0, none⟩), .string s, .int .i64 (k : Int), .int .u8 (y : Int)] w fun e w' => e = .returned (.int .i64 0) ∧ ∃ F', DiskAt w' F' d room (putK s.data.toList (xs.set k (xs.getD k 0 ^^^ y), l) L) ∧ Next F w F' w' := by
  obtain ⟨X, A, c, rfl, hS, hf, hx, ho, hb, hl, hlen⟩ := disk_found hD hg
  obtain ⟨n, hn⟩ : ∃ n, n = xs.length := ⟨_, rfl⟩
  rw [← hn] at hx ho hl hlen hk
  obtain ⟨g, c', e, _, hnc, hc63, hcell, hfr⟩ := ho.at_ hn.symm (by omega)
  cases e
  have FS := hide (find_some F d room X s (some ⟨g, 0, none⟩) n c l xs w hS hs hx)
  have hgF : F g := (hf.each _ (getK_mem hx)).2.1 g rfl
  have hgl : g < w.heap.size := hS.low g hgF
  have hxk : xs.getD k 0 < 256 := by
    have e : xs.getD k 0 = xs[k]'(by omega) := by simp [show k < xs.length by omega]
    rw [e]
    exact hb _ (List.getElem_mem _)
  have hx8 := xor8 (xs.getD k 0) y hxk hy
  have hck := hcell k hk
  have hfk := hfr k
  obtain ⟨x, hxe⟩ : ∃ x, x = xs.getD k 0 := ⟨_, rfl⟩
  rw [← hxe] at hxk hx8 hck ⊢
  have hxy : x ^^^ y < 256 := Nat.xor_lt_two_pow (n := 8) hxk hy
  have HS := hide hS
  have HF := hide hf
  have HX := hide hx
  have HO := hide ho
  have HN := hide hn
  have HFG : Hid (∀ i, (Value.slice (some ⟨g, 0, none⟩) n c).ownBlock = some i → F i ∧ ∀ p ∈ delK s.data.toList X, p.2.1.ownBlock ≠ some i) := fun g hg => ⟨(hf.each _ (getK_mem hx)).2.1 g hg, fun p hp => hf.apart _ (getK_mem hx) p (mem_delK.1 hp).1 (fun e => (mem_delK.1 hp).2 e.symm) g hg⟩
  have HU : Hid (sumK filL (delK s.data.toList X) + n ≤ room) := by
    have h1 := sumK_del filL s.data.toList hS.rise
    rw [hx] at h1
    have h4 : ((some ((Value.slice (some ⟨g, 0, none⟩) n c, xs, l) : Fil)).map filL).getD 0 = xs.length := rfl
    rw [h4] at h1
    have h2 := hS.used
    unfold Hid
    omega
  have HBB : Hid (∀ z ∈ xs.set k (x ^^^ y), z < 256) := by
    intro z hz
    rcases List.mem_or_eq_of_mem_set hz with h | h
    · exact hb z h
    · rw [h]; exact hxy
  have HNN : Hid ((xs.set k (x ^^^ y)).length = n) := by unfold Hid; rw [List.length_set]; omega
  have hkz : ¬ ((k : Int) < 0) := by omega
  have hkn : ¬ ((n : Int) ≤ (k : Int)) := by omega
  clear hD hg hS hf hx ho hn hb hcell hfr hxe
  go_enter Try.func18, Try.ntmps18
  go_wp2_with fail
  refine FS.out.mono ?_
  rintro e w1 ⟨rfl, k1⟩
  have hw1 : w.heap.size ≤ w1.heap.size := k1.size
  have hgl1 : g < w1.heap.size := by omega
  have hck2 := (k1.cell (cell_lt hck)).trans hck
  have hfk2 : w1.frozen? ⟨g, k, none⟩ = false := (World.frozen?_of_block (k1.block g hgl)).trans hfk
  have s1 := HS.out.below k1
  have f1 := HF.out.turn (S := fun _ => False) (Turn.of_below _ k1) (fun _ _ => id)
  have o1 := HO.out.turn (S := fun _ => False) (Turn.of_below _ k1) (fun _ _ => id)
  have gs := grown_set w1 g k (.int .u8 ((x ^^^ y : Nat) : Int))
  have s3 := s1.grown o1 gs
  have f3 := f1.grown HX.out gs
  have o3 := o1.stored HN.out.symm k (x ^^^ y)
  have t3 : Turn F w (w1.setCell ⟨g, k, none⟩ (.int .u8 ((x ^^^ y : Nat) : Int))) := (Turn.of_below F k1).then (Turn.of_grown gs) (fun i e => by
    have e : i = g := by simpa using e
    subst e
    exact .inl hgF)
  have ka := below_alloc (w1.setCell ⟨g, k, none⟩ (.int .u8 ((x ^^^ y : Nat) : Int))) (.cells #[.slice (some ⟨g, 0, none⟩) n c, .int .i64 (l : Int)] 77)
  have S4 := hide (s3.below ka)
  have F4 := hide (f3.turn (S := fun _ => False) (Turn.of_below _ ka) (fun _ _ => id))
  have O4 := hide (o3.turn (S := fun _ => False) (Turn.of_below _ ka) (fun _ _ => id))
  have T4 := hide (t3.trans (Turn.of_below F ka))
  clear k1 hck hfk s1 f1 o1 gs s3 f3 o3 t3 ka
  go_wp2_with fail
  refine (lay_disk F d room X s (some ⟨g, 0, none⟩) n c l (xs.set k (x ^^^ y)) _ S4.out F4.out (HS.out.names _ (getK_mem HX.out)) HNN.out hl O4.out HBB.out HFG.out HU.out (.inl (by rw [HX.out]; rfl))).mono ?_
  rintro e w5 ⟨rfl, F', d5, n5⟩
  have KE := hide (And.intro d5 ((show Next F w F _ from ⟨T4.out, fun _ => .inl⟩).trans n5))
  clear d5 n5 hck2 hfk2
  go_wp2_with fail
  go_ret
  exact ⟨rfl, F', KE.out⟩
end Go.Proofs.Ytmledochidefeaa
