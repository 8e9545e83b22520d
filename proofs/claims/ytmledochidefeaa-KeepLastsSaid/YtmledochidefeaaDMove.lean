/- The contracts of the disk's Remove, Rename, Sync. Condition: names no longer than the model's strings. -/
import Derived.Test.YtmledochidefeaaDisk2
namespace Go.Proofs.Ytmledochidefeaa
open Go.RowKit Go.Maps
theorem remove_some (F : Nat → Prop) (d room : Nat) (L : DiskL) (s : ByteArray) (a : List Nat × Nat) (w : World) (hD : DiskAt w F d room L) (hs : s.size ≤ 1099511627776) (hg : getK s.data.toList L = some a) :
    Calls Try.prog 34 #[.pointer (some ⟨d, 0, none⟩), .string s] w fun e w' => e = .returned (.int .i64 0) ∧ DiskAt w' F d room (delK s.data.toList L) ∧ Next F w F w' := by
  obtain ⟨xs, l⟩ := a
  obtain ⟨X, A, c, rfl, hS, hf, hx, ho, hb, hl, hlen⟩ := disk_found hD hg
  obtain ⟨n, hn⟩ : ∃ n, n = xs.length := ⟨_, rfl⟩
  rw [← hn] at hx ho hl hlen
  have FS := hide (find_some F d room X s A n c l xs w hS hs hx)
  have HS := hide hS
  have HF := hide hf
  have HX := hide hx
  clear hD hg hS hf hx ho hn
  go_enter Try.func34, Try.ntmps34
  go_wp2_with fail
  refine FS.out.mono ?_
  rintro e w1 ⟨rfl, k1⟩
  have k2 := below_step k1 (below_alloc w1 (.cells #[.slice A n c, .int .i64 (l : Int)] 77))
  have S2 := hide (HS.out.below k2)
  have F2 := hide (HF.out.turn (S := fun _ => False) (Turn.of_below _ k2) (fun _ _ => id))
  have K2 := hide k2
  clear k1 k2
  go_wp2_with fail
  refine (drop_any F d room X s _ _ S2.out hs HX.out).mono ?_
  rintro e w3 ⟨rfl, s3, n3, u3⟩
  have KE := hide (And.intro (show DiskAt w3 F d room (delK s.data.toList (absX X)) from ⟨delK s.data.toList X, (absX_del _ _).symm, s3, (F2.out.sub (fun p hp => (mem_delK.1 hp).1)).u8 u3 (fun _ => id)⟩) ((Next.of_below F K2.out).trans n3))
  clear s3 n3 u3
  go_wp2_with fail
  go_ret
  exact ⟨rfl, KE.out⟩
theorem remove_none (F : Nat → Prop) (d room : Nat) (L : DiskL) (s : ByteArray) (w : World) (hD : DiskAt w F d room L) (hs : s.size ≤ 1099511627776) (hg : getK s.data.toList L = none) :
    Calls Try.prog 34 #[.pointer (some ⟨d, 0, none⟩), .string s] w fun e w' => e = .returned (.int .i64 7) ∧ Below w.heap.size w w' := by
  obtain ⟨X, rfl, hS, hf, hx⟩ := disk_missing hD hg
  have FS := hide (find_none F d room X s w hS hs hx)
  clear hD hg hS hf hx
  go_enter Try.func34, Try.ntmps34
  go_wp2_with fail
  refine FS.out.mono ?_
  rintro e w1 ⟨rfl, k1⟩
  have K2 := hide (below_step k1 (below_alloc w1 (.cells #[.slice none 0 0, .int .i64 0] 77)))
  clear k1
  go_wp2_with fail
  go_ret
  exact ⟨rfl, K2.out⟩
set_option maxHeartbeats 800000 in
theorem sync_some (F : Nat → Prop) (d room : Nat) (L : DiskL) (s : ByteArray) (xs : List Nat) (l : Nat) (w : World) (hD : DiskAt w F d room L) (hs : s.size ≤ 1099511627776) (hg : getK s.data.toList L = some (xs, l)) :
    Calls Try.prog 61 #[.pointer (some ⟨d, 0, none⟩), .string s] w fun e w' => e = .returned (.int .i64 0) ∧ ∃ F', DiskAt w' F' d room (putK s.data.toList (xs, xs.length) L) ∧ Next F w F' w' := by
  obtain ⟨X, A, c, rfl, hS, hf, hx, ho, hb, hl, hlen⟩ := disk_found hD hg
  obtain ⟨n, hn⟩ : ∃ n, n = xs.length := ⟨_, rfl⟩
  rw [← hn] at hx ho hl hlen ⊢
  have FS := hide (find_some F d room X s A n c l xs w hS hs hx)
  have HS := hide hS
  have HF := hide hf
  have HX := hide hx
  have HO := hide ho
  have HB := hide hb
  have HN := hide hn
  have HFG : Hid (∀ g, (Value.slice A n c).ownBlock = some g → F g ∧ ∀ p ∈ delK s.data.toList X, p.2.1.ownBlock ≠ some g) := fun g hg => ⟨(hf.each _ (getK_mem hx)).2.1 g hg, fun p hp => hf.apart _ (getK_mem hx) p (mem_delK.1 hp).1 (fun e => (mem_delK.1 hp).2 e.symm) g hg⟩
  have HU : Hid (sumK filL (delK s.data.toList X) + n ≤ room) := by
    have h1 := sumK_del filL s.data.toList hS.rise
    rw [hx] at h1
    have h4 : ((some ((Value.slice A n c, xs, l) : Fil)).map filL).getD 0 = xs.length := rfl
    rw [h4] at h1
    have h2 := hS.used
    unfold Hid
    omega
  clear hD hg hS hf hx ho hn
  go_enter Try.func61, Try.ntmps61
  go_wp2_with fail
  refine FS.out.mono ?_
  rintro e w1 ⟨rfl, k1⟩
  have k2 := below_step k1 (below_alloc w1 (.cells #[.slice A n c, .int .i64 (n : Int)] 77))
  have S2 := hide (HS.out.below k2)
  have F2 := hide (HF.out.turn (S := fun _ => False) (Turn.of_below _ k2) (fun _ _ => id))
  have O2 := hide (HO.out.turn (S := fun _ => False) (Turn.of_below _ k2) (fun _ _ => id))
  have K2 := hide k2
  clear k1 k2
  go_wp2_with fail
  refine (lay_disk F d room X s A n c n xs _ S2.out (F2.out.sub (fun p hp => (mem_delK.1 hp).1)) (HS.out.names _ (getK_mem HX.out)) HN.out.symm (Nat.le_refl _) O2.out HB.out HFG.out HU.out (.inl (by rw [HX.out]; rfl))).mono ?_
  rintro e w3 ⟨rfl, F', d3, n3⟩
  have KE := hide (And.intro d3 ((Next.of_below F K2.out).trans n3))
  clear d3 n3
  go_wp2_with fail
  go_ret
  exact ⟨rfl, F', KE.out⟩
theorem sync_none (F : Nat → Prop) (d room : Nat) (L : DiskL) (s : ByteArray) (w : World) (hD : DiskAt w F d room L) (hs : s.size ≤ 1099511627776) (hg : getK s.data.toList L = none) :
    Calls Try.prog 61 #[.pointer (some ⟨d, 0, none⟩), .string s] w fun e w' => e = .returned (.int .i64 7) ∧ Below w.heap.size w w' := by
  obtain ⟨X, rfl, hS, hf, hx⟩ := disk_missing hD hg
  have FS := hide (find_none F d room X s w hS hs hx)
  clear hD hg hS hf hx
  go_enter Try.func61, Try.ntmps61
  go_wp2_with fail
  refine FS.out.mono ?_
  rintro e w1 ⟨rfl, k1⟩
  have K2 := hide (below_step k1 (below_alloc w1 (.cells #[.slice none 0 0, .int .i64 0] 77)))
  clear k1
  go_wp2_with fail
  go_ret
  exact ⟨rfl, K2.out⟩
end Go.Proofs.Ytmledochidefeaa
