/- The contracts of the disk's Rename and Cut. Condition: names no longer than the model's strings. -/
import Derived.Test.YtmledochidefeaaDisk2
import Derived.Test.YtmledochidefeaaCutF
namespace Go.Proofs.Ytmledochidefeaa
open Go.RowKit Go.Maps
theorem length_del {α : Type} {k : Str} {a : α} {l : List (Str × α)} (h : Rise l) (hg : getK k l = some a) : (delK k l).length + 1 = l.length := by
  have h1 := length_put (k := k) (a := a) h
  rw [hg] at h1
  have h2 : (putK k a l).length = (delK k l).length + 1 := length_insK _ _
  rw [h2] at h1
  simpa using h1
set_option maxHeartbeats 1600000 in
theorem rename_ok (F : Nat → Prop) (d room : Nat) (L : DiskL) (s t : ByteArray) (xs : List Nat) (l : Nat) (w : World) (hD : DiskAt w F d room L) (hs : s.size ≤ 1099511627776) (ht : 1 ≤ t.size ∧ t.size ≤ 64) (hg : getK s.data.toList L = some (xs, l)) :
    Calls Try.prog 63 #[.pointer (some ⟨d, 0, none⟩), .string s, .string t] w fun e w' => e = .returned (.int .i64 0) ∧ ∃ F', DiskAt w' F' d room (putK t.data.toList (xs, l) (delK s.data.toList L)) ∧ Next F w F' w' := by
  obtain ⟨X, A, c, rfl, hS, hf, hx, ho, hb, hl, hlen⟩ := disk_found hD hg
  obtain ⟨n, hn⟩ : ∃ n, n = xs.length := ⟨_, rfl⟩
  rw [← hn] at hx ho hl hlen
  have FS := hide (find_some F d room X s A n c l xs w hS hs hx)
  have HS := hide hS
  have HF := hide hf
  have HX := hide hx
  have HO := hide ho
  have HB := hide hb
  have HN := hide hn
  have HIN := hide (isName_any t w (by omega))
  rw [decide_eq_true ht] at HIN
  have HFG : Hid (∀ g, (Value.slice A n c).ownBlock = some g → F g ∧ ∀ p ∈ delK t.data.toList (delK s.data.toList X), p.2.1.ownBlock ≠ some g) := fun g hg => ⟨(hf.each _ (getK_mem hx)).2.1 g hg, fun p hp => by
    have hp' := (mem_delK.1 (mem_delK.1 hp).1)
    exact hf.apart _ (getK_mem hx) p hp'.1 (fun e => hp'.2 e.symm) g hg⟩
  have HU : Hid (sumK filL (delK t.data.toList (delK s.data.toList X)) + n ≤ room) := by
    have h1 := sumK_del filL s.data.toList hS.rise
    rw [hx] at h1
    have h4 : ((some ((Value.slice A n c, xs, l) : Fil)).map filL).getD 0 = xs.length := rfl
    rw [h4] at h1
    have h2 := hS.used
    have h3 := sumK_del filL t.data.toList (delK_rise (k := s.data.toList) hS.rise)
    unfold Hid
    omega
  have HFEW : Hid ((delK s.data.toList X).length < 256) := by
    have h1 := length_del hS.rise hx
    have h2 := hS.few
    unfold Hid
    omega
  have htb : t.size ≤ 64 := ht.2
  clear hD hg hS hf hx ho hn ht
  go_enter Try.func63, Try.ntmps63
  go_wp2_with fail
  refine HIN.out.mono ?_
  rintro e w0 ⟨rfl, e0⟩
  obtain rfl : w = w0 := e0.symm
  clear e0
  go_wp2_with fail
  refine FS.out.mono ?_
  rintro e w1 ⟨rfl, k1⟩
  have k2 := below_step k1 (below_alloc w1 (.cells #[.slice A n c, .int .i64 (l : Int)] 77))
  have b2 := Blk.new (B := 0) w1 77 #[.slice A n c, .int .i64 (l : Int)] (Nat.zero_le _)
  have hw1 : w.heap.size ≤ w1.heap.size := k1.size
  obtain ⟨W2, hW2⟩ : ∃ W2, W2 = w1.alloc (.cells #[.slice A n c, .int .i64 (l : Int)] 77) := ⟨_, rfl⟩
  rw [← hW2] at k2 b2
  have HW2 := hide hW2
  have S2 := hide (HS.out.below k2)
  have F2 := hide (HF.out.turn (S := fun _ => False) (Turn.of_below _ k2) (fun _ _ => id))
  have O2 := hide (HO.out.turn (S := fun _ => False) (Turn.of_below _ k2) (fun _ _ => id))
  have B2 := hide b2
  have K2 := hide k2
  clear k1 k2 b2 hW2
  go_wp2_with fail
  rw [← HW2.out]
  refine (drop_any F d room X s _ _ S2.out hs HX.out).mono ?_
  rintro e w3 ⟨rfl, s3, n3, u3⟩
  have hnF : ¬ F w1.heap.size := fun h => by
    have := HS.out.low _ h
    omega
  have b3 := B2.out.turn n3.turn hnF
  have f0 : w3.cell? ⟨w1.heap.size, 0, none⟩ = some (.slice A n c) := b3.cell 0
  have f1 : w3.cell? ⟨w1.heap.size, 1, none⟩ = some (.int .i64 (l : Int)) := b3.cell 1
  have F3 := hide ((F2.out.sub (fun p (hp : p ∈ delK t.data.toList (delK s.data.toList X)) => (mem_delK.1 (mem_delK.1 hp).1).1)).u8 u3 (fun _ => id))
  have O3 := hide (u3.own O2.out)
  have S3 := hide s3
  have N3 := hide ((Next.of_below F K2.out).trans n3)
  clear s3 n3 u3 b3
  go_wp2_with fail
  clear f0 f1
  refine (lay_disk F d room (delK s.data.toList X) t A n c l xs _ S3.out F3.out htb HN.out.symm hl O3.out HB.out HFG.out HU.out (.inr HFEW.out)).mono ?_
  rintro e w4 ⟨rfl, F', d4, n4⟩
  rw [absX_del] at d4
  have KE := hide (And.intro d4 (N3.out.trans n4))
  clear d4 n4
  go_wp2_with fail
  go_ret
  exact ⟨rfl, F', KE.out⟩
theorem rename_arg (d : Nat) (s t : ByteArray) (w : World) (ht : ¬ (1 ≤ t.size ∧ t.size ≤ 64)) (hb : t.size ≤ 9223372036854775807) :
    Calls Try.prog 63 #[.pointer (some ⟨d, 0, none⟩), .string s, .string t] w fun e w' => e = .returned (.int .i64 1) ∧ Below w.heap.size w w' := by
  have HIN := hide (isName_any t w hb)
  rw [decide_eq_false ht] at HIN
  go_enter Try.func63, Try.ntmps63
  go_wp2_with fail
  refine HIN.out.mono ?_
  rintro e w0 ⟨rfl, e0⟩
  obtain rfl : w = w0 := e0.symm
  clear e0
  go_wp2_with fail
  go_ret
  exact ⟨rfl, Below.refl _ _⟩
theorem rename_none (F : Nat → Prop) (d room : Nat) (L : DiskL) (s t : ByteArray) (w : World) (hD : DiskAt w F d room L) (hs : s.size ≤ 1099511627776) (ht : 1 ≤ t.size ∧ t.size ≤ 64) (hg : getK s.data.toList L = none) :
    Calls Try.prog 63 #[.pointer (some ⟨d, 0, none⟩), .string s, .string t] w fun e w' => e = .returned (.int .i64 7) ∧ Below w.heap.size w w' := by
  obtain ⟨X, rfl, hS, hf, hx⟩ := disk_missing hD hg
  have FS := hide (find_none F d room X s w hS hs hx)
  have HIN := hide (isName_any t w (by omega))
  rw [decide_eq_true ht] at HIN
  clear hD hg hS hf hx ht
  go_enter Try.func63, Try.ntmps63
  go_wp2_with fail
  refine HIN.out.mono ?_
  rintro e w0 ⟨rfl, e0⟩
  obtain rfl : w = w0 := e0.symm
  clear e0
  go_wp2_with fail
  refine FS.out.mono ?_
  rintro e w1 ⟨rfl, k1⟩
  have K2 := hide (below_step k1 (below_alloc w1 (.cells #[.slice none 0 0, .int .i64 0] 77)))
  clear k1
  go_wp2_with fail
  go_ret
  exact ⟨rfl, K2.out⟩
theorem cutD_none (F : Nat → Prop) (d room : Nat) (L : DiskL) (s : ByteArray) (z : Int) (w : World) (hD : DiskAt w F d room L) (hs : s.size ≤ 1099511627776) (hg : getK s.data.toList L = none) :
    Calls Try.prog 27 #[.pointer (some ⟨d, 0, none⟩), .string s, .int .i64 z] w fun e w' => e = .returned (.int .i64 7) ∧ Below w.heap.size w w' := by
  obtain ⟨X, rfl, hS, hf, hx⟩ := disk_missing hD hg
  have FS := hide (find_none F d room X s w hS hs hx)
  clear hD hg hS hf hx
  go_enter Try.func27, Try.ntmps27
  go_wp2_with fail
  refine FS.out.mono ?_
  rintro e w1 ⟨rfl, k1⟩
  have K2 := hide (below_step k1 (below_alloc w1 (.cells #[.slice none 0 0, .int .i64 0] 77)))
  clear k1
  go_wp2_with fail
  go_ret
  exact ⟨rfl, K2.out⟩
theorem cutD_arg (F : Nat → Prop) (d room : Nat) (L : DiskL) (s : ByteArray) (xs : List Nat) (l : Nat) (z : Int) (w : World) (hD : DiskAt w F d room L) (hs : s.size ≤ 1099511627776) (hg : getK s.data.toList L = some (xs, l)) (hz : z < 0 ∨ (xs.length : Int) < z) :
    Calls Try.prog 27 #[.pointer (some ⟨d, 0, none⟩), .string s, .int .i64 z] w fun e w' => e = .returned (.int .i64 1) ∧ Below w.heap.size w w' := by
  obtain ⟨X, A, c, rfl, hS, hf, hx, ho, hb, hl, hlen⟩ := disk_found hD hg
  obtain ⟨n, hn⟩ : ∃ n, n = xs.length := ⟨_, rfl⟩
  rw [← hn] at hx ho hl hlen hz
  have FS := hide (find_some F d room X s A n c l xs w hS hs hx)
  clear hD hg hS hf hx ho hn
  rcases hz with hz | hz
  · go_enter Try.func27, Try.ntmps27
    go_wp2_with fail
    refine FS.out.mono ?_
    rintro e w1 ⟨rfl, k1⟩
    have K2 := hide (below_step k1 (below_alloc w1 (.cells #[.slice A n c, .int .i64 (l : Int)] 77)))
    clear k1
    go_wp2_with fail
    go_ret
    exact ⟨rfl, K2.out⟩
  · have hz0 : ¬ z < 0 := by omega
    go_enter Try.func27, Try.ntmps27
    go_wp2_with fail
    refine FS.out.mono ?_
    rintro e w1 ⟨rfl, k1⟩
    have K2 := hide (below_step k1 (below_alloc w1 (.cells #[.slice A n c, .int .i64 (l : Int)] 77)))
    clear k1
    go_wp2_with fail
    go_ret
    exact ⟨rfl, K2.out⟩
theorem off_others {F : Nat → Prop} {w w1 : World} {X : List (Str × Fil)} {k : Str} {v : Value} {xs : List Nat} (hf : Files w F X) (hlow : ∀ g, F g → g < w.heap.size) (ho : Own w1 w.heap.size v xs) :
    ∀ g, v.ownBlock = some g → ∀ p ∈ delK k X, p.2.1.ownBlock ≠ some g := fun g hg p hp e => by
  have h1 := (ho.lt g hg).1
  have h2 := hlow g ((hf.each p (mem_delK.1 hp).1).2.1 g e)
  omega
set_option maxHeartbeats 1600000 in
theorem cutD_ok (F : Nat → Prop) (d room : Nat) (L : DiskL) (s : ByteArray) (xs : List Nat) (l k : Nat) (w : World) (hD : DiskAt w F d room L) (hs : s.size ≤ 1099511627776) (hg : getK s.data.toList L = some (xs, l)) (hk : k ≤ xs.length) :
    Calls Try.prog 27 #[.pointer (some ⟨d, 0, none⟩), .string s, .int .i64 (k : Int)] w fun e w' => e = .returned (.int .i64 0) ∧ ∃ F', DiskAt w' F' d room (putK s.data.toList (xs.take k, min l k) L) ∧ Next F w F' w' := by
  obtain ⟨X, A, c, rfl, hS, hf, hx, ho, hb, hl, hlen⟩ := disk_found hD hg
  obtain ⟨n, hn⟩ : ∃ n, n = xs.length := ⟨_, rfl⟩
  rw [← hn] at hx ho hl hlen hk
  have FS := hide (find_some F d room X s A n c l xs w hS hs hx)
  have HS := hide hS
  have HF := hide hf
  have HX := hide hx
  have HI := hide ho.isB
  have HB := hide hb
  have HN := hide hn
  have HT : Hid ((xs.take k).length = k) := by unfold Hid; rw [List.length_take]; omega
  have HU : Hid (sumK filL (delK s.data.toList X) + k ≤ room) := by
    have h1 := sumK_del filL s.data.toList hS.rise
    rw [hx] at h1
    have h4 : ((some ((Value.slice A n c, xs, l) : Fil)).map filL).getD 0 = xs.length := rfl
    rw [h4] at h1
    have h2 := hS.used
    unfold Hid
    omega
  have hkz : ¬ ((k : Int) < 0) := by omega
  have hkn : (k : Int) ≤ (n : Int) := by omega
  have hkn2 : ¬ ((n : Int) < (k : Int)) := by omega
  clear hD hg hS hf hx ho hn
  go_enter Try.func27, Try.ntmps27
  go_wp2_with fail
  refine FS.out.mono ?_
  rintro e w1 ⟨rfl, k1⟩
  have k2 := below_step k1 (below_alloc w1 (.cells #[.slice A n c, .int .i64 (l : Int)] 77))
  have S2 := hide (HS.out.below k2)
  have F2 := hide (HF.out.turn (S := fun _ => False) (Turn.of_below _ k2) (fun _ _ => id))
  have I2 := hide (HI.out.keep k2)
  have K2 := hide k2
  clear k1 k2
  go_wp2_with fail
  refine (cutF_any A n c l k xs _ I2.out HN.out.symm hk (by omega)).mono ?_
  rintro e w3 ⟨A3, c3, rfl, o3, k3⟩
  have F3 := F2.out.turn (S := fun _ => False) (Turn.of_below _ k3) (fun _ _ => id)
  have hlow2 : ∀ g, F g → g < (w1.alloc (.cells #[.slice A n c, .int .i64 (l : Int)] 77)).heap.size := fun g hg => Nat.lt_of_lt_of_le (HS.out.low g hg) K2.out.size
  have OO := hide (off_others (k := s.data.toList) F2.out hlow2 o3)
  have S3 := (S2.out.below k3).more (F' := fun g => F g ∨ (Value.slice A3 k c3).ownBlock = some g) (fun g => .inl) (fun g hg => by
    rcases hg with h | h
    · exact Nat.lt_of_lt_of_le (hlow2 g h) k3.size
    · exact (o3.lt g h).2)
  have hG : ∀ g, (F g ∨ (Value.slice A3 k c3).ownBlock = some g) → F g ∨ w.heap.size ≤ g := fun g hg => by
    rcases hg with h | h
    · exact .inl h
    · exact .inr (Nat.le_trans K2.out.size (o3.lt g h).1)
  have S3 := hide S3
  have F3 := hide ((F3.sub (fun p (hp : p ∈ delK s.data.toList X) => (mem_delK.1 hp).1)).u8 (U8.refl w3) (F' := fun g => F g ∨ (Value.slice A3 k c3).ownBlock = some g) (fun g => .inl))
  have O3 := hide (o3.down (Nat.zero_le _))
  have K3 := hide (below_step K2.out k3)
  have HG := hide hG
  clear o3 k3 hlow2 hG
  go_wp2_with fail
  refine (lay_disk _ d room X s A3 k c3 (min l k) (xs.take k) _ S3.out F3.out (HS.out.names _ (getK_mem HX.out)) HT.out (Nat.min_le_right _ _) O3.out (fun x hx => HB.out x (List.mem_of_mem_take hx)) (fun g hg => ⟨.inr hg, OO.out g hg⟩) HU.out (.inl (by rw [HX.out]; rfl))).mono ?_
  rintro e w4 ⟨rfl, F', d4, n4⟩
  have KE := hide (And.intro d4 (Next.of_more (Turn.of_below F K3.out) n4 HG.out))
  clear d4 n4
  go_wp2_with fail
  go_ret
  exact ⟨rfl, F', KE.out⟩
end Go.Proofs.Ytmledochidefeaa
