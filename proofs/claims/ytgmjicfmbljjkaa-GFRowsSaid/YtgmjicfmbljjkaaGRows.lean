/- The contracts of gf.Scale, gf.Add, gf.Dot and of the document's own Dot: rows scaled and added place by place, the sum of products. Condition: there are at most 1000000 bytes. -/
import Derived.Test.YtgmjicfmbljjkaaRPow
import Derived.Test.YtgmjicfmbljjkaaApp
import Derived.RegionTactic
import Derived.ChangeAlike
namespace Go.Proofs.Ytgmjicfmbljjkaa
open Go.RowKit
/-- A row of which k places are laid, by f. -/
def part (f : Nat → Nat) (n k : Nat) : List Nat := (List.range n).map fun j => if j < k then f j else 0
theorem part_len (f : Nat → Nat) (n k : Nat) : (part f n k).length = n := by simp [part]
theorem part_zero (f : Nat → Nat) (n : Nat) : part f n 0 = List.replicate n 0 := by
  apply List.ext_getElem
  · simp [part]
  · intro i h1 h2
    simp [part]
theorem part_set (f : Nat → Nat) (n k : Nat) : (part f n k).set k (f k) = part f n (k + 1) := by
  apply List.ext_getElem
  · simp [part]
  · intro i h1 h2
    rw [List.getElem_set]
    simp only [part, List.getElem_map, List.getElem_range]
    by_cases e : k = i
    · subst e; simp
    · rw [if_neg e]
      by_cases h : i < k
      · rw [if_pos h, if_pos (by omega)]
      · rw [if_neg h, if_neg (by omega)]
theorem part_get (f : Nat → Nat) (n j : Nat) (h : j < n) : (part f n n).getD j 0 = f j := by simp [part, h]
theorem made_bytes {w : World} {B g n : Nat} (h : w.ownsRow B 5 1 (.slice (some ⟨g, 0, none⟩) n n) n (madeCells (Value.int .u8 0).cells (n * 1)).toList) : Own w B (.slice (some ⟨g, 0, none⟩) n n) (List.replicate n 0) := by
  have e : (madeCells (Value.int .u8 0).cells (n * 1)).toList = List.replicate n (Value.int .u8 0) := by
    rw [Nat.mul_one]; exact toList_madeCells_one (Value.int .u8 0) n
  rw [e] at h
  unfold Own
  simpa using h
theorem Own.cells_ {w : World} {B : Nat} {g n c : Nat} {xs : List Nat} (h : Own w B (.slice (some ⟨g, 0, none⟩) n c) xs) (hn : xs.length = n) (k : Nat) :
    (k < n → w.cell? ⟨g, k, none⟩ = some (.int .u8 ((xs.getD k 0 : Nat) : Int))) ∧ w.frozen? ⟨g, k, none⟩ = false := by
  subst hn
  unfold Own at h
  refine ⟨fun hk => ?_, World.ownsRow.frozenAt h k⟩
  rw [World.ownsRow.cellAt h k (by omega)]
  simp [hk]
theorem Own.stored' {w : World} {B : Nat} {g n c : Nat} {xs : List Nat} (h : Own w B (.slice (some ⟨g, 0, none⟩) n c) xs) (hn : xs.length = n) (k z : Nat) :
    Own (w.setCell ⟨g, k, none⟩ (.int .u8 (z : Int))) B (.slice (some ⟨g, 0, none⟩) n c) (xs.set k z) := by
  subst hn
  unfold Own at h ⊢
  have := (World.ownsRow.stored h k (.int .u8 (z : Int))).1
  simpa [List.map_set] using this
theorem Own.more {w : World} {B B' : Nat} {v : Value} {l : List Nat} (h : Own w B v l) (hb : B' ≤ B) : Own w B' v l := by
  unfold Own at h ⊢
  refine ⟨h.1, ?_⟩
  rcases h.2 with hn | ⟨g, cap, cur, hv, h1, r⟩
  · exact .inl hn
  · exact .inr ⟨g, cap, cur, hv, by omega, r⟩
theorem at_place {w : World} {A : Option Addr} {xs : List Nat} {n : Nat} (h : Rd w A xs) (hn : xs.length = n) (hb : ∀ x ∈ xs, x < 256) (k : Nat) (hk : k < n) :
    ∃ b off, A = some ⟨b, off, none⟩ ∧ w.cell? ⟨b, off + k, none⟩ = some (.int .u8 ((xs.getD k 0 : Nat) : Int)) ∧ xs.getD k 0 < 256 := by
  subst hn
  obtain ⟨b, off, e, hc⟩ := h (by intro e; rw [e] at hk; simp at hk)
  refine ⟨b, off, e, hc k hk, ?_⟩
  have : xs.getD k 0 = xs[k] := by simp [hk]
  rw [this]; exact hb _ (List.getElem_mem hk)
set_option maxHeartbeats 1600000 in
theorem scale_any (A : Option Addr) (n c q : Nat) (xs : List Nat) (w : World) (hA : Rd w A xs) (hn : xs.length = n) (hb : ∀ x ∈ xs, x < 256) (hq : q < 256) (h3 : n ≤ 1000000) :
    Calls Try.prog 15 #[.slice A n c, .int .u8 (q : Int)] w fun e w' => ∃ g, e = .returned (.slice (some ⟨g, 0, none⟩) n n) ∧ Own w' w.heap.size (.slice (some ⟨g, 0, none⟩) n n) (part (fun j => gmul (xs.getD j 0) q) n n) ∧ Below w.heap.size w w' := by
  obtain ⟨i0, hi, hz0, hz1, hz2⟩ := info_parts Try.info_u8'
  have HA := hide hA
  have HN := hide hn
  have HB := hide hb
  obtain ⟨f, hf⟩ : ∃ f : Nat → Nat, f = fun j => gmul (xs.getD j 0) q := ⟨_, rfl⟩
  rw [← hf]
  have HF := hide hf
  clear hA hn hb hf
  go_enter Try.func15, Try.ntmps15
  go_wp2_with (at_make; refine halt ?_)
  refine ⟨?_⟩
  refine wpList_make_full _ rfl (.tmp 9) (.tmp 9) 31 rfl w.heap.size 5 i0 (.int .u8 0) 1 Try.underlying31 hi hz0 hz1 .i64 .i64 n n n rfl rfl rfl rfl (by rw [hz2]; omega) (by unfold maxLen; omega) (Nat.le_refl _) ?_
  intro w2 h2 g2
  have o2 := made_bytes h2
  have b2 : Below w.heap.size w w2 := (Below.refl _ _).grown g2 (Nat.le_refl _) (by simp)
  clear h2 g2 hi hz0 hz1 hz2 i0
  obtain ⟨g, hg⟩ : ∃ g, g = w.heap.size := ⟨_, rfl⟩
  rw [← hg] at o2 ⊢
  have HG := hide hg
  clear hg
  go_wp2_with fail
  go_loopw [13] (fun i wr => ∃ k : Nat, k ≤ n ∧ i = .int .i64 (k : Int) ∧ Hid (Own wr g (.slice (some ⟨g, 0, none⟩) n n) (part f n k)) ∧ Hid (Below g w wr)) (fun i _ => n - (intOf i).toNat)
  case atStart => exact ⟨0, Nat.zero_le _, rfl, hide (by rw [part_zero]; exact o2), hide (by rw [HG.out]; exact b2)⟩
  case round =>
    obtain ⟨k, hk, rfl, hown, hbel⟩ := hrel
    by_cases hlt : k < n
    · obtain ⟨b', off', rfl, ck, hx⟩ := at_place (HA.out.below (w' := wr) (by rw [← HG.out]; exact hbel.out)) HN.out HB.out k hlt
      have hfk : f k = gmul (xs.getD k 0) q := by rw [HF.out]
      obtain ⟨x, hxe⟩ : ∃ x, x = xs.getD k 0 := ⟨_, rfl⟩
      rw [← hxe] at ck hx hfk
      have cs := hown.out.cells_ (part_len f n k) k
      have c1 := cs.1 hlt
      have c2 := cs.2
      have st := hown.out.stored' (part_len f n k) k (f k)
      rw [part_set, hfk] at st
      have ST := hide st
      have BL := hide (show Below g w (wr.setCell ⟨g, k, none⟩ (.int .u8 ((gmul x q : Nat) : Int))) from hbel.out.setCell (Nat.le_refl _) _)
      clear cs st hfk hxe hown hbel
      go_wp2_with fail
      refine (mul_any x q _ hx hq).mono ?_
      rintro e w1 ⟨rfl, rfl⟩
      go_wp2_with fail
      go_roundw
      case rel => exact ⟨k + 1, by omega, by go_num, ST, BL⟩
      case measure => simp [intOf]; omega
    · obtain rfl : k = n := by omega
      go_wp2_with fail
      go_ret
      exact ⟨_, rfl, hown.out.more (Nat.le_of_eq HG.out.symm), by rw [← HG.out]; exact hbel.out⟩
set_option maxHeartbeats 1600000 in
theorem add_any (A B : Option Addr) (n c d : Nat) (xs ys : List Nat) (w : World) (hA : Rd w A xs) (hB : Rd w B ys) (hn : xs.length = n) (hm : ys.length = n) (hb : ∀ x ∈ xs, x < 256) (hc : ∀ y ∈ ys, y < 256) (h3 : n ≤ 1000000) :
    Calls Try.prog 16 #[.slice A n c, .slice B n d] w fun e w' => ∃ g, e = .returned (.tuple #[.slice (some ⟨g, 0, none⟩) n n, .int .i64 0]) ∧ Own w' w.heap.size (.slice (some ⟨g, 0, none⟩) n n) (part (fun j => xs.getD j 0 ^^^ ys.getD j 0) n n) ∧ Below w.heap.size w w' := by
  obtain ⟨i0, hi, hz0, hz1, hz2⟩ := info_parts Try.info_u8'
  have HA := hide hA
  have HN := hide hn
  have HB := hide hb
  have HA2 := hide hB
  have HN2 := hide hm
  have HB2 := hide hc
  have hne0 : ((n : Int) != (n : Int)) = false := by simp
  obtain ⟨f, hf⟩ : ∃ f : Nat → Nat, f = fun j => xs.getD j 0 ^^^ ys.getD j 0 := ⟨_, rfl⟩
  rw [← hf]
  have HF := hide hf
  clear hA hn hb hf hB hm hc
  go_enter Try.func16, Try.ntmps16
  go_wp2_with (at_make; refine halt ?_)
  refine ⟨?_⟩
  refine wpList_make_full _ rfl (.tmp 15) (.tmp 15) 31 rfl w.heap.size 5 i0 (.int .u8 0) 1 Try.underlying31 hi hz0 hz1 .i64 .i64 n n n rfl rfl rfl rfl (by rw [hz2]; omega) (by unfold maxLen; omega) (Nat.le_refl _) ?_
  intro w2 h2 g2
  have o2 := made_bytes h2
  have b2 : Below w.heap.size w w2 := (Below.refl _ _).grown g2 (Nat.le_refl _) (by simp)
  clear h2 g2 hi hz0 hz1 hz2 i0
  obtain ⟨g, hg⟩ : ∃ g, g = w.heap.size := ⟨_, rfl⟩
  rw [← hg] at o2 ⊢
  have HG := hide hg
  clear hg
  go_wp2_with fail
  go_loopw [19] (fun i wr => ∃ k : Nat, k ≤ n ∧ i = .int .i64 (k : Int) ∧ Hid (Own wr g (.slice (some ⟨g, 0, none⟩) n n) (part f n k)) ∧ Hid (Below g w wr)) (fun i _ => n - (intOf i).toNat)
  case atStart => exact ⟨0, Nat.zero_le _, rfl, hide (by rw [part_zero]; exact o2), hide (by rw [HG.out]; exact b2)⟩
  case round =>
    obtain ⟨k, hk, rfl, hown, hbel⟩ := hrel
    by_cases hlt : k < n
    · obtain ⟨b', off', rfl, ck, hx⟩ := at_place (HA.out.below (w' := wr) (by rw [← HG.out]; exact hbel.out)) HN.out HB.out k hlt
      obtain ⟨b2', off2', rfl, ck2, hy⟩ := at_place (HA2.out.below (w' := wr) (by rw [← HG.out]; exact hbel.out)) HN2.out HB2.out k hlt
      have hfk : f k = xs.getD k 0 ^^^ ys.getD k 0 := by rw [HF.out]
      obtain ⟨x, hxe⟩ : ∃ x, x = xs.getD k 0 := ⟨_, rfl⟩
      obtain ⟨y, hye⟩ : ∃ y, y = ys.getD k 0 := ⟨_, rfl⟩
      rw [← hxe] at ck hx hfk
      rw [← hye] at ck2 hy hfk
      have hxy := u8_xor_nat x y hx hy
      obtain ⟨z, hze⟩ : ∃ z, z = x ^^^ y := ⟨_, rfl⟩
      rw [← hze] at hxy hfk
      have cs := hown.out.cells_ (part_len f n k) k
      have c1 := cs.1 hlt
      have c2 := cs.2
      have st := hown.out.stored' (part_len f n k) k (f k)
      rw [part_set, hfk] at st
      have ST := hide st
      have BL := hide (show Below g w (wr.setCell ⟨g, k, none⟩ (.int .u8 ((z : Nat) : Int))) from hbel.out.setCell (Nat.le_refl _) _)
      clear cs st hfk hxe hye hze hown hbel
      go_wp2_with fail
      go_roundw
      case rel => exact ⟨k + 1, by omega, by go_num, ST, BL⟩
      case measure => simp [intOf]; omega
    · obtain rfl : k = n := by omega
      go_wp2_with fail
      go_ret2
      exact ⟨_, rfl, hown.out.more (Nat.le_of_eq HG.out.symm), by rw [← HG.out]; exact hbel.out⟩
theorem add_unlike (A B : Option Addr) (n m c d : Nat) (w : World) (h : n ≠ m) :
    Calls Try.prog 16 #[.slice A n c, .slice B m d] w fun e w' => e = .returned (.tuple #[.slice none 0 0, .int .i64 1]) ∧ w = w' := by
  have hne0 : ((n : Int) != (m : Int)) = true := by simp; omega
  go_enter Try.func16, Try.ntmps16
  go_wp2_with fail
  go_ret2
  exact ⟨rfl, rfl⟩
/-- The sum of the first k products. -/
def dotS (xs ys : List Nat) : Nat → Nat
  | 0 => 0
  | k + 1 => dotS xs ys k ^^^ gmul (xs.getD k 0) (ys.getD k 0)
theorem getD_lt {xs : List Nat} (hb : ∀ x ∈ xs, x < 256) (k : Nat) : xs.getD k 0 < 256 := by
  by_cases h : k < xs.length
  · have : xs.getD k 0 = xs[k] := by simp [h]
    rw [this]; exact hb _ (List.getElem_mem h)
  · have : xs.getD k 0 = 0 := by simp [Nat.le_of_not_lt h]
    omega
theorem dotS_lt {xs ys : List Nat} (hb : ∀ x ∈ xs, x < 256) : ∀ k, dotS xs ys k < 256
  | 0 => by show 0 < 256; omega
  | k + 1 => xor_lt8 (dotS_lt hb k) (gmul_lt _ (getD_lt hb k))
set_option maxHeartbeats 1600000 in
theorem dot_any (A B : Option Addr) (n c d : Nat) (xs ys : List Nat) (w : World) (hA : Rd w A xs) (hB : Rd w B ys) (hn : xs.length = n) (hm : ys.length = n) (hb : ∀ x ∈ xs, x < 256) (hc : ∀ y ∈ ys, y < 256) (h3 : n ≤ 1000000) :
    Calls Try.prog 17 #[.slice A n c, .slice B n d] w fun e w' => e = .returned (.tuple #[.int .u8 (dotS xs ys n : Nat), .int .i64 0]) ∧ w = w' := by
  have HA := hide hA
  have HN := hide hn
  have HB := hide hb
  have HA2 := hide hB
  have HN2 := hide hm
  have HB2 := hide hc
  have hne0 : ((n : Int) != (n : Int)) = false := by simp
  clear hA hn hb hB hm hc
  go_enter Try.func17, Try.ntmps17
  go_wp2_with fail
  go_loop [6, 16] (fun s i => ∃ k : Nat, k ≤ n ∧ i = .int .i64 (k : Int) ∧ s = .int .u8 (dotS xs ys k : Nat)) (fun _ i => n - (intOf i).toNat)
  case atStart => exact ⟨0, Nat.zero_le _, rfl, rfl⟩
  case round =>
    obtain ⟨k, hk, rfl, rfl⟩ := hrel
    by_cases hlt : k < n
    · obtain ⟨b', off', rfl, ck, hx⟩ := at_place HA.out HN.out HB.out k hlt
      obtain ⟨b2', off2', rfl, ck2, hy⟩ := at_place HA2.out HN2.out HB2.out k hlt
      have hs := dotS_lt (ys := ys) HB.out k
      have hds : dotS xs ys (k + 1) = dotS xs ys k ^^^ gmul (xs.getD k 0) (ys.getD k 0) := rfl
      obtain ⟨x, hxe⟩ : ∃ x, x = xs.getD k 0 := ⟨_, rfl⟩
      obtain ⟨y, hye⟩ : ∃ y, y = ys.getD k 0 := ⟨_, rfl⟩
      obtain ⟨s, hse⟩ : ∃ s, s = dotS xs ys k := ⟨_, rfl⟩
      rw [← hxe] at ck hx hds
      rw [← hye] at ck2 hy hds
      rw [← hse] at hs hds ⊢
      have hxo := u8_xor_nat s (gmul x y) hs (gmul_lt y hx)
      rw [← hds] at hxo
      clear hds hxe hye hse
      go_wp2_with fail
      refine (mul_any x y _ hx hy).mono ?_
      rintro e w1 ⟨rfl, rfl⟩
      go_wp2_with fail
      go_round
      case rel => exact ⟨k + 1, by omega, by go_num, rfl⟩
      case measure => simp [intOf]; omega
    · obtain rfl : k = n := by omega
      go_wp2_with fail
      go_ret2
      exact ⟨rfl, rfl⟩
theorem dot_unlike (A B : Option Addr) (n m c d : Nat) (w : World) (h : n ≠ m) :
    Calls Try.prog 17 #[.slice A n c, .slice B m d] w fun e w' => e = .returned (.tuple #[.int .u8 0, .int .i64 1]) ∧ w = w' := by
  have hne0 : ((n : Int) != (m : Int)) = true := by simp; omega
  go_enter Try.func17, Try.ntmps17
  go_wp2_with fail
  go_ret2
  exact ⟨rfl, rfl⟩
set_option maxHeartbeats 1600000 in
theorem rdot_any (A B : Option Addr) (n c d : Nat) (xs ys : List Nat) (w : World) (hA : Rd w A xs) (hB : Rd w B ys) (hn : xs.length = n) (hm : ys.length = n) (hb : ∀ x ∈ xs, x < 256) (hc : ∀ y ∈ ys, y < 256) (h3 : n ≤ 1000000) :
    Calls Try.prog 18 #[.slice A n c, .slice B n d] w fun e w' => e = .returned (.tuple #[.int .u8 (dotS xs ys n : Nat), .int .i64 0]) ∧ ∃ q, w' = w.drewN q := by
  have HA := hide hA
  have HN := hide hn
  have HB := hide hb
  have HA2 := hide hB
  have HN2 := hide hm
  have HB2 := hide hc
  have hne0 : ((n : Int) != (n : Int)) = false := by simp
  clear hA hn hb hB hm hc
  go_enter Try.func18, Try.ntmps18
  go_wp2_with fail
  go_loopw [6, 7] (fun s i wr => ∃ k q : Nat, k ≤ n ∧ i = .int .i64 (k : Int) ∧ s = .int .u8 (dotS xs ys k : Nat) ∧ wr = w.drewN q) (fun _ i _ => n - (intOf i).toNat)
  case atStart => exact ⟨0, 0, Nat.zero_le _, rfl, rfl, rfl⟩
  case round =>
    obtain ⟨k, q, hk, rfl, rfl, rfl⟩ := hrel
    by_cases hlt : k < n
    · obtain ⟨b', off', rfl, ck, hx⟩ := at_place (HA.out.drewN q) HN.out HB.out k hlt
      obtain ⟨b2', off2', rfl, ck2, hy⟩ := at_place (HA2.out.drewN q) HN2.out HB2.out k hlt
      have hs := dotS_lt (ys := ys) HB.out k
      have hds : dotS xs ys (k + 1) = dotS xs ys k ^^^ gmul (xs.getD k 0) (ys.getD k 0) := rfl
      obtain ⟨x, hxe⟩ : ∃ x, x = xs.getD k 0 := ⟨_, rfl⟩
      obtain ⟨y, hye⟩ : ∃ y, y = ys.getD k 0 := ⟨_, rfl⟩
      obtain ⟨s, hse⟩ : ∃ s, s = dotS xs ys k := ⟨_, rfl⟩
      rw [← hxe] at ck hx hds
      rw [← hye] at ck2 hy hds
      rw [← hse] at hs hds ⊢
      have hxo := u8_xor_nat s (gmul x y) hs (gmul_lt y hx)
      rw [← hds] at hxo
      obtain ⟨W, hW⟩ : ∃ W, W = w.drewN q := ⟨_, rfl⟩
      rw [← hW] at ck ck2 ⊢
      have HW := hide hW
      clear hds hxe hye hse hW
      go_wp2_with fail
      go_quiet ((go_at_call 9; refine Calls.quiet_of (v := .int .u8 (gmul x y : Nat)) ?_; refine (rmul_any x y _ hx hy).mono ?_; rintro e w' ⟨rfl, rfl⟩; exact ⟨rfl, 0, rfl⟩))
      go_wp2_with fail
      go_roundw
      case rel => exact ⟨k + 1, q + _, by omega, by go_num, rfl, by rw [HW.out, World.drewN_drewN]⟩
      case measure => simp [intOf]; omega
    · obtain rfl : k = n := by omega
      go_wp2_with fail
      go_ret2
      exact ⟨rfl, _, rfl⟩
theorem rdot_unlike (A B : Option Addr) (n m c d : Nat) (w : World) (h : n ≠ m) :
    Calls Try.prog 18 #[.slice A n c, .slice B m d] w fun e w' => e = .returned (.tuple #[.int .u8 0, .int .i64 1]) ∧ w = w' := by
  have hne0 : ((n : Int) != (m : Int)) = true := by simp; omega
  go_enter Try.func18, Try.ntmps18
  go_wp2_with fail
  go_ret2
  exact ⟨rfl, rfl⟩
end Go.Proofs.Ytgmjicfmbljjkaa
