/- The contract of the document's own Unpack: any bytes are so many truths, or refused. Condition: there are at most 3000 bytes. -/
import Derived.Test.YtndkdfbcbofnkaaUnpackOk
namespace Go.Proofs.Ytndkdfbcbofnkaa
open Go.RowKit
set_option maxHeartbeats 400000 in
theorem runpack_neg (A : Option Addr) (len c : Nat) (n : Int) (w : World) (hn : n < 0) :
    Calls Try.prog 38 #[.slice A len c, .int .i64 n] w fun e w' => e = .returned (.tuple #[.slice none 0 0, .int .i64 1]) ∧ w = w' := by
  go_enter Try.func38, Try.ntmps38
  go_wp2_with fail
  go_ret2
  exact ⟨rfl, rfl⟩
/-- How many bytes are needed, as the text reckons it. -/
theorem need_cases (n : Nat) : ((((n : Int) % 8) != 0) = false ∧ need n = n / 8) ∨ ((((n : Int) % 8) != 0) = true ∧ need n = n / 8 + 1) := by
  unfold need
  by_cases h : n % 8 = 0
  · left; rw [if_pos h]; exact ⟨by simp; omega, rfl⟩
  · right; rw [if_neg h]; exact ⟨by simp; omega, rfl⟩
set_option maxHeartbeats 400000 in
theorem runpack_short (A : Option Addr) (len c n : Nat) (w : World) (_hn : n < 9223372036854775808) (h : len < need n) (_hl : len ≤ 3000) :
    Calls Try.prog 38 #[.slice A len c, .int .i64 (n : Int)] w fun e w' => e = .returned (.tuple #[.slice none 0 0, .int .i64 2]) ∧ w = w' := by
  rcases need_cases n with ⟨hc, e⟩ | ⟨hc, e⟩
  all_goals
    rw [e] at h
    clear e
    go_enter Try.func38, Try.ntmps38
    go_wp2_with fail
    go_ret2
    exact ⟨rfl, rfl⟩
set_option maxHeartbeats 400000 in
theorem runpack_long (A : Option Addr) (len c n : Nat) (w : World) (_hn : n < 9223372036854775808) (h : need n < len) (_hl : len ≤ 3000) :
    Calls Try.prog 38 #[.slice A len c, .int .i64 (n : Int)] w fun e w' => e = .returned (.tuple #[.slice none 0 0, .int .i64 3]) ∧ w = w' := by
  rcases need_cases n with ⟨hc, e⟩ | ⟨hc, e⟩
  all_goals
    rw [e] at h
    clear e
    go_enter Try.func38, Try.ntmps38
    go_wp2_with fail
    go_ret2
    exact ⟨rfl, rfl⟩
def UnpPost (xs : List Nat) (n : Nat) (w : World) (e : Ending) (w' : World) : Prop :=
  ∃ v E L, e = .returned (.tuple #[v, .int .i64 ((E : Nat) : Int)]) ∧ ((left xs n ∧ E = 3 ∧ L = []) ∨ (¬ left xs n ∧ E = 0 ∧ L = bitsOf xs n)) ∧ BOwn w' w.heap.size v L ∧ Below w.heap.size w w'
theorem bitsOf_succ (xs : List Nat) (k : Nat) : bitsOf xs (k + 1) = bitsOf xs k ++ [bitAt xs k] := by unfold bitsOf; rw [List.range_succ, List.map_append]; rfl
def UnpRel (xs : List Nat) (n k : Nat) : Prop := ∀ j, n ≤ j → j < k → bitAt xs j = false
set_option maxHeartbeats 1600000 in
theorem runpack_main (A : Option Addr) (len c n : Nat) (xs : List Nat) (w : World) (hA : Rd w A xs) (hb : ∀ x ∈ xs, x < 256) (hx : xs.length = len) (h : len = need n) (hl : len ≤ 3000) :
    Calls Try.prog 38 #[.slice A len c, .int .i64 (n : Int)] w (UnpPost xs n w) := by
  have HA := hide hA
  have HB := hide hb
  have HX := hide hx
  have hn24 : n ≤ 24000 := by have := need_eq n; omega
  have hn8 : n ≤ 8 * len := by have := need_eq n; omega
  clear hA hb hx
  rcases need_cases n with ⟨hc, e⟩ | ⟨hc, e⟩
  all_goals
    rw [e] at h
    have hle1 := Nat.le_of_eq h
    have hge1 := Nat.le_of_eq h.symm
    clear e h
    go_enter Try.func38, Try.ntmps38
    go_wp2
    go_loopw [7, 8] (fun v i wr => ∃ k : Nat, k ≤ 8 * len ∧ i = .int .i64 (k : Int) ∧ Hid (BOwn wr w.heap.size v (bitsOf xs (min k n))) ∧ Below w.heap.size w wr ∧ Hid (UnpRel xs n k)) (fun _ i _ => 8 * len - (intOf i).toNat)
    case atStart => exact ⟨0, Nat.zero_le _, rfl, hide (by rw [Nat.zero_min]; exact BOwn.nil _ _), Below.refl _ _, hide (fun j _ h => absurd h (Nat.not_lt_zero _))⟩
    case round =>
      obtain ⟨k, hk, rfl, hown, hbel, hrel⟩ := hrel
      by_cases hlt : k < 8 * len
      · have hk8 : k / 8 < len := by omega
        obtain ⟨b, off, e, hcell⟩ := HA.out.below hbel (by intro e; have := HX.out; rw [e] at this; simp at this; omega)
        obtain ⟨y, cy, ly, ey⟩ := rd_at hcell HB.out (k / 8) (by rw [HX.out]; exact hk8)
        obtain ⟨t, ht⟩ : ∃ t, t = bitAt xs k := ⟨_, rfl⟩
        have hb1 := bit_and y (k % 8) ly t (by rw [ht, ey]; rfl)
        have HT := hide ht
        have hsz := hbel.size
        clear hcell ht ey
        cases e
        by_cases hkn : k < n
        · have hmin : min k n = k := by omega
          have hmin2 : min (k + 1) n = k + 1 := by omega
          have ho := hown.out
          rw [hmin] at ho
          have HO := hide ho
          have REL : Hid (UnpRel xs n (k + 1)) := hide (fun j h1 h2 => by omega)
          clear ho hown hrel hmin
          cases t
          · replace hb1 : bits .and .u8 ((y : Int) / 2 ^ (k % 8)) 1 = 0 := hb1
            go_wp2_with (at_builtin; refine halt ?_)
            refine ⟨?_⟩
            refine wpList_append_bool rfl (.tmp 48) (.tmp 50) rfl w.heap.size _ (bitsOf xs k) rfl (HO.out.keep ((Below.refl _ _).alloc (Nat.le_refl _) _)) wr.heap.size false rfl (by simp) (by rw [bitsOf_len]; omega) (by simp; omega) ?_
            intro v2 w2 o2 k2
            have bel2 := (hbel.alloc hsz (.cells #[.bool false] 4)).trans k2
            rw [HT.out, ← bitsOf_succ, ← hmin2] at o2
            have O2 := hide o2
            clear o2 k2 HO hmin2
            go_wp2
            go_roundw
            case rel => exact ⟨k + 1, by omega, by go_num, O2, bel2, REL⟩
            case measure => simp [intOf]; omega
          · replace hb1 : bits .and .u8 ((y : Int) / 2 ^ (k % 8)) 1 = 1 := hb1
            go_wp2_with (at_builtin; refine halt ?_)
            refine ⟨?_⟩
            refine wpList_append_bool rfl (.tmp 48) (.tmp 50) rfl w.heap.size _ (bitsOf xs k) rfl (HO.out.keep ((Below.refl _ _).alloc (Nat.le_refl _) _)) wr.heap.size true rfl (by simp) (by rw [bitsOf_len]; omega) (by simp; omega) ?_
            intro v2 w2 o2 k2
            have bel2 := (hbel.alloc hsz (.cells #[.bool true] 4)).trans k2
            rw [HT.out, ← bitsOf_succ, ← hmin2] at o2
            have O2 := hide o2
            clear o2 k2 HO hmin2
            go_wp2
            go_roundw
            case rel => exact ⟨k + 1, by omega, by go_num, O2, bel2, REL⟩
            case measure => simp [intOf]; omega
        · have hmin : min k n = min (k + 1) n := by omega
          have ho := hown.out
          rw [hmin] at ho
          have HO := hide ho
          clear ho hown hmin
          cases t
          · replace hb1 : bits .and .u8 ((y : Int) / 2 ^ (k % 8)) 1 = 0 := hb1
            have REL : Hid (UnpRel xs n (k + 1)) := hide (fun j h1 h2 => by
              rcases Nat.lt_or_ge j k with h | h
              · exact hrel.out j h1 h
              · have : j = k := by omega
                rw [this]; exact HT.out.symm)
            clear hrel
            go_wp2
            all_goals go_roundw
            all_goals first | exact ⟨k + 1, by omega, by go_num, HO, hbel, REL⟩ | (simp [intOf]; omega)
          · replace hb1 : bits .and .u8 ((y : Int) / 2 ^ (k % 8)) 1 = 1 := hb1
            have LEFT := hide (show left xs n from ⟨k, by omega, by rw [HX.out]; exact hlt, HT.out.symm⟩)
            clear hrel
            go_wp2
            all_goals go_ret2
            all_goals exact ⟨_, 3, [], rfl, .inl ⟨LEFT.out, rfl, rfl⟩, BOwn.nil _ _, hbel⟩
      · have hmin : min k n = n := by omega
        have ho := hown.out
        rw [hmin] at ho
        have HO := hide ho
        have NLEFT : Hid (¬ left xs n) := hide (by
          rintro ⟨i, h1, h2, h3⟩
          rw [HX.out] at h2
          rw [hrel.out i h1 (by omega)] at h3
          cases h3)
        clear ho hown hrel hmin
        go_wp2
        go_ret2
        exact ⟨_, 0, _, rfl, .inr ⟨NLEFT.out, rfl, rfl⟩, HO.out, hbel⟩
/-- Any bytes are so many truths, or refused: each in just one way. -/
theorem unp_some (xs : List Nat) (n : Int) : ∃ E L, Unp xs n E L := by
  by_cases h0 : n < 0
  · exact ⟨1, [], .inl ⟨h0, rfl, rfl⟩⟩
  · rcases Nat.lt_trichotomy xs.length (need n.toNat) with h | h | h
    · exact ⟨2, [], .inr (.inl ⟨by omega, h, rfl, rfl⟩)⟩
    · by_cases hl : left xs n.toNat
      · exact ⟨3, [], .inr (.inr (.inr (.inl ⟨by omega, h, hl, rfl, rfl⟩)))⟩
      · exact ⟨0, _, .inr (.inr (.inr (.inr ⟨by omega, h, hl, rfl, rfl⟩)))⟩
    · exact ⟨3, [], .inr (.inr (.inl ⟨by omega, h, rfl, rfl⟩))⟩
theorem runpack_any (A : Option Addr) (len c : Nat) (n : Int) (xs : List Nat) (w : World) (hA : Rd w A xs) (hx : xs.length = len) (hb : ∀ x ∈ xs, x < 256) (hn : n ≤ 9223372036854775807) (hl : len ≤ 3000) (E : Nat) (L : List Bool) (hu : Unp xs n E L) :
    Calls Try.prog 38 #[.slice A len c, .int .i64 n] w fun e w' => ∃ v, e = .returned (.tuple #[v, .int .i64 (E : Nat)]) ∧ BOwn w' w.heap.size v L ∧ Below w.heap.size w w' := by
  rcases hu with ⟨h, rfl, rfl⟩ | ⟨h0, h, rfl, rfl⟩ | ⟨h0, h, rfl, rfl⟩ | ⟨h0, h, h2, rfl, rfl⟩ | ⟨h0, h, h2, rfl, rfl⟩
  · exact (runpack_neg A _ c n w h).mono fun _ _ ⟨he, hw⟩ => ⟨_, he, BOwn.nil _ _, by rw [← hw]; exact Below.refl _ _⟩
  all_goals
    obtain ⟨N, rfl⟩ := Int.eq_ofNat_of_zero_le h0
    simp only [Int.toNat_natCast] at h
    rw [hx] at h
  · exact (runpack_short A _ c N w (by omega) h hl).mono fun _ _ ⟨he, hw⟩ => ⟨_, he, BOwn.nil _ _, by rw [← hw]; exact Below.refl _ _⟩
  · exact (runpack_long A _ c N w (by omega) h hl).mono fun _ _ ⟨he, hw⟩ => ⟨_, he, BOwn.nil _ _, by rw [← hw]; exact Below.refl _ _⟩
  all_goals
    simp only [Int.toNat_natCast] at h2 ⊢
    refine (runpack_main A len c N xs w hA hb hx h hl).mono ?_
    rintro e w' ⟨v, E, L, rfl, hE, ho, hb'⟩
    rcases hE with ⟨h3, rfl, rfl⟩ | ⟨h3, rfl, rfl⟩
    · first | exact absurd h3 h2 | exact ⟨v, rfl, ho, hb'⟩
    · first | exact absurd h2 h3 | exact ⟨v, rfl, ho, hb'⟩
end Go.Proofs.Ytndkdfbcbofnkaa
