/- The contract of bits.Unpack where it tells truths: as many bytes as are needed, and no digit left over. Condition: there are at most 3000 bytes. -/
import Derived.Test.YtndkdfbcbofnkaaUnpack
namespace Go.Proofs.Ytndkdfbcbofnkaa
open Go.RowKit
theorem made_own {w : World} {B g n : Nat} (h : w.ownsRow B 4 1 (.slice (some ⟨g, 0, none⟩) n n) n (madeCells (Value.bool false).cells (n * 1)).toList) : BOwn w B (.slice (some ⟨g, 0, none⟩) n n) (List.replicate n false) := by
  have e : (madeCells (Value.bool false).cells (n * 1)).toList = List.replicate n (Value.bool false) := by
    rw [Nat.mul_one]; exact toList_madeCells_one (Value.bool false) n
  rw [e] at h
  unfold BOwn
  simpa using h
def filled (l : List Bool) (n k : Nat) : List Bool := l.take k ++ List.replicate (n - k) false
set_option maxHeartbeats 1600000 in
theorem unpack_ok (A : Option Addr) (c n : Nat) (xs : List Nat) (w : World) (hA : Rd w A xs) (hb : ∀ x ∈ xs, x < 256) (hn : n < 9223372036854775808) (h : xs.length = need n) (hl : xs.length ≤ 3000) (hleft : ¬ left xs n) :
    Calls Try.prog 37 #[.slice A (need n) c, .int .i64 (n : Int)] w fun e w' => ∃ v, e = .returned (.tuple #[v, .int .i64 0]) ∧ BOwn w' w.heap.size v (bitsOf xs n) ∧ Below w.heap.size w w' := by
  obtain ⟨i0, hi, hz0, hz1, hz2⟩ := info_parts Try.info_bool
  have ha := and7 n hn
  have hq := fun hr => mt (left_last xs n hb h hr).2 hleft
  have HN := hide hn
  have hn24 : n ≤ 24000 := by have := need_eq n; omega
  have HA := hide hA
  have HB := hide hb
  have HLEN := hide h
  obtain ⟨L, hL⟩ : ∃ L, L = bitsOf xs n := ⟨_, rfl⟩
  have hLl : L.length = n := by rw [hL]; exact bitsOf_len xs n
  have HL := hide hL
  have HLL := hide hLl
  rw [← hL]
  clear hL hLl
  have cases2 : (((n % 8 : Nat) : Int) != 0) = false ∨ ∃ b off x, A = some ⟨b, off, none⟩ ∧ (((n % 8 : Nat) : Int) != 0) = true ∧ w.cell? ⟨b, off + (need n - 1), none⟩ = some (.int .u8 (x : Nat)) ∧ x < 256 ∧ ((((x : Nat) : Int) / 2 ^ (n % 8)) != 0) = false ∧ 1 ≤ need n := by
    by_cases hr : n % 8 = 0
    · left; rw [hr]; rfl
    · right
      have hn1 : need n = n / 8 + 1 := by unfold need; rw [if_neg hr]
      obtain ⟨b, off, rfl, hcell⟩ := hA (by intro e; rw [e] at h; simp at h; omega)
      obtain ⟨x, cx, lx, ex⟩ := rd_at hcell hb (need n - 1) (by omega)
      have hq1 := hq hr
      rw [← ex] at hq1
      refine ⟨b, off, x, rfl, by simp; omega, cx, lx, ?_, by omega⟩
      have e : ((x : Int) / 2 ^ (n % 8)) = ((x / 2 ^ (n % 8) : Nat) : Int) := by simp
      have e2 : x / 2 ^ (n % 8) = 0 := Decidable.not_not.1 hq1
      rw [e, e2]
      rfl
  obtain ⟨m, hm⟩ : ∃ m, m = need n := ⟨_, rfl⟩
  have hm3 : m ≤ 3000 := by omega
  rw [← hm] at cases2 ⊢
  have HM := hide hm
  obtain ⟨r, hre⟩ : ∃ r, r = n % 8 := ⟨_, rfl⟩
  have hr8 : r < 8 := by omega
  rw [← hre] at ha cases2
  clear hn hm h hleft hre hq hA hb hl
  rcases cases2 with hr0 | ⟨b, off, x, rfl, hr0, cx, lx, hq0, hm1⟩
  all_goals
    go_enter Try.func37, Try.ntmps37
    go_wp2_with fail
    refine (bytesOf_any n _ HN.out).mono ?_
    rintro e w1 ⟨rfl, rfl⟩
    rw [← HM.out]
    go_wp2_with (at_make; refine halt ?_)
    refine ⟨?_⟩
    refine wpList_make_full _ rfl (.tmp 37) (.tmp 37) 51 rfl w.heap.size 4 i0 (.bool false) 1 Try.underlying51 hi hz0 hz1 .i64 .i64 n n n rfl rfl rfl rfl (by rw [hz2]; omega) (by unfold maxLen; omega) (Nat.le_refl _) ?_
    intro w2 h2 g2
    have o2 := made_own h2
    have b2 : Below w.heap.size w w2 := (Below.refl _ _).grown g2 (Nat.le_refl _) (by simp)
    have s2 : w.heap.size < w2.heap.size := by
      rcases Nat.eq_zero_or_pos n with h0 | h0
      · obtain ⟨g, cap, cur, hv, hb, hh, _⟩ : ∃ g cap cur, Value.slice (some ⟨w.heap.size, 0, none⟩) n n = .slice (some ⟨g, 0, none⟩) n cap ∧ w.heap.size ≤ g ∧ w2.heap[g]? = some (.cells cur 4 (0, 0)) ∧ True := by
          rcases h2.2 with ⟨hh, _⟩ | ⟨g, cap, cur, hv, hb, hh, _⟩
          · cases hh
          · exact ⟨g, cap, cur, hv, hb, hh, trivial⟩
        rcases Nat.lt_or_ge g w2.heap.size with hlt | hge
        · omega
        · rw [Array.getElem?_eq_none hge] at hh; cases hh
      · exact cell_lt ((o2.cells (by simp) 0).1 h0)
    clear h2 g2
    obtain ⟨g, hg⟩ : ∃ g, g = w.heap.size := ⟨_, rfl⟩
    rw [← hg] at o2 s2 ⊢
    have HG := hide hg
    clear hg
    go_wp2
    go_loopw [41] (fun i wr => ∃ k : Nat, k ≤ n ∧ i = .int .i64 (k : Int) ∧ Hid (BOwn wr g (.slice (some ⟨g, 0, none⟩) n n) (filled L n k)) ∧ Below g w wr) (fun i _ => n - (intOf i).toNat)
    case atStart => exact ⟨0, Nat.zero_le _, rfl, hide (by simpa [filled] using o2), by rw [HG.out]; exact b2⟩
    case round =>
      obtain ⟨k, hk, rfl, hown, hbel⟩ := hrel
      by_cases hlt : k < n
      · have hlen : k / 8 < xs.length := by
          have h1 := HLEN.out
          have h2 := need_eq n
          omega
        have hkm : k / 8 < m := by rw [HM.out, ← HLEN.out]; exact hlen
        obtain ⟨b', off', e, hcell⟩ := HA.out.below (w' := wr) (by rw [← HG.out]; exact hbel) (by intro e; rw [e] at hlen; simp at hlen)
        obtain ⟨y, cy, ly, ey⟩ := rd_at hcell HB.out (k / 8) hlen
        have hk7 := and7 k (by omega)
        have hbit := fun t (ht : y.testBit (k % 8) = t) => bit_and y (k % 8) ly t ht
        obtain ⟨r', hr'⟩ : ∃ r', r' = k % 8 := ⟨_, rfl⟩
        have hr8' : r' < 8 := by omega
        rw [← hr'] at hk7 hbit
        obtain ⟨t, ht⟩ : ∃ t, t = L.getD k false := ⟨_, rfl⟩
        have ht2 : y.testBit r' = t := by
          rw [ht, HL.out, bitsOf_get xs n k hlt, ey, hr']
          rfl
        have hb1 := hbit t ht2
        have hfl := fill_len L n k HLL.out hk
        have cs := hown.out.cells hfl k
        have c1 := cs.1 hlt
        have c2 := cs.2
        have st := hown.out.stored hfl k t
        have hfs := fill_set L n k HLL.out hlt
        rw [← ht] at hfs
        have st2 : BOwn (wr.setCell ⟨g, k, none⟩ (.bool t)) g (.slice (some ⟨g, 0, none⟩) n n) (filled L n (k + 1)) := by
          unfold filled
          rw [← hfs]
          exact st
        have ST := hide st2
        have bel2 : Below g w (wr.setCell ⟨g, k, none⟩ (.bool t)) := hbel.setCell (Nat.le_refl _) _
        clear hcell hbit hr' ht ht2 st hfs st2 cs hfl hlen hown hbel ey
        cases e
        cases t
        · replace hb1 : bits .and .u8 ((y : Int) / 2 ^ r') 1 = 0 := hb1
          go_wp2
          go_roundw
          case rel => exact ⟨k + 1, by omega, by go_num, ST, bel2⟩
          case measure => simp [intOf]; omega
        · replace hb1 : bits .and .u8 ((y : Int) / 2 ^ r') 1 = 1 := hb1
          go_wp2
          go_roundw
          case rel => exact ⟨k + 1, by omega, by go_num, ST, bel2⟩
          case measure => simp [intOf]; omega
      · obtain rfl : k = n := by omega
        have hf : filled L k k = L := by
          unfold filled
          rw [Nat.sub_self, List.take_of_length_le (by rw [HLL.out]; exact Nat.le_refl _)]
          simp
        have ho := hown.out
        rw [hf] at ho
        have HO := hide ho
        clear hf hown ho
        go_wp2
        go_ret2
        exact ⟨_, rfl, HO.out.more (Nat.le_of_eq HG.out.symm), by rw [← HG.out]; exact hbel⟩
/-- Unpack says what it says, whatever it was asked. -/
theorem unpack_any (A : Option Addr) (len c : Nat) (n : Int) (xs : List Nat) (w : World) (hA : Rd w A xs) (hx : xs.length = len) (hb : ∀ x ∈ xs, x < 256) (hn : n ≤ 9223372036854775807) (hl : len ≤ 3000) (E : Nat) (L : List Bool) (hu : Unp xs n E L) :
    Calls Try.prog 37 #[.slice A len c, .int .i64 n] w fun e w' => ∃ v, e = .returned (.tuple #[v, .int .i64 (E : Nat)]) ∧ BOwn w' w.heap.size v L ∧ Below w.heap.size w w' := by
  subst hx
  rcases hu with ⟨h, rfl, rfl⟩ | ⟨h0, h, rfl, rfl⟩ | ⟨h0, h, rfl, rfl⟩ | ⟨h0, h, h2, rfl, rfl⟩ | ⟨h0, h, h2, rfl, rfl⟩
  · exact (unpack_neg A _ c n w h).mono fun _ _ ⟨he, hw⟩ => ⟨_, he, BOwn.nil _ _, by rw [← hw]; exact Below.refl _ _⟩
  all_goals
    obtain ⟨N, rfl⟩ := Int.eq_ofNat_of_zero_le h0
    simp only [Int.toNat_natCast] at h
  · exact (unpack_short A _ c N w (by omega) h hl).mono fun _ _ ⟨he, hw⟩ => ⟨_, he, BOwn.nil _ _, by rw [← hw]; exact Below.refl _ _⟩
  · exact (unpack_long A _ c N w (by omega) h hl).mono fun _ _ ⟨he, hw⟩ => ⟨_, he, BOwn.nil _ _, by rw [← hw]; exact Below.refl _ _⟩
  · simp only [Int.toNat_natCast] at h2
    have := unpack_left A c N xs w hA hb (by omega) h hl h2
    rw [← h] at this
    exact this.mono fun _ _ ⟨he, hw⟩ => ⟨_, he, BOwn.nil _ _, by rw [← hw]; exact Below.refl _ _⟩
  · simp only [Int.toNat_natCast] at h2 ⊢
    have := unpack_ok A c N xs w hA hb (by omega) h hl h2
    rw [← h] at this
    exact this
end Go.Proofs.Ytndkdfbcbofnkaa
