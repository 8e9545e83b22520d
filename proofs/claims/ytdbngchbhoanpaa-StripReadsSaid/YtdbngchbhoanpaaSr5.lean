/- Bytes that a slice holds. No condition. Bytes by their digits: what the walks of products lean on. It names nothing of the program. The contracts of the library's OnesCount and of a set's count, for sets of fewer than 15 rows. The contract of gf.Mul: the product of the field. No condition but the widths. The contracts of gf's powers and of gf.Inv. No condition but the widths. The contracts of bits.Uvarint and of the document's own: a number as bytes of seven digits. Condition: the number has 64 digits. -/
import Derived.Test.YtdbngchbhoanpaaSr2
import Derived.WalkSpells
import Derived.WalkLawsBesides
import Derived.Deep.QuietTactic
import Derived.BigQuiet
import Derived.Test.YtdbngchbhoanpaaSr3
import Derived.Test.YtdbngchbhoanpaaSr1
import Derived.Laws.Bits128
namespace Go.Proofs.Ytdbngchbhoanpaa
open Go.RowKit
/-- The slice at A reads as these bytes. -/
def Rd (w : World) (A : Option Addr) (xs : List Nat) : Prop :=
  xs ≠ [] → ∃ b off, A = some ⟨b, off, none⟩ ∧ ∀ i, i < xs.length → w.cell? ⟨b, off + i, none⟩ = some (.int .u8 ((xs.getD i 0 : Nat) : Int))
theorem cell_lt {w : World} {a : Addr} {v : Value} (h : w.cell? a = some v) : a.block < w.heap.size := by
  rcases Nat.lt_or_ge a.block w.heap.size with hlt | hge
  · exact hlt
  · simp [World.cell?, Array.getElem?_eq_none hge] at h
theorem Rd.keep {w w' : World} {A : Option Addr} {xs : List Nat} (h : Rd w A xs) (hk : ∀ a v, w.cell? a = some v → w'.cell? a = some v) : Rd w' A xs := by
  intro hne
  obtain ⟨b, off, e, hc⟩ := h hne
  exact ⟨b, off, e, fun i hi => hk _ _ (hc i hi)⟩
theorem Rd.below {w w' : World} {A : Option Addr} {xs : List Nat} (h : Rd w A xs) (hb : Below w.heap.size w w') : Rd w' A xs :=
  h.keep fun _ _ hc => (hb.cell (cell_lt hc)).trans hc
theorem Rd.drewN {w : World} {A : Option Addr} {xs : List Nat} (h : Rd w A xs) (n : Nat) : Rd (w.drewN n) A xs := h
theorem below_drewN {B : Nat} {a w : World} (h : Below B a w) (n : Nat) : Below B a (w.drewN n) := ⟨h.os, h.tape, h.output, h.size, h.block⟩
/-- A slice of the call's own that holds these bytes. -/
def Own (w : World) (B : Nat) (v : Value) (xs : List Nat) : Prop := w.ownsRow B 5 1 v xs.length (xs.map fun x : Nat => Value.int .u8 (x : Int))
theorem own_push {w : World} {B : Nat} {v : Value} {xs : List Nat} {x : Nat} (h : w.ownsRow B 5 1 v (xs.length + 1) ((xs.map fun x : Nat => Value.int .u8 (x : Int)) ++ [.int .u8 (x : Int)])) : Own w B v (xs ++ [x]) := by
  unfold Own
  simpa using h
theorem push_below {w wr w1 : World} {B e s n : Nat} {v : Value} {l : List Value} {o : Obj} (hbel : Below B w wr) (hB : B ≤ wr.heap.size) (hown : wr.ownsRow B e s v n l)
    (hg : (wr.alloc o).grownBy w1 v.ownBlock) : Below B w w1 :=
  (hbel.alloc hB o).grown hg (by simp; omega) (fun k hk => (hown.lt k hk).1)
theorem one_cell_int (k : IntKind) (n : Int) : ∀ u ∈ [Value.int k n], u.oneCell' = true := by
  intro u hu; simp at hu; subst hu; rfl
theorem one_at (w : World) (v : Value) (e : TypeId) : ∀ j u, [v][j]? = some u → (w.alloc (.cells #[v] e)).cell? ((⟨w.heap.size, 0, none⟩ : Addr).add j) = some u := by
  intro j u hj
  match j, hj with
  | 0, hj => simp at hj; subst hj; simp [Addr.add]
/-- Such a slice reads as its bytes. -/
theorem Own.form {w : World} {B : Nat} {v : Value} {xs : List Nat} (h : Own w B v xs) : ∃ A c, v = .slice A xs.length c ∧ Rd w A xs := by
  unfold Own at h
  rcases h.2 with ⟨rfl, hn⟩ | ⟨g, cap, cur, rfl, _, _⟩
  · refine ⟨none, 0, by rw [hn], fun hne => ?_⟩
    exact absurd (List.eq_nil_of_length_eq_zero hn) hne
  · refine ⟨_, _, rfl, fun _ => ⟨g, 0, rfl, fun i hi => ?_⟩⟩
    rw [Nat.zero_add, h.cellAt i (by omega)]
    simp [hi]
theorem Own.len {w : World} {B : Nat} {v : Value} {xs : List Nat} (h : Own w B v xs) : xs.length ≤ 9223372036854775807 := by
  unfold Own at h
  rcases h.2 with ⟨rfl, hn⟩ | ⟨g, cap, cur, rfl, _, _, h1, h2, _⟩
  · omega
  · unfold maxLen at h2; omega
theorem Own.keep {w w' : World} {B : Nat} {v : Value} {xs : List Nat} (h : Own w B v xs) (hb : Below w.heap.size w w') : Own w' B v xs := by
  unfold Own at h ⊢
  refine ⟨h.1, ?_⟩
  rcases h.2 with hn | ⟨g, cap, cur, hv, h1, h2, r⟩
  · exact .inl hn
  · refine .inr ⟨g, cap, cur, hv, h1, ?_, r⟩
    rw [hb.block g ?_]
    · exact h2
    · exact (h.lt g (by rw [hv]; rfl)).2
theorem Own.drewN {w : World} {B : Nat} {v : Value} {xs : List Nat} (h : Own w B v xs) (n : Nat) : Own (w.drewN n) B v xs := h
/-- A block that has just been laid reads as its bytes. -/
theorem rd_new (w : World) (cs : Array Value) (e : TypeId) (fr : Nat × Nat) (xs : List Nat) (b : Nat) (hb : b = w.heap.size) (h : cs.toList = xs.map fun x : Nat => Value.int .u8 (x : Int)) : Rd (w.alloc (.cells cs e fr)) (some ⟨b, 0, none⟩) xs := by
  subst hb
  intro _
  refine ⟨_, 0, rfl, fun i hi => ?_⟩
  have hc : cs[i]? = some (Value.int .u8 ((xs.getD i 0 : Nat) : Int)) := by
    rw [← Array.getElem?_toList, h]
    simp [hi]
  rw [Nat.zero_add, ← hc]
  exact cell_of_row _ _ _ _ _ fr (heap_alloc_new w _)
end Go.Proofs.Ytdbngchbhoanpaa
namespace Go.Proofs.Ytdbngchbhoanpaa
open Go.RowKit
theorem and_one8 (y : Nat) (hy : y < 256) : bits .and .u8 (y : Int) 1 = ((y % 2 : Nat) : Int) := by
  rw [u8_and _ _ (by omega) (by omega) (by decide) (by decide)]
  have : (1 : Int).toNat = 1 := rfl
  rw [this, nat_mask1, Int.toNat_natCast]
theorem and_none8 (x : Nat) (hx : x < 256) : bits .and .u8 (x : Int) 0 = 0 := by
  rw [u8_and _ _ (by omega) (by omega) (by decide) (by decide)]
  simp
theorem and_all8 (x : Nat) (hx : x < 256) : bits .and .u8 (x : Int) 255 = (x : Int) := by
  rw [u8_and _ _ (by omega) (by omega) (by decide) (by decide)]
  have : (255 : Int).toNat = 2 ^ 8 - 1 := rfl
  rw [this, Nat.and_two_pow_sub_one_eq_mod, Int.toNat_natCast, Nat.mod_eq_of_lt (by simpa using hx)]
theorem xor_none8 (x : Nat) (hx : x < 256) : bits .xor .u8 (x : Int) 0 = (x : Int) := by
  have := u8_xor_nat x 0 hx (by decide)
  simpa using this
theorem low_none : bits .and .u8 29 0 = 0 := by decide +kernel
theorem low_all : bits .and .u8 29 255 = 29 := by decide +kernel
theorem xt_low : ∀ x < 128, x * 2 = xt x := by decide +kernel
theorem xt_high : ∀ x < 256, ¬ x < 128 → (x * 2 % 256) ^^^ 29 = xt x := by decide +kernel
theorem xt_walk0 {x : Nat} (h : x < 128) : bits .xor .u8 ((x : Int) * 2) 0 = ((xt x : Nat) : Int) := by
  rw [← xt_low x h]
  have e : (x : Int) * 2 = ((x * 2 : Nat) : Int) := by omega
  rw [e]
  exact xor_none8 _ (by omega)
theorem xt_walk1 {x : Nat} (hx : x < 256) (h : ¬ x < 128) : bits .xor .u8 ((x : Int) * 2 % 256) 29 = ((xt x : Nat) : Int) := by
  rw [← xt_high x hx h, ← u8_xor_nat _ 29 (by omega) (by decide)]
  congr 1
theorem gm_step {k a b : Nat} {y : Nat} (hy : y = b / 2 ^ k) : gm (k + 1) a b = gm k a b ^^^ y % 2 * pw k a := by rw [hy]; rfl
theorem half_next {k b : Nat} : b / 2 ^ (k + 1) = b / 2 ^ k / 2 := by rw [Nat.div_div_eq_div_mul, Nat.pow_succ]
end Go.Proofs.Ytdbngchbhoanpaa
namespace Go.Proofs.Ytdbngchbhoanpaa
open Go.RowKit
theorem and64k (a k : Nat) (ha : a < 65536) (hk : k < 18446744073709551616) : bits .and .u64 (a : Int) (k : Int) = ((a &&& k : Nat) : Int) := u64_and_nat a k (by omega) hk
theorem and127 (a : Nat) (ha : a < 65536) : bits .and .i64 (a : Int) 127 = ((a &&& 127 : Nat) : Int) := by
  have hx : a &&& 127 < 65536 := Nat.lt_of_le_of_lt Nat.and_le_left ha
  show IntKind.i64.wrap ((BitVec.ofInt 64 (a : Int) &&& BitVec.ofInt 64 (127 : Int)).toNat : Int) = _
  rw [BitVec.toNat_and, ofInt_u64 a (by omega), show (BitVec.ofInt 64 (127 : Int)).toNat = 127 from rfl]
  simp [IntKind.wrap, IntKind.bits, IntKind.signed]
  omega
theorem wrap64k (a b : Nat) (h : a + b < 65536) : IntKind.u64.wrap ((a : Int) + (b : Int)) = ((a + b : Nat) : Int) := by rw [IntKind.wrap_u64]; omega
theorem and_small (a k : Nat) (ha : a < 65536) : a &&& k < 65536 := Nat.lt_of_le_of_lt Nat.and_le_left ha
set_option maxHeartbeats 1600000 in
theorem ones64_any (x : Nat) (w : World) (hx : x < 16384) :
    Calls Try.prog 61 #[.int .u64 (x : Int)] w fun e w' => e = .returned (.int .i64 ((digs x).length : Nat)) ∧ w = w' := by
  obtain ⟨q7, q1, q2, q3, q4, q5, q6⟩ := ones_at hx
  have s1 : IntKind.u64.wrap (bits .and .u64 ((x : Int) / 2) 6148914691236517205 + bits .and .u64 (x : Int) 6148914691236517205) = ((o1 x : Nat) : Int) := by
    have a := and64k (x / 2) 6148914691236517205 (by omega) (by decide)
    have b := and64k x 6148914691236517205 (by omega) (by decide)
    rw [show ((x : Int) / 2) = ((x / 2 : Nat) : Int) by omega]
    rw [show ((6148914691236517205 : Nat) : Int) = 6148914691236517205 from rfl] at a b
    rw [a, b]
    exact wrap64k _ _ q1
  obtain ⟨y1, hy1⟩ : ∃ y, y = o1 x := ⟨_, rfl⟩
  have s2 : IntKind.u64.wrap (bits .and .u64 ((y1 : Int) / 4) 3689348814741910323 + bits .and .u64 (y1 : Int) 3689348814741910323) = ((o2 x : Nat) : Int) := by
    rw [hy1]
    have a := and64k (o1 x / 4) 3689348814741910323 (by omega) (by decide)
    have b := and64k (o1 x) 3689348814741910323 (by omega) (by decide)
    rw [show ((o1 x : Nat) : Int) / 4 = ((o1 x / 4 : Nat) : Int) by omega]
    rw [show ((3689348814741910323 : Nat) : Int) = 3689348814741910323 from rfl] at a b
    rw [a, b]
    exact wrap64k _ _ q2
  obtain ⟨y2, hy2⟩ : ∃ y, y = o2 x := ⟨_, rfl⟩
  have s3 : bits .and .u64 (IntKind.u64.wrap ((y2 : Int) / 16 + (y2 : Int))) 1085102592571150095 = ((o3 x : Nat) : Int) := by
    rw [hy2]
    rw [show ((o2 x : Nat) : Int) / 16 = ((o2 x / 16 : Nat) : Int) by omega, IntKind.wrap_u64, show (((o2 x / 16 : Nat) : Int) + ((o2 x : Nat) : Int)) % 18446744073709551616 = ((o2 x / 16 + o2 x : Nat) : Int) by omega]
    have a := u64_and_nat (o2 x / 16 + o2 x) 1085102592571150095 (by omega) (by decide)
    exact a
  obtain ⟨y3, hy3⟩ : ∃ y, y = o3 x := ⟨_, rfl⟩
  have s4 : IntKind.u64.wrap ((y3 : Int) + (y3 : Int) / 256) = ((o4 x : Nat) : Int) := by
    rw [hy3, show ((o3 x : Nat) : Int) / 256 = ((o3 x / 256 : Nat) : Int) by omega]
    exact wrap64k _ _ q4
  obtain ⟨y4, hy4⟩ : ∃ y, y = o4 x := ⟨_, rfl⟩
  have s5 : IntKind.u64.wrap ((y4 : Int) + (y4 : Int) / 65536) = ((o5 x : Nat) : Int) := by
    rw [hy4, show ((o4 x : Nat) : Int) / 65536 = ((o4 x / 65536 : Nat) : Int) by omega]
    exact wrap64k _ _ q5
  obtain ⟨y5, hy5⟩ : ∃ y, y = o5 x := ⟨_, rfl⟩
  have s6 : IntKind.u64.wrap ((y5 : Int) + (y5 : Int) / 4294967296) = ((o6 x : Nat) : Int) := by
    rw [hy5, show ((o5 x : Nat) : Int) / 4294967296 = ((o5 x / 4294967296 : Nat) : Int) by omega]
    exact wrap64k _ _ q6
  obtain ⟨y6, hy6⟩ : ∃ y, y = o6 x := ⟨_, rfl⟩
  have s7 : bits .and .i64 (y6 : Int) 127 = (((digs x).length : Nat) : Int) := by
    rw [hy6, ← q7]
    exact and127 _ q6
  rw [← hy1] at s1
  rw [← hy2] at s2
  rw [← hy3] at s3
  rw [← hy4] at s4
  rw [← hy5] at s5
  rw [← hy6] at s6
  have z6 : y6 < 65536 := by omega
  clear hy1 hy2 hy3 hy4 hy5 hy6 q1 q2 q3 q4 q5 q6 q7
  go_enter Try.func61, Try.ntmps61
  go_wp2_with fail
  go_ret
  exact ⟨rfl, rfl⟩
theorem ones_any (x : Nat) (w : World) (hx : x < 16384) :
    Calls Try.prog 56 #[.int .u64 (x : Int)] w fun e w' => e = .returned (.int .i64 ((digs x).length : Nat)) ∧ w = w' := by
  have H := hide (ones64_any x w hx)
  go_enter Try.func56, Try.ntmps56
  go_wp2_with fail
  refine H.out.mono ?_
  rintro e w1 ⟨rfl, rfl⟩
  go_wp2_with fail
  go_ret
  exact ⟨rfl, rfl⟩
theorem count_any (x : Nat) (w : World) (hx : x < 16384) :
    Calls Try.prog 50 #[.int .u64 (x : Int)] w fun e w' => e = .returned (.int .i64 ((digs x).length : Nat)) ∧ w = w' := by
  have H := hide (ones_any x w hx)
  go_enter Try.func50, Try.ntmps50
  go_wp2_with fail
  refine H.out.mono ?_
  rintro e w1 ⟨rfl, rfl⟩
  go_wp2_with fail
  go_ret
  exact ⟨rfl, rfl⟩
end Go.Proofs.Ytdbngchbhoanpaa
namespace Go.Proofs.Ytdbngchbhoanpaa
open Go.RowKit
set_option maxHeartbeats 800000 in
theorem mul_any (a b : Nat) (w : World) (ha : a < 256) (hb : b < 256) :
    Calls Try.prog 64 #[.int .u8 (a : Int), .int .u8 (b : Int)] w fun e w' => e = .returned (.int .u8 (gmul a b : Nat)) ∧ w = w' := by
  have ln := low_none
  have la := low_all
  go_enter Try.func64, Try.ntmps64
  go_wp2
  go_loop [0, 1, 5, 6] (fun x y p i => ∃ k : Nat, k ≤ 8 ∧ x = .int .u8 (pw k a : Nat) ∧ y = .int .u8 ((b / 2 ^ k : Nat) : Int) ∧ p = .int .u8 (gm k a b : Nat) ∧ i = .int .i64 (k : Int)) (fun _ _ _ i => 8 - (intOf i).toNat)
  case atStart => exact ⟨0, Nat.zero_le _, rfl, by simp, rfl, rfl⟩
  case round =>
    obtain ⟨k, hk, rfl, rfl, rfl, rfl⟩ := hrel
    by_cases hlt : k < 8
    · have hp := gm_lt k b ha
      have hx := pw_lt k ha
      have hy : b / 2 ^ k < 256 := Nat.lt_of_le_of_lt (Nat.div_le_self _ _) hb
      have hgs : gm (k + 1) a b = gm k a b ^^^ b / 2 ^ k % 2 * pw k a := rfl
      have hps : pw (k + 1) a = xt (pw k a) := rfl
      have hys : b / 2 ^ (k + 1) = b / 2 ^ k / 2 := half_next
      obtain ⟨y, hye⟩ : ∃ y, y = b / 2 ^ k := ⟨_, rfl⟩
      obtain ⟨x, hxe⟩ : ∃ x, x = pw k a := ⟨_, rfl⟩
      obtain ⟨p, hpe⟩ : ∃ p, p = gm k a b := ⟨_, rfl⟩
      rw [← hye] at hy hgs hys ⊢
      rw [← hxe] at hx hps hgs ⊢
      rw [← hpe] at hp hgs ⊢
      have HGS := hide hgs
      have HPS := hide hps
      have HYS := hide hys
      clear hgs hps hys hye hxe hpe
      have o1 := and_one8 y hy
      by_cases hd : y % 2 = 0
      · rw [hd] at o1
        have a1 := and_none8 x hx
        have x1 := xor_none8 p hp
        by_cases hh : x < 128
        · have h7 : (x : Int) / 128 = 0 := by omega
          have HX := hide (xt_walk0 hh)
          go_wp2
          go_round
          case rel => exact ⟨k + 1, by omega, by rw [HPS.out]; exact congrArg _ HX.out, by rw [HYS.out]; go_num, by rw [HGS.out, hd]; simp, by go_num⟩
          case measure => simp [intOf]; omega
        · have h7 : (x : Int) / 128 = 1 := by omega
          have HX := hide (xt_walk1 hx hh)
          go_wp2
          go_round
          case rel => exact ⟨k + 1, by omega, by rw [HPS.out]; exact congrArg _ HX.out, by rw [HYS.out]; go_num, by rw [HGS.out, hd]; simp, by go_num⟩
          case measure => simp [intOf]; omega
      · have hd1 : y % 2 = 1 := by omega
        rw [hd1] at o1
        have a1 := and_all8 x hx
        have x1 := u8_xor_nat p x hp hx
        by_cases hh : x < 128
        · have h7 : (x : Int) / 128 = 0 := by omega
          have HX := hide (xt_walk0 hh)
          go_wp2
          go_round
          case rel => exact ⟨k + 1, by omega, by rw [HPS.out]; exact congrArg _ HX.out, by rw [HYS.out]; go_num, by rw [HGS.out, hd1, Nat.one_mul], by go_num⟩
          case measure => simp [intOf]; omega
        · have h7 : (x : Int) / 128 = 1 := by omega
          have HX := hide (xt_walk1 hx hh)
          go_wp2
          go_round
          case rel => exact ⟨k + 1, by omega, by rw [HPS.out]; exact congrArg _ HX.out, by rw [HYS.out]; go_num, by rw [HGS.out, hd1, Nat.one_mul], by go_num⟩
          case measure => simp [intOf]; omega
    · obtain rfl : k = 8 := by omega
      go_wp2
      go_ret
      exact ⟨rfl, rfl⟩
end Go.Proofs.Ytdbngchbhoanpaa
namespace Go.Proofs.Ytdbngchbhoanpaa
open Go.RowKit
theorem and_one64 (x : Nat) (hx : x < 18446744073709551616) : bits .and .u64 (x : Int) 1 = ((x % 2 : Nat) : Int) := by
  rw [u64_and _ _ (by omega) (by omega) (by decide) (by decide)]
  have : (1 : Int).toNat = 1 := rfl
  rw [this, nat_mask1, Int.toNat_natCast]
theorem square_even {p x n : Nat} (hx : x < 256) (h : n % 2 = 0) : gmul p (gpow (gmul x x) (n / 2)) = gmul p (gpow x n) := by
  rw [gpow_sq hx]
  congr 2
  omega
theorem square_odd {p x n : Nat} (hp : p < 256) (hx : x < 256) (h : n % 2 = 1) : gmul (gmul p x) (gpow (gmul x x) (n / 2)) = gmul p (gpow x n) := by
  have e : n = 1 + 2 * (n / 2) := by omega
  rw [gpow_sq hx, ← gmul_assoc hp hx (gpow_lt hx _)]
  congr 1
  have h1 : gpow x n = gpow x (1 + 2 * (n / 2)) := by rw [← e]
  rw [h1, gpow_add hx, gpow_one hx]
set_option maxHeartbeats 800000 in
theorem power_any (a n : Nat) (w : World) (ha : a < 256) (hn : n < 18446744073709551616) :
    Calls Try.prog 59 #[.int .u8 (a : Int), .int .u64 (n : Int)] w fun e w' => e = .returned (.int .u8 (gpow a n : Nat)) ∧ w = w' := by
  obtain ⟨r, hr⟩ : ∃ r, r = gpow a n := ⟨_, rfl⟩
  rw [← hr]
  have HR := hide hr
  clear hr
  have HN := hide hn
  clear hn
  go_enter Try.func59, Try.ntmps59
  go_wp2
  go_loop [0, 1, 5] (fun x y p => ∃ u v q : Nat, u < 256 ∧ v ≤ n ∧ q < 256 ∧ Hid (gmul q (gpow u v) = r) ∧ x = .int .u8 (u : Int) ∧ y = .int .u64 (v : Int) ∧ p = .int .u8 (q : Int)) (fun _ y _ => (intOf y).toNat)
  case atStart => exact ⟨a, n, 1, ha, Nat.le_refl _, by decide, hide (by rw [HR.out, one_gmul (gpow_lt ha _)]), rfl, rfl, rfl⟩
  case round =>
    obtain ⟨u, v, q, hu, hv, hq, hs, rfl, rfl, rfl⟩ := hrel
    have o1 := and_one64 v (by have := HN.out; omega)
    by_cases h0 : v = 0
    · subst h0
      go_wp2
      go_ret
      refine ⟨ret_int ?_, rfl⟩
      rw [← hs.out]
      show (q : Int) = ((gmul q 1 : Nat) : Int)
      rw [gmul_one hq]
    · have hne : ((v : Int) != 0) = true := by simp; omega
      by_cases hd : v % 2 = 0
      · rw [hd] at o1
        have HS := hide (square_even (p := q) hu hd)
        clear hd
        go_wp2_with fail
        refine (mul_any u u _ hu hu).mono ?_
        rintro e w1 ⟨rfl, rfl⟩
        go_wp2_with fail
        go_round
        case rel => exact ⟨gmul u u, v / 2, q, gmul_lt _ hu, by omega, hq, hide (by rw [HS.out]; exact hs.out), rfl, by go_num, rfl⟩
        case measure => simp [intOf]; omega
      · have hd1 : v % 2 = 1 := by omega
        rw [hd1] at o1
        have HS := hide (square_odd (p := q) hq hu hd1)
        clear hd hd1
        go_wp2_with fail
        refine (mul_any q u _ hq hu).mono ?_
        rintro e w1 ⟨rfl, rfl⟩
        go_wp2_with fail
        refine (mul_any u u _ hu hu).mono ?_
        rintro e w1 ⟨rfl, rfl⟩
        go_wp2_with fail
        go_round
        case rel => exact ⟨gmul u u, v / 2, gmul q u, gmul_lt _ hu, by omega, gmul_lt _ hq, hide (by rw [HS.out]; exact hs.out), rfl, by go_num, rfl⟩
        case measure => simp [intOf]; omega
theorem inv_none (w : World) :
    Calls Try.prog 55 #[.int .u8 0] w fun e w' => e = .returned (.tuple #[.int .u8 0, .int .i64 1]) ∧ w = w' := by
  go_enter Try.func55, Try.ntmps55
  go_wp2
  go_ret2
  exact ⟨rfl, rfl⟩
theorem inv_some (a : Nat) (w : World) (ha : a < 256) (h0 : a ≠ 0) :
    Calls Try.prog 55 #[.int .u8 (a : Int)] w fun e w' => e = .returned (.tuple #[.int .u8 (ginv a : Nat), .int .i64 0]) ∧ w = w' := by
  have hne : ((a : Int) == 0) = false := by simp; omega
  obtain ⟨r, hr⟩ : ∃ r, r = ginv a := ⟨_, rfl⟩
  rw [← hr]
  have HR := hide hr
  clear hr
  go_enter Try.func55, Try.ntmps55
  go_wp2_with fail
  refine (power_any a 254 _ ha (by omega)).mono ?_
  rintro e w1 ⟨rfl, rfl⟩
  go_wp2_with fail
  go_ret2
  refine ⟨?_, rfl⟩
  rw [HR.out]
  rfl
end Go.Proofs.Ytdbngchbhoanpaa
namespace Go.Proofs.Ytdbngchbhoanpaa
open Go.RowKit
theorem or128 (y : Nat) : bits .or .u8 ((y : Int) % 256) 128 = ((y % 128 + 128 : Nat) : Int) := by
  rw [u8_or _ _ (by omega) (by omega) (by decide) (by decide)]
  have h : ((y : Int) % 256).toNat = y % 256 := by omega
  have h2 : (128 : Int).toNat = 128 := rfl
  rw [h, h2]
  have : ∀ z, z < 256 → z ||| 128 = z % 128 + 128 := by decide +kernel
  rw [this _ (Nat.mod_lt _ (by decide))]
  omega
theorem Try.info_u8 : (Try.prog.info? 5).map (fun i => (i.zero, i.size, i.bytes)) = some (some (.int .u8 0), 1, 1) := by kernel_rfl
set_option maxHeartbeats 400000 in
set_option maxRecDepth 1000000 in
theorem uvarint_any (v : Nat) (w : World) (hv : v < 18446744073709551616) :
    Calls Try.prog 15 #[.int .u64 (v : Int)] w fun e w' => ∃ s, e = .returned s ∧ Own w' w.heap.size s (uvl v) ∧ Below w.heap.size w w' := by
  obtain ⟨i0, hi, hz0, hz1, hz2⟩ := info_parts Try.info_u8
  have hlen := uvl_len64 v hv
  have HV := hide hv
  clear hv
  go_enter Try.func15, Try.ntmps15
  go_wp2
  go_loopw [0, 3] (fun x s wr => ∃ (y : Nat) (acc : List Nat), y ≤ v ∧ x = .int .u64 (y : Int) ∧ Hid (acc ++ uvl y = uvl v) ∧ Own wr w.heap.size s acc ∧ Below w.heap.size w wr) (fun x _ _ => (intOf x).toNat)
  case atStart => exact ⟨v, [], Nat.le_refl _, rfl, rfl, World.ownsRow_nil _ _ _ _, Below.refl _ _⟩
  case round =>
    obtain ⟨y, acc, hy, rfl, hs, hown, hbel⟩ := hrel
    have hal : acc.length + (uvl y).length ≤ 10 := by
      have := congrArg List.length hs.out
      rw [List.length_append] at this
      omega
    by_cases hge : y < 128
    · have hl1 : acc.length ≤ 9 := by rw [uvl_low hge] at hal; simp at hal; omega
      clear hal hlen
      unfold Own at hown
      go_wp2_with (at_builtin; go_must (refine wpList_append_own _ rfl _ _ 24 rfl w.heap.size 5 i0 (.int .u8 0) 1 1 Try.underlying24 hi hz0 hz1 hz2 rfl (by decide) _ _ _ rfl (hown.alloc _) ⟨wr.heap.size, 0, none⟩ 1 1 [.int .u8 (y : Int)] rfl rfl (one_at _ _ _) (one_cell_int _ _) (by unfold maxLen; omega) (by omega) (by have := hbel.size; simp; omega) ?_); intro s' w1 hown' hgrow _; have hbel1 := push_below hbel hbel.size hown hgrow; have hown1 := own_push hown'; clear hown' hgrow)
      go_ret
      rw [uvl_low hge] at hs
      exact ⟨_, rfl, by rw [← hs.out]; exact hown1, hbel1⟩
    · have hor := or128 y
      have hl1 : acc.length ≤ 9 := by rw [uvl_high hge] at hal; simp at hal; omega
      clear hal hlen
      unfold Own at hown
      go_wp2_with (at_builtin; go_must (refine wpList_append_own _ rfl _ _ 24 rfl w.heap.size 5 i0 (.int .u8 0) 1 1 Try.underlying24 hi hz0 hz1 hz2 rfl (by decide) _ _ _ rfl (hown.alloc _) ⟨wr.heap.size, 0, none⟩ 1 1 [.int .u8 ((y % 128 + 128 : Nat) : Int)] rfl rfl (one_at _ _ _) (one_cell_int _ _) (by unfold maxLen; omega) (by omega) (by have := hbel.size; simp; omega) ?_); intro s' w1 hown' hgrow _; have hbel1 := push_below hbel hbel.size hown hgrow; have hown1 := own_push hown'; clear hown' hgrow)
      go_roundw
      case rel => exact ⟨y / 128, acc ++ [y % 128 + 128], by omega, by go_num, by rw [uvl_high hge] at hs; rw [List.append_assoc]; exact hs, hown1, hbel1⟩
      case measure => simp [intOf]; omega
end Go.Proofs.Ytdbngchbhoanpaa
