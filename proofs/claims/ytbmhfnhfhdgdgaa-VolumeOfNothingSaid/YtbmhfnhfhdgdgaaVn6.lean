/- Bytes as slice values, and the law of an append of bytes to a slice of the call's own, whatever the appended slice is (nil, empty or not). Conditions: the lengt -/
import Derived.Test.YtbmhfnhfhdgdgaaVn4
import Derived.Laws.AppendOwnNone
import Derived.OpenShut
namespace Go.Proofs.Ytbmhfnhfhdgdgaa
open Go.RowKit
variable {w w' : World} {F F' : Nat -> Prop} {B g n c b : Nat}
structure Halt (p : Prop) : Prop where
 out : p
theorem halt {p : Prop} (h : Halt p) : p := h.out
def IsB (w : World) (v : Value) (xs : List Nat) : Prop := ∃ A c, v = .slice A xs.length c /\ Rd w A xs /\ (A = none -> c = 0) /\ xs.length <= c /\ c <= 9223372036854775807
theorem Own.more {B' : Nat} {v : Value} {l : List Nat} (h : Own w B v l) (hb : B' <= B) : Own w B' v l := by
 unfold Own at h ⊢;refine ⟨h.1, ?_⟩;rcases h.2 with hn | ⟨g, cap, cur, hv, h1, r⟩
 ·exact .inl hn
 ·exact .inr ⟨g, cap, cur, hv, by omega, r⟩
theorem add_off (b off j : Nat) : (⟨b, off, none⟩ : Addr).add j = ⟨b, off + j, none⟩ := by
 unfold Addr.add; split <;> simp_all
theorem Own.isB {v : Value} {xs : List Nat} (h : Own w B v xs) : IsB w v xs := by
 unfold Own at h;rcases h.2 with ⟨rfl, hn⟩ | ⟨g, cap, cur, rfl, _, _, c1, c2, _⟩
 ·refine ⟨none, 0, by rw [hn], fun hne => ?_, fun _ => rfl, by omega, by decide⟩;exact absurd (List.eq_nil_of_length_eq_zero hn) hne
 ·refine ⟨_, _, rfl, fun _ => ⟨g, 0, rfl, fun i hi => ?_⟩, (fun h => by cases h), c1, by unfold maxLen at c2; omega⟩;rw [Nat.zero_add, h.cellAt i (by omega)];simp [hi]
theorem IsB.keep {v : Value} {xs : List Nat} (h : IsB w v xs) (hb : Below w.heap.size w w') : IsB w' v xs := by
 obtain ⟨A, c, e, hr, hn⟩ := h;exact ⟨A, c, e, hr.below hb, hn⟩
theorem Try.info_u8' : (Try.prog.info? 5).map (fun i => (i.zero, i.size, i.bytes)) = some (some (.int .u8 0), 1, 1) := by kernel_rfl
theorem wpList_append_bytes {ops : Array Oper} {rest : List Oper} {o : Oper} {a : Act} {Q : Exit -> Act -> World -> Prop} (hgd : o.guard = none) (s x : Operand)
  (ho : o.op = .call { callee := .builtin .append, args := #[s, x], argTypes := #[23, 23] })
  (B : Nat) (v : Value) (xs : List Nat) (hs : a.eval s = v) (hown : Own w B v xs)
  (u : Value) (ys : List Nat) (hx : a.eval x = u) (hr : IsB w u ys)
  (hlen : xs.length + ys.length <= 140737488355328) (hbase : B <= w.heap.size)
  (h : ∀ v' w', Own w' B v' (xs ++ ys) -> Below B w w' -> wpList Try.prog ops Q rest (a.put o.dst v') w') : wpList Try.prog ops Q (o :: rest) a w := by
 obtain ⟨i0, hi, hz0, hz1, hz2⟩ := info_parts Try.info_u8';obtain ⟨A, c, rfl, hr, hn, _⟩ := hr;have fin : ∀ v' w', w'.ownsRow B 5 1 v' (xs.length + ys.length) ((xs.map fun x : Nat => Value.int .u8 (x : Int)) ++ (ys.map fun x : Nat => Value.int .u8 (x : Int))) -> w.grownBy w' v.ownBlock -> wpList Try.prog ops Q rest (a.put o.dst v') w' := by
  intro v' w' hown' hg;refine h v' w' (by unfold Own; simpa using hown') ((Below.refl _ _).grown hg hbase fun k hk => (hown.lt k hk).1)
 rcases A with _ | ad
 ·have h0 := hn rfl;subst h0;have hys : ys = [] := by
   rcases ys with _ | ⟨y, ys⟩
   ·rfl
   ·obtain ⟨_, _, e, _⟩ := hr (by simp);cases e
  subst hys;exact wpList_append_own_none hgd s x _ ho B 5 i0 1 Try.underlying23 hi v _ _ hs hown hx (fin v w (by simpa [Own] using hown) (World.grownBy.refl w _))
 ·refine wpList_append_own w hgd s x _ ho B 5 i0 (.int .u8 0) 1 1 Try.underlying23 hi hz0 hz1 hz2 rfl (by decide) v _ _ hs hown ad ys.length c (ys.map fun x : Nat => Value.int .u8 (x : Int)) hx (by simp) ?_ ?_ (by unfold maxLen; omega) (by omega) hbase (fun v' w' h1 h2 _ => fin v' w' h1 h2)
  ·intro j u hu;have hj : j < ys.length := by
    rcases Nat.lt_or_ge j ys.length with h | h
    ·exact h
    ·simp [h] at hu
   obtain ⟨b, off, e, hc⟩ := hr (by intro e; rw [e] at hj; simp at hj);cases e
   have := hc j hj;simp [hj] at hu;subst hu;simpa [add_off, hj] using this
  ·intro u hu;simp at hu;obtain ⟨y, _, rfl⟩ := hu
   rfl
def IsRow (k : IntKind) (w : World) (a : Option Addr) (len cap : Nat) (zs : List Int) : Prop :=
 (a = none /\ len = 0 /\ cap = 0 /\ zs = []) \/
 ∃ x, a = some x /\ len <= cap /\ cap <= maxLen /\ zs.length = cap /\ (∀ i, i < zs.length -> w.cell? (x.add i) = some (.int k (zs.getD i 0))) /\ ∀ n ∈ zs, (Lit.int k n).wf = true
theorem IsRow.isB {a : Option Addr} {len cap : Nat} {zs : List Int} (h : IsRow .u8 w a len cap zs) :
  ∃ xs : List Nat, xs.length = len /\ (∀ x ∈ xs, x < 256) /\ IsB w (.slice a len cap) xs /\ len <= 9223372036854775807 := by
 rcases h with ⟨rfl, rfl, rfl, rfl⟩ | ⟨x, rfl, h1, h2, h3, hc, hw⟩
 ·exact ⟨[], rfl, by simp, ⟨none, 0, rfl, fun h => absurd rfl h, fun _ => rfl, by decide, by decide⟩, by decide⟩
 ·have hb : ∀ z ∈ zs, 0 <= z /\ z <= 255 := fun z hz => bounds_u8 (hw z hz)
  refine ⟨(zs.take len).map Int.toNat, by simp; omega, ?_, ⟨some x, cap, by congr 1; simp; omega, ?_, (fun h => by cases h), by simp; omega, by unfold maxLen at h2; omega⟩, by unfold maxLen at h2; omega⟩
  ·intro y hy;simp only [List.mem_map] at hy;obtain ⟨z, hz, rfl⟩ := hy;have := hb z (List.mem_of_mem_take hz);omega
  ·intro hne;have hl : 0 < zs.length := by
    rcases zs with _ | ⟨z, zs⟩
    ·simp at hne
    ·simp
   obtain ⟨b, off, sp⟩ := x;have hs0 := hc 0 hl;have hsp : sp = none := by simpa [Addr.add] using World.cell?_spot hs0
   subst hsp;refine ⟨b, off, rfl, fun i hi => ?_⟩;have hi2 : i < len /\ i < zs.length := by simp at hi; omega
   have := hc i hi2.2;rw [add_off] at this;rw [this];have hz := hb zs[i] (List.getElem_mem hi2.2);simp [hi2.1, hi2.2];omega
theorem IsB.drewN {v : Value} {xs : List Nat} (h : IsB w v xs) (d : Nat) : IsB (w.drewN d) v xs := h
theorem IsB.rd {A : Option Addr} {xs : List Nat} (h : IsB w (.slice A n c) xs) : Rd w A xs := by
 obtain ⟨A', c', e, r, _⟩ := h;cases e
 exact r
theorem IsB.form {v : Value} {xs : List Nat} (h : IsB w v xs) (hn : xs.length = n) : ∃ A c, v = .slice A n c /\ IsB w (.slice A n c) xs /\ n <= c /\ c <= 9223372036854775807 := by
 subst hn;obtain ⟨A, c, e, r, h1, h2, h3⟩ := h;exact ⟨A, c, e, ⟨A, c, rfl, r, h1, h2, h3⟩, h2, h3⟩
theorem byte_app {xs ys : List Nat} (h1 : ∀ x ∈ xs, x < 256) (h2 : ∀ x ∈ ys, x < 256) : ∀ x ∈ xs ++ ys, x < 256 := by
 intro x hx;rcases List.mem_append.1 hx with h | h
 ·exact h1 x h
 ·exact h2 x h
theorem below_step {a b : World} (h : Below w.heap.size w a) (k : Below a.heap.size a b) : Below w.heap.size w b := h.trans (k.mono h.size)
theorem own_lit (w : World) (cs : Array Value) (xs : List Nat) (h : cs.toList = xs.map fun x : Nat => Value.int .u8 (x : Int)) (hl : xs.length <= 140737488355328) :
  Own (w.alloc (.cells cs 5)) w.heap.size (.slice (some ⟨w.heap.size, 0, none⟩) xs.length xs.length) xs := by
 have hs : cs.size = xs.length := by rw [<- Array.length_toList, h]; simp
 have := World.ownsRow_lit (base := w.heap.size) (e := 5) (size := 1) w cs xs.length (Nat.le_refl _) (by unfold maxLen; omega) (by omega);rw [h] at this;exact this
theorem IsB.take {A : Option Addr} {xs : List Nat} (h : IsB w (.slice A n c) xs) (k : Nat) (hk : k <= n) : IsB w (.slice A k c) (xs.take k) := by
 obtain ⟨A', c', e, r, h1, h2, h3⟩ := h;cases e
 have hl : (xs.take k).length = k := by rw [List.length_take]; omega
 refine ⟨A, c, by rw [hl], ?_, h1, by omega, h3⟩;intro hne;obtain ⟨b, off, e, hc⟩ := r (by intro e; rw [e] at hne; simp at hne);refine ⟨b, off, e, fun i hi => ?_⟩;have hi2 : i < k := by omega
 rw [hc i (by omega)];congr 2;simp [hi2]
theorem rd_at {off : Nat} {xs : List Nat} (h : ∀ i, i < xs.length -> w.cell? ⟨b, off + i, none⟩ = some (.int .u8 ((xs.getD i 0 : Nat) : Int))) (hb : ∀ x ∈ xs, x < 256) (i : Nat) (hi : i < xs.length) :
  ∃ x : Nat, w.cell? ⟨b, off + i, none⟩ = some (.int .u8 (x : Int)) /\ x < 256 /\ x = xs.getD i 0 := by
 refine ⟨_, h i hi, ?_, rfl⟩;have e : xs.getD i 0 = xs[i] := by simp [hi]
 rw [e];exact hb _ (List.getElem_mem hi)
def crcStep (s : Nat) : Nat := if s % 2 = 1 then s / 2 ^^^ 3988292384 else s / 2
def crcB (s : Nat) : Nat -> Nat
 | 0 => s
 | k + 1 => crcStep (crcB s k)
def crcF (s : Nat) (xs : List Nat) : Nat := xs.foldl (fun s c => crcB (s ^^^ c) 8) s
def sumS (xs : List Nat) : Nat := 4294967295 - crcF 4294967295 xs
theorem xor_lt32 {a : Nat} (ha : a < 4294967296) (hb : b < 4294967296) : a ^^^ b < 4294967296 := Nat.xor_lt_two_pow (n := 32) ha hb
theorem crcStep_lt {s : Nat} (h : s < 4294967296) : crcStep s < 4294967296 := by
 unfold crcStep;split
 ·exact xor_lt32 (by omega) (by decide)
 ·omega
theorem crcB_lt {s : Nat} (h : s < 4294967296) : ∀ k, crcB s k < 4294967296
 | 0 => h
 | k + 1 => crcStep_lt (crcB_lt h k)
theorem crcF_lt {s : Nat} (h : s < 4294967296) {xs : List Nat} (hx : ∀ x ∈ xs, x < 256) : crcF s xs < 4294967296 := by
 unfold crcF
 induction xs generalizing s with
 | nil => exact h
 | cons x xs ih =>
  rw [List.foldl_cons];exact ih (crcB_lt (xor_lt32 h (by have := hx x (by simp); omega)) 8) (fun y hy => hx y (by simp [hy]))
theorem crcF_snoc (s : Nat) (xs : List Nat) (k : Nat) (h : k < xs.length) : crcF s (xs.take (k + 1)) = crcB (crcF s (xs.take k) ^^^ xs.getD k 0) 8 := by
 unfold crcF;rw [List.take_succ_eq_append_getElem h, List.foldl_append];simp [h]
theorem and_one32 (x : Nat) (hx : x < 4294967296) : bits .and .u32 (x : Int) 1 = ((x % 2 : Nat) : Int) := by
 rw [u32_and _ _ (by omega) (by omega) (by decide) (by decide)];have : (1 : Int).toNat = 1 := rfl;rw [this, nat_mask1, Int.toNat_natCast]
theorem xor32 (a b : Nat) (ha : a < 4294967296) (hb : b < 4294967296) : bits .xor .u32 (a : Int) (b : Int) = ((a ^^^ b : Nat) : Int) := u32_xor_nat a b ha hb
theorem half_poly (t : Nat) (ht : t < 4294967296) (h : t % 2 = 1) : bits .xor .u32 ((t : Int) / 2) 3988292384 = (crcStep t : Nat) := by
 unfold crcStep;rw [if_pos h, <- xor32 (t / 2) 3988292384 (by omega) (by decide)];simp
theorem half_none (t : Nat) (ht : t < 4294967296) (h : t % 2 = 0) : bits .xor .u32 ((t : Int) / 2) 0 = (crcStep t : Nat) := by
 unfold crcStep;rw [if_neg (by omega)];have := xor32 (t / 2) 0 (by omega) (by decide);simpa using this
theorem not32 (a : Nat) (ha : a < 4294967296) : bits .xor .u32 IntKind.u32.max (a : Int) = ((4294967295 - a : Nat) : Int) := by
 show IntKind.u32.wrap ((BitVec.ofInt 32 IntKind.u32.max ^^^ BitVec.ofInt 32 (a : Int)).toNat : Int) = _
 have h1 : BitVec.ofInt 32 IntKind.u32.max = BitVec.allOnes 32 := by decide
 rw [h1, BitVec.allOnes_xor, BitVec.toNat_not, ofInt_u32 a (by omega), IntKind.wrap_u32];omega
theorem poly_none : bits .and .u32 3988292384 0 = 0 := by decide +kernel
theorem poly_all : bits .and .u32 3988292384 4294967295 = 3988292384 := by decide +kernel
set_option maxHeartbeats 400000 in
theorem sum_any (A : Option Addr) (n ca : Nat) (xs : List Nat) (w : World) (hA : Rd w A xs) (hn : n = xs.length) (hb : ∀ x ∈ xs, x < 256) (ln : n <= 9223372036854775807) :
  Calls Try.prog 65 #[.slice A n ca] w fun e w' => e = .returned (.int .u32 (sumS xs : Nat)) /\ w = w' := by
 have HN := hide hn;clear hn;have pn := poly_none;have pa := poly_all;go_enter Try.func65, Try.ntmps65;go_wp2
 go_loop [3, 8] (fun s i => ∃ k : Nat, k <= n /\ i = .int .i64 (k : Int) /\ s = .int .u32 (crcF 4294967295 (xs.take k) : Nat)) (fun _ i => n - (intOf i).toNat)
 case atStart => exact ⟨0, Nat.zero_le _, rfl, rfl⟩
 case round =>
  obtain ⟨k, hk, rfl, rfl⟩ := hrel;have hs := crcF_lt (s := 4294967295) (by decide) (xs := xs.take k) (fun x hx => hb x (List.mem_of_mem_take hx));by_cases hlt : k < n
  ·obtain ⟨b1, o1, rfl, c1⟩ := hA (by intro e; rw [HN.out, e] at hlt; simp at hlt);have k1 := c1 k (by rw [<- HN.out]; exact hlt);have hsn := crcF_snoc 4294967295 xs k (by rw [<- HN.out]; exact hlt);have hx : xs.getD k 0 < 256 := by
    have hl : k < xs.length := by rw [<- HN.out]; exact hlt
    have : xs.getD k 0 = xs[k] := by simp [hl]
    rw [this]; exact hb _ (List.getElem_mem hl)
   obtain ⟨x, hxe⟩ : ∃ x, x = xs.getD k 0 := ⟨_, rfl⟩;obtain ⟨s, hse⟩ : ∃ s, s = crcF 4294967295 (xs.take k) := ⟨_, rfl⟩;rw [<- hxe] at k1 hx hsn;rw [<- hse] at hs hsn ⊢;have HSN := hide hsn;clear hsn hxe hse c1 hA;have hxor := xor32 s x hs (by omega);have hs2 := xor_lt32 hs (show x < 4294967296 by omega);go_wp2
   go_loop [3, 16] (fun t i => ∃ j : Nat, j <= 8 /\ i = .int .i64 (j : Int) /\ t = .int .u32 (crcB (s ^^^ x) j : Nat)) (fun _ i => 8 - (intOf i).toNat)
   case atStart => exact ⟨0, Nat.zero_le _, rfl, rfl⟩
   case round =>
    obtain ⟨j, hj, rfl, rfl⟩ := hrel;have ht := crcB_lt hs2 j;by_cases hj8 : j < 8
    ·have hst : crcB (s ^^^ x) (j + 1) = crcStep (crcB (s ^^^ x) j) := rfl;obtain ⟨t, hte⟩ : ∃ t, t = crcB (s ^^^ x) j := ⟨_, rfl⟩;rw [<- hte] at ht hst ⊢;have HST := hide hst;clear hst hte;have h1 := and_one32 t ht;by_cases hodd : t % 2 = 1
     ·rw [hodd] at h1;have h2 := half_poly t ht hodd;go_wp2
      go_round
      case rel => exact ⟨j + 1, by omega, by go_num, by rw [HST.out]⟩
      case measure => simp [intOf]; omega
     ·have h0 : t % 2 = 0 := by omega
      rw [h0] at h1;have h2 := half_none t ht h0;go_wp2
      go_round
      case rel => exact ⟨j + 1, by omega, by go_num, by rw [HST.out]⟩
      case measure => simp [intOf]; omega
    ·obtain rfl : j = 8 := by omega
     go_wp2
     go_round
     case rel => exact ⟨k + 1, by omega, by go_num, by rw [HSN.out]⟩
     case measure => simp [intOf]; omega
  ·go_wp2
   go_ret;have he : xs.take k = xs := List.take_of_length_le (by rw [<- HN.out]; omega);rw [he] at hs;rw [he];exact ⟨ret_int (by unfold sumS; exact not32 _ hs), rfl⟩
def be32 (v : Nat) : List Nat := [v / 16777216 % 256, v / 65536 % 256, v / 256 % 256, v % 256]
theorem own_be32 (w : World) (v : Nat) (hv : v < 4294967296) :
  Own (w.alloc (.cells #[.int .u8 ((v : Int) / 16777216), .int .u8 ((v : Int) / 65536 % 256), .int .u8 ((v : Int) / 256 % 256), .int .u8 ((v : Int) % 256)] 5)) w.heap.size (.slice (some ⟨w.heap.size, 0, none⟩) 4 4) (be32 v) := by
 refine own_lit w _ (be32 v) ?_ (by unfold be32; simp);unfold be32;simp;omega
set_option maxHeartbeats 400000 in
theorem put32_any (x : Int) (v : Nat) (hx : x = (v : Int)) (w : World) (hv : v < 4294967296) :
  Calls Try.prog 44 #[.int .u32 x] w fun e w' => ∃ s, e = .returned s /\ Own w' w.heap.size s (be32 v) /\ Below w.heap.size w w' := by
 subst hx;go_enter Try.func44, Try.ntmps44;go_wp2
 go_ret;exact ⟨_, rfl, own_be32 w v hv, (Below.refl _ _).alloc (Nat.le_refl _) _⟩
def val32 (xs : List Nat) : Nat := xs.getD 0 0 * 16777216 + xs.getD 1 0 * 65536 + xs.getD 2 0 * 256 + xs.getD 3 0
theorem or_join (i x y : Nat) (hx : x % 2 ^ i = 0) (hy : y < 2 ^ i) (h1 : x < 4294967296) (h2 : y < 4294967296) : bits .or .u32 (x : Int) (y : Int) = ((x + y : Nat) : Int) := by
 rw [u32_or_nat x y h1 h2, nat_join i x y hx hy]
theorem get32_eq (x0 x1 x2 x3 : Nat) (h0 : x0 < 256) (h1 : x1 < 256) (h2 : x2 < 256) (h3 : x3 < 256) :
  bits .or .u32 (bits .or .u32 (bits .or .u32 ((x0 : Int) * 16777216) ((x1 : Int) * 65536)) ((x2 : Int) * 256)) (x3 : Int) = ((x0 * 16777216 + x1 * 65536 + x2 * 256 + x3 : Nat) : Int) := by
 have e0 : (x0 : Int) * 16777216 = ((x0 * 16777216 : Nat) : Int) := by simp
 have e1 : (x1 : Int) * 65536 = ((x1 * 65536 : Nat) : Int) := by simp
 have e2 : (x2 : Int) * 256 = ((x2 * 256 : Nat) : Int) := by simp
 rw [e0, e1, e2, or_join 24 _ _ (by omega) (by omega) (by omega) (by omega), or_join 16 _ _ (by omega) (by omega) (by omega) (by omega), or_join 8 _ _ (by omega) (by omega) (by omega) (by omega)]
set_option maxHeartbeats 800000 in
theorem get32_any (A : Option Addr) (n c : Nat) (xs : List Nat) (w : World) (hA : Rd w A xs) (hn : n = xs.length) (hb : ∀ x ∈ xs, x < 256) (h4 : 4 <= n) (ln : n <= 9223372036854775807) :
  Calls Try.prog 83 #[.slice A n c] w fun e w' => e = .returned (.tuple #[.int .u32 (val32 xs : Nat), .int .i64 0]) /\ ∃ d, w' = w.drewN d := by
 obtain ⟨b, off, rfl, hc⟩ := hA (by intro e; rw [e] at hn; simp at hn; omega);obtain ⟨x0, c0, l0, e0⟩ := rd_at hc hb 0 (by omega);obtain ⟨x1, c1, l1, e1⟩ := rd_at hc hb 1 (by omega);obtain ⟨x2, c2, l2, e2⟩ := rd_at hc hb 2 (by omega);obtain ⟨x3, c3, l3, e3⟩ := rd_at hc hb 3 (by omega);rw [Nat.add_zero] at c0;have E := hide (And.intro e0 (And.intro e1 (And.intro e2 e3)));clear hc e0 e1 e2 e3 hA;have HN := hide hn;clear hn hb;go_enter Try.func83, Try.ntmps83;go_wp2
 go_quiet (fail)
 go_wp2
 go_ret2;refine ⟨?_, nq, rfl⟩;have e := E.out;rw [get32_eq x0 x1 x2 x3 l0 l1 l2 l3];unfold val32;rw [<- e.1, <- e.2.1, <- e.2.2.1, <- e.2.2.2]
 rfl
theorem be32_byte (v : Nat) : ∀ x ∈ be32 v, x < 256 := by unfold be32; intro x hx; simp at hx; omega
theorem be32_len (v : Nat) : (be32 v).length = 4 := rfl
def be64 (v : Nat) : List Nat := be32 (v / 4294967296) ++ be32 (v % 4294967296)
set_option maxHeartbeats 400000 in
theorem put64_any (v : Nat) (w : World) (hv : v < 18446744073709551616) :
  Calls Try.prog 64 #[.int .u64 (v : Int)] w fun e w' => ∃ s, e = .returned s /\ Own w' w.heap.size s (be64 v) /\ Below w.heap.size w w' := by
 have HV := hide hv;have hq : IntKind.u32.wrap ((v : Int) / 4294967296) = (v : Int) / 4294967296 := by rw [IntKind.wrap_u32]; omega
 clear hv;go_enter Try.func64, Try.ntmps64;go_wp2_with fail
 refine (put32_any _ (v / 4294967296) (by omega) _ (by have := HV.out; omega)).mono ?_;rintro e w1 ⟨s1, rfl, o1, b1⟩;go_wp2_with fail
 refine (put32_any _ (v % 4294967296) (by omega) _ (by omega)).mono ?_;rintro e w2 ⟨s2, rfl, o2, b2⟩;have o1' := o1.keep b2;have hl1 : (be32 (v / 4294967296)).length = 4 := rfl;have hl2 : (be32 (v % 4294967296)).length = 4 := rfl;have L := hide (And.intro hl1 hl2);clear hl1 hl2;go_wp2_with (at_builtin; refine halt ?_)
 refine ⟨?_⟩;refine wpList_append_bytes rfl (.tmp 6) (.tmp 9) rfl w.heap.size s1 _ rfl o1' s2 _ rfl o2.isB (by rw [L.out.1, L.out.2]; decide) (Nat.le_trans b1.size b2.size) ?_;intro s3 w3 o3 b3;go_wp2_with fail
 go_ret;exact ⟨_, rfl, o3, (b1.trans (b2.mono b1.size)).trans b3⟩
def foldV (xs : List Nat) : Nat := xs.foldl (fun v c => v * 256 + c) 0
theorem foldV_snoc (xs : List Nat) (k : Nat) (h : k < xs.length) : foldV (xs.take (k + 1)) = foldV (xs.take k) * 256 + xs.getD k 0 := by
 unfold foldV;rw [List.take_succ_eq_append_getElem h, List.foldl_append];simp [h]
theorem foldV_lt (xs : List Nat) (hb : ∀ x ∈ xs, x < 256) : ∀ k, k <= xs.length -> foldV (xs.take k) < 256 ^ k := by
 intro k
 induction k with
 | zero => intro _; simp [foldV]
 | succ k ih =>
  intro h;rw [foldV_snoc xs k (by omega)];have h1 := ih (by omega);have h2 : xs.getD k 0 < 256 := by
   have e : xs.getD k 0 = xs[k] := by simp [show k < xs.length by omega]
   rw [e]; exact hb _ (List.getElem_mem _)
  rw [Nat.pow_succ];omega
theorem or64 (v x : Nat) (hv : v < 72057594037927936) (hx : x < 256) : bits .or .u64 ((v : Int) * 256) (x : Int) = ((v * 256 + x : Nat) : Int) := by
 have e0 : (v : Int) * 256 = ((v * 256 : Nat) : Int) := by simp
 rw [e0, u64_or_nat _ _ (by omega) (by omega), nat_join 8 _ _ (by omega) (by omega)]
set_option maxHeartbeats 800000 in
theorem get64_any (A : Option Addr) (n c : Nat) (xs : List Nat) (w : World) (hA : Rd w A xs) (hn : n = xs.length) (hb : ∀ x ∈ xs, x < 256) (h8 : 8 <= n) (hc : n <= c) (lc : c <= 9223372036854775807) :
  Calls Try.prog 82 #[.slice A n c] w fun e w' => e = .returned (.tuple #[.int .u64 (foldV (xs.take 8) : Nat), .int .i64 0]) /\ w = w' := by
 obtain ⟨b, off, rfl, hcell⟩ := hA (by intro e; rw [e] at hn; simp at hn; omega);have HN := hide hn;have HB := hide hb;have HC := hide hcell;clear hn hb hcell hA;go_enter Try.func82, Try.ntmps82;go_wp2
 go_loop [4, 13] (fun v i => ∃ k : Nat, k <= 8 /\ i = .int .i64 (k : Int) /\ v = .int .u64 (foldV (xs.take k) : Nat)) (fun _ i => 8 - (intOf i).toNat)
 case atStart => exact ⟨0, by omega, rfl, rfl⟩
 case round =>
  obtain ⟨k, hk, rfl, rfl⟩ := hrel;by_cases hlt : k < 8
  ·obtain ⟨x, cx, lx, ex⟩ := rd_at HC.out HB.out k (by have := HN.out; omega);have hs := foldV_snoc xs k (by have := HN.out; omega);have hv : foldV (xs.take k) < 72057594037927936 := Nat.lt_of_lt_of_le (foldV_lt xs HB.out k (by have := HN.out; omega)) (by
    have : 256 ^ k <= 256 ^ 7 := Nat.pow_le_pow_right (by decide) (by omega);exact this)
   obtain ⟨v, hve⟩ : ∃ v, v = foldV (xs.take k) := ⟨_, rfl⟩;rw [<- hve] at hs hv ⊢;rw [<- ex] at hs;have HS := hide hs;have EX := hide ex;clear hs ex hve;have ho := or64 v x hv lx;go_wp2
   go_round
   case rel => exact ⟨k + 1, by omega, by go_num, by rw [HS.out]; go_num⟩
   case measure => simp [intOf]; omega
  ·obtain rfl : k = 8 := by omega
   go_wp2
   go_ret2;exact ⟨rfl, rfl⟩
theorem be64_byte (v : Nat) : ∀ x ∈ be64 v, x < 256 := by
 unfold be64; intro x hx;rcases List.mem_append.1 hx with h | h
 ·exact be32_byte _ x h
 ·exact be32_byte _ x h
theorem be64_len (v : Nat) : (be64 v).length = 8 := rfl
theorem Own.stored {xs : List Nat} (h : Own w B (.slice (some ⟨g, 0, none⟩) n c) xs) (hn : xs.length = n) (k z : Nat) :
  Own (w.setCell ⟨g, k, none⟩ (.int .u8 (z : Int))) B (.slice (some ⟨g, 0, none⟩) n c) (xs.set k z) := by
 subst hn;unfold Own at h ⊢;have := (World.ownsRow.stored h k (.int .u8 (z : Int))).1;simpa [List.map_set] using this
theorem Own.at_ {v : Value} {xs : List Nat} (h : Own w B v xs) (hn : xs.length = n) (h1 : 1 <= n) :
  ∃ g c, v = .slice (some ⟨g, 0, none⟩) n c /\ B <= g /\ n <= c /\ c <= 9223372036854775807 /\ (∀ k, k < n -> w.cell? ⟨g, k, none⟩ = some (.int .u8 ((xs.getD k 0 : Nat) : Int))) /\ ∀ k, w.frozen? ⟨g, k, none⟩ = false := by
 subst hn;have h0 := h;unfold Own at h;rcases h.2 with ⟨rfl, hn⟩ | ⟨g, cap, cur, rfl, hb, hg, hc, hm, _⟩
 ·omega
 ·refine ⟨g, cap, rfl, hb, hc, by unfold maxLen at hm; omega, fun k hk => ?_, fun k => World.ownsRow.frozenAt h k⟩;rw [World.ownsRow.cellAt h k (by omega)];simp [hk]
theorem place (n : Int) (len : Nat) (h : 1 <= len) : ∃ k : Nat, k < len /\ (n.tmod (len : Int) = (k : Int) \/ n.tmod (len : Int) = (k : Int) - (len : Int)) := by
 rcases tmod_cases n (len : Int) with ⟨_, e⟩ | ⟨_, e⟩
 ·have h1 := Int.emod_nonneg n (b := (len : Int)) (by omega);have h2 := Int.emod_lt_of_pos n (b := (len : Int)) (by omega);exact ⟨(n % (len : Int)).toNat, by omega, .inl (by rw [e]; omega)⟩
 ·have h1 := Int.emod_nonneg (-n) (b := (len : Int)) (by omega);have h2 := Int.emod_lt_of_pos (-n) (b := (len : Int)) (by omega);by_cases h0 : -n % (len : Int) = 0
  ·exact ⟨0, by omega, .inl (by rw [e, h0]; rfl)⟩
  ·exact ⟨((len : Int) - -n % (len : Int)).toNat, by omega, .inr (by rw [e]; omega)⟩
def ndSize (n : Nat) : Nat := (min n 65536 + 35) / 8 * 8
def dbit (d : Bool) : Nat := if d then 1 else 0
def head20 (key cookie : Nat) (d : Bool) (len : Nat) : List Nat := [110, 100, dbit d, 0] ++ be64 key ++ be32 cookie ++ be32 len
def head24 (key cookie : Nat) (d : Bool) (len : Nat) : List Nat := head20 key cookie d len ++ be32 (sumS (head20 key cookie d len))
def ndTail (data : List Nat) : List Nat := be32 (sumS data) ++ List.replicate (ndSize data.length - 28 - data.length) 0
def needleL (key cookie : Nat) (d : Bool) (data : List Nat) : List Nat := head24 key cookie d data.length ++ data ++ ndTail data
def encN (key cookie : Nat) (d : Bool) (data : List Nat) : List Nat × Nat :=
 if d = true /\ 0 < data.length then ([], 1) else if 65536 < data.length then ([], 5) else (needleL key cookie d data, 0)
def hKey (b : List Nat) : Nat := foldV ((b.drop 4).take 8)
def hCook (b : List Nat) : Nat := val32 (b.drop 12)
def hLen (b : List Nat) : Nat := val32 (b.drop 16)
def hDead (b : List Nat) : Bool := b.getD 2 0 == 1
def HeadOk (b : List Nat) : Prop := hLen b <= 65536 /\ ¬ (hDead b = true /\ 0 < hLen b) /\ b.take 24 = head24 (hKey b) (hCook b) (hDead b) (hLen b)
instance (b : List Nat) : Decidable (HeadOk b) := by unfold HeadOk; infer_instance
def ndDec (b : List Nat) : (Nat × Nat × Bool × List Nat) × Nat × Nat :=
 if b.length < 24 then ((0, 0, false, []), 0, 2)
 else if ¬ HeadOk b then ((0, 0, false, []), 0, 3)
 else if b.length < ndSize (hLen b) then ((0, 0, false, []), 0, 2)
 else if (b.drop (24 + hLen b)).take (ndSize (hLen b) - 24 - hLen b) ≠ ndTail ((b.drop 24).take (hLen b)) then ((hKey b, hCook b, hDead b, []), ndSize (hLen b), 4)
 else ((hKey b, hCook b, hDead b, (b.drop 24).take (hLen b)), ndSize (hLen b), 0)
theorem ndSize_ge (n : Nat) (h : n <= 65536) : n + 28 <= ndSize n /\ ndSize n < n + 36 := by unfold ndSize; omega
theorem ndSize_le (n : Nat) : ndSize n <= 65568 /\ 32 <= ndSize n := by unfold ndSize; omega
theorem dbit_le (d : Bool) : dbit d <= 1 := by cases d <;> decide
theorem head24_len (k c : Nat) (d : Bool) (l : Nat) : (head24 k c d l).length = 24 := rfl
theorem ndTail_len (data : List Nat) (h : data.length <= 65536) : (ndTail data).length = ndSize data.length - 24 - data.length := by
 have := ndSize_ge _ h;unfold ndTail;rw [List.length_append, List.length_replicate]
 show 4 + _ = _
 omega
theorem needleL_len (k c : Nat) (d : Bool) (data : List Nat) (h : data.length <= 65536) : (needleL k c d data).length = ndSize data.length := by
 have := ndSize_ge _ h;unfold needleL;rw [List.length_append, List.length_append, head24_len, ndTail_len _ h];omega
theorem head20_byte (k c : Nat) (d : Bool) (l : Nat) : ∀ x ∈ head20 k c d l, x < 256 := by
 unfold head20;refine byte_app (byte_app (byte_app ?_ (be64_byte k)) (be32_byte c)) (be32_byte l);intro x hx;have := dbit_le d;simp at hx;omega
theorem head24_byte (k c : Nat) (d : Bool) (l : Nat) : ∀ x ∈ head24 k c d l, x < 256 := byte_app (head20_byte k c d l) (be32_byte _)
theorem ndTail_byte (data : List Nat) : ∀ x ∈ ndTail data, x < 256 := by
 unfold ndTail;refine byte_app (be32_byte _) ?_;intro x hx;have := List.eq_of_mem_replicate hx;omega
theorem needleL_byte (k c : Nat) (d : Bool) (data : List Nat) (hb : ∀ x ∈ data, x < 256) : ∀ x ∈ needleL k c d data, x < 256 :=
 byte_app (byte_app (head24_byte k c d _) hb) (ndTail_byte data)
theorem val32_lt' {xs : List Nat} (hb : ∀ x ∈ xs, x < 256) : val32 xs < 4294967296 := by
 have h : ∀ i, xs.getD i 0 < 256 := by
  intro i;by_cases hi : i < xs.length
  ·have e : xs.getD i 0 = xs[i] := by simp [hi]
   rw [e]; exact hb _ (List.getElem_mem hi)
  ·have e : xs.getD i 0 = 0 := by simp; rw [List.getElem?_eq_none (by omega)]; rfl
   rw [e]; decide
 have h0 := h 0; have h1 := h 1; have h2 := h 2; have h3 := h 3;unfold val32;omega
theorem hCook_lt {b : List Nat} (hb : ∀ x ∈ b, x < 256) : hCook b < 4294967296 := val32_lt' (fun x hx => hb x (List.mem_of_mem_drop hx))
theorem hKey_lt {b : List Nat} (hb : ∀ x ∈ b, x < 256) : hKey b < 18446744073709551616 := by
 unfold hKey;have h := foldV_lt (b.drop 4 |>.take 8) (fun x hx => hb x (List.mem_of_mem_drop (List.mem_of_mem_take hx))) ((b.drop 4).take 8).length (Nat.le_refl _);rw [List.take_length] at h;refine Nat.lt_of_lt_of_le h ?_;have : 256 ^ ((b.drop 4).take 8).length <= 256 ^ 8 := Nat.pow_le_pow_right (by decide) (by rw [List.length_take]; omega);exact this
/-! ### fields that were written are read -/
theorem four {xs : List Nat} (h : 4 <= xs.length) : ∃ a b c d r, xs = a :: b :: c :: d :: r := by
 match xs, h with
 | a :: b :: c :: d :: r, _ => exact ⟨a, b, c, d, r, rfl⟩
theorem val32_take {xs : List Nat} (h : 4 <= xs.length) : val32 (xs.take 4) = val32 xs := by
 obtain ⟨a, b, c, d, r, rfl⟩ := four h
 rfl
/-! ### what was written is read -/
/-! ### the document's way of asking for the head -/
theorem below_alloc (w : World) (o : Obj) : Below w.heap.size w (w.alloc o) := (Below.refl _ _).alloc (Nat.le_refl _) _
def Blk (w : World) (B : Nat) (e : TypeId) (g : Nat) (cs : List Value) : Prop := B <= g /\ ∃ cur : Array Value, w.heap[g]? = some (.cells cur e (0, 0)) /\ cur.toList = cs
theorem heap_lt {o : Obj} (h : w.heap[g]? = some o) : g < w.heap.size := (Array.getElem?_eq_some_iff.1 h).1
theorem Blk.lt {e : TypeId} {cs : List Value} (h : Blk w B e g cs) : g < w.heap.size := by
 obtain ⟨_, cur, hg, _⟩ := h;exact heap_lt hg
theorem Blk.cell {e : TypeId} {cs : List Value} (h : Blk w B e g cs) (i : Nat) : w.cell? ⟨g, i, none⟩ = cs[i]? := by
 obtain ⟨_, cur, hg, rfl⟩ := h;rw [cell_of_row w g i cur e (0, 0) hg];simp
theorem Blk.frozen {e : TypeId} {cs : List Value} (h : Blk w B e g cs) (i : Nat) : w.frozen? ⟨g, i, none⟩ = false := by
 obtain ⟨_, cur, hg, rfl⟩ := h;exact frozen_of_row w g i cur e hg
theorem Blk.stored {e : TypeId} {cs : List Value} (h : Blk w B e g cs) (i : Nat) (u : Value) : Blk (w.setCell ⟨g, i, none⟩ u) B e g (cs.set i u) := by
 obtain ⟨hb, cur, hg, rfl⟩ := h;exact ⟨hb, _, heap_setCell_same w g i cur e u hg, Array.toList_setIfInBounds ..⟩
theorem grown_set (w : World) (g i : Nat) (u : Value) : w.grownBy (w.setCell ⟨g, i, none⟩ u) (some g) :=
 ⟨rfl, rfl, rfl, by simp, fun k _ hk => heap_setCell_other w ⟨g, i, none⟩ k u (fun e => hk (by simp [e]))⟩
theorem Blk.new (w : World) (e : TypeId) (cs : Array Value) (hB : B <= w.heap.size) : Blk (w.alloc (.cells cs e)) B e w.heap.size cs.toList := ⟨hB, cs, heap_alloc_new w _, rfl⟩
theorem Blk.kept {e : TypeId} {cs : List Value} {row : Option Nat} (h : Blk w B e g cs) (hg : w.grownBy w' row) (hne : row ≠ some g) : Blk w' B e g cs := by
 have hl := h.lt;obtain ⟨hb, cur, hh, rfl⟩ := h;exact ⟨hb, cur, by rw [hg.block g hl (fun e => hne e.symm)]; exact hh, rfl⟩
theorem Blk.keep {e : TypeId} {cs : List Value} (h : Blk w B e g cs) (hb : Below w.heap.size w w') : Blk w' B e g cs := by
 have hl := h.lt;obtain ⟨hB, cur, hh, rfl⟩ := h;exact ⟨hB, cur, by rw [hb.block g hl]; exact hh, rfl⟩
theorem Blk.more {B' : Nat} {e : TypeId} {cs : List Value} (h : Blk w B e g cs) (hB : B' <= B) : Blk w B' e g cs := ⟨Nat.le_trans hB h.1, h.2⟩
theorem Blk.drewN {e : TypeId} {cs : List Value} (h : Blk w B e g cs) (n : Nat) : Blk (w.drewN n) B e g cs := h
theorem Blk.ne {B' : Nat} {e e' : TypeId} {g' : Nat} {cs cs' : List Value} (h : Blk w B e g cs) (h' : Blk w B' e' g' cs') (hne : e ≠ e') : g ≠ g' := by
 obtain ⟨_, cur, hh, _⟩ := h;obtain ⟨_, cur', hh', _⟩ := h';rintro rfl;rw [hh] at hh';simp only [Option.some.injEq, Obj.cells.injEq] at hh';exact hne hh'.2.1
structure Turn (S : Nat -> Prop) (w w' : World) : Prop where
 os : w'.os = w.os
 tape : w'.tape = w.tape
 output : w'.output = w.output
 size : w.heap.size <= w'.heap.size
 block : ∀ k, k < w.heap.size -> ¬ S k -> w'.heap[k]? = w.heap[k]?
structure Next (F : Nat -> Prop) (w : World) (F' : Nat -> Prop) (w' : World) : Prop where
 turn : Turn F w w'
 foot : ∀ k, F' k -> F k \/ w.heap.size <= k
theorem Turn.refl (S : Nat -> Prop) (w : World) : Turn S w w := ⟨rfl, rfl, rfl, Nat.le_refl _, fun _ _ _ => rfl⟩
theorem Turn.then {S S' : Nat -> Prop} {a b c : World} (h : Turn S a b) (k : Turn S' b c) (hs : ∀ i, S' i -> S i \/ a.heap.size <= i) : Turn S a c :=
 ⟨k.os.trans h.os, k.tape.trans h.tape, k.output.trans h.output, Nat.le_trans h.size k.size, fun i hi hn => by
  rw [k.block i (Nat.lt_of_lt_of_le hi h.size) (fun e => (hs i e).elim hn (fun q => by omega))];exact h.block i hi hn⟩
theorem Turn.trans {S : Nat -> Prop} {a b c : World} (h : Turn S a b) (k : Turn S b c) : Turn S a c := h.then k fun _ => .inl
theorem Turn.mono {S S' : Nat -> Prop} {a b : World} (h : Turn S a b) (hs : ∀ i, S i -> S' i) : Turn S' a b := ⟨h.os, h.tape, h.output, h.size, fun i hi hn => h.block i hi (fun e => hn (hs i e))⟩
theorem Turn.of_below (S : Nat -> Prop) (h : Below w.heap.size w w') : Turn S w w' := ⟨h.os, h.tape, h.output, h.size, fun k hk _ => h.block k hk⟩
theorem Turn.of_grown {row : Option Nat} (h : w.grownBy w' row) : Turn (fun k => some k = row) w w' := ⟨h.os, h.tape, h.output, h.size, fun k hk hn => h.block k hk hn⟩
theorem Turn.below {S : Nat -> Prop} (h : Turn S w w') (hB : B <= w.heap.size) (hs : ∀ k, S k -> B <= k) : Below B w w' :=
 ⟨h.os, h.tape, h.output, h.size, fun k hk => h.block k (by omega) (fun e => by have := hs k e; omega)⟩
theorem Turn.drewN {S : Nat -> Prop} (h : Turn S w w') (n : Nat) : Turn S w (w'.drewN n) := ⟨h.os, h.tape, h.output, h.size, h.block⟩
theorem Next.refl (F : Nat -> Prop) (w : World) : Next F w F w := ⟨Turn.refl _ _, fun _ => .inl⟩
theorem Next.of_below (F : Nat -> Prop) (h : Below w.heap.size w w') : Next F w F w' := ⟨Turn.of_below _ h, fun _ => .inl⟩
theorem Next.trans {F'' : Nat -> Prop} {a b c : World} (h : Next F a F' b) (k : Next F' b F'' c) : Next F a F'' c :=
 ⟨h.turn.then k.turn h.foot, fun i hi => by
  rcases k.foot i hi with h1 | h1
  ·exact h.foot i h1
  ·exact .inr (Nat.le_trans h.turn.size h1)⟩
theorem Next.drewN (h : Next F w F' w') (n : Nat) : Next F w F' (w'.drewN n) := ⟨h.turn.drewN n, h.foot⟩
theorem Next.below (h : Next F w F' w') (hB : B <= w.heap.size) (hs : ∀ k, F k -> B <= k) : Below B w w' := h.turn.below hB hs
theorem Next.up (h : Next F w F' w') (hB : B <= w.heap.size) (hs : ∀ k, F k -> B <= k) : ∀ k, F' k -> B <= k := fun k hk => by
 rcases h.foot k hk with h1 | h1
 ·exact hs k h1
 ·omega
def Off (S : Nat -> Prop) (v : Value) : Prop := ∀ g, v.ownBlock = some g -> ¬ S g
theorem Off.nil (S : Nat -> Prop) : Off S (.slice none 0 0) := fun _ h => by simp [Value.ownBlock] at h
theorem IsB.turn {S : Nat -> Prop} {v : Value} {xs : List Nat} (h : IsB w v xs) (t : Turn S w w') (ho : Off S v) : IsB w' v xs := by
 obtain ⟨A, c, rfl, hr, hn⟩ := h;refine ⟨A, c, rfl, fun hne => ?_, hn⟩;obtain ⟨b, off, rfl, hc⟩ := hr hne;refine ⟨b, off, rfl, fun i hi => ?_⟩;have h1 := hc i hi;have hb := t.block b (cell_lt h1) (ho b rfl);rw [<- h1];exact World.cell?_of_block hb
theorem Own.turn {S : Nat -> Prop} {v : Value} {xs : List Nat} (h : Own w B v xs) (t : Turn S w w') (ho : Off S v) : Own w' B v xs := by
 unfold Own at h ⊢;refine ⟨h.1, ?_⟩;rcases h.2 with hn | ⟨g, cap, cur, hv, h1, h2, r⟩
 ·exact .inl hn
 ·refine .inr ⟨g, cap, cur, hv, h1, ?_, r⟩;rw [t.block g (heap_lt h2) (ho g (by rw [hv]; rfl))];exact h2
theorem Own.lt {v : Value} {xs : List Nat} (h : Own w B v xs) : ∀ g, v.ownBlock = some g -> B <= g /\ g < w.heap.size := World.ownsRow.lt h
theorem Blk.turn {S : Nat -> Prop} {e : TypeId} {cs : List Value} (h : Blk w B e g cs) (t : Turn S w w') (ho : ¬ S g) : Blk w' B e g cs := by
 have hl := h.lt;obtain ⟨hB, cur, hh, rfl⟩ := h;exact ⟨hB, cur, by rw [t.block g hl ho]; exact hh, rfl⟩
set_option maxHeartbeats 400000 in
theorem clone_any (A : Option Addr) (n c : Nat) (xs : List Nat) (w : World) (hA : IsB w (.slice A n c) xs) (hn : xs.length = n) (h3 : n <= 1099511627776) :
  Calls Try.prog 53 #[.slice A n c] w fun e w' => ∃ s, e = .returned s /\ Own w' w.heap.size s xs /\ Below w.heap.size w w' := by
 have HA := hide hA;have HN := hide hn;have q22 : ∀ (w : World) (a : Option Addr) (n c n' c' : Nat), (binOp .eql 23 (.slice a n c) (.slice none n' c')).run Try.prog w = .ok (.bool a.isNone) w := fun w a n c n' c' => Lib.run_eql_slice_nil w _ _ a n c n' c' Try.underlying23
 rcases A with _ | a
 ·have e0 : xs = [] := by
   rcases xs with _ | ⟨y, ys⟩
   ·rfl
   ·obtain ⟨_, _, e, _⟩ := hA.rd (by simp);cases e
  subst e0;have h0 : n = 0 := by simpa using hn.symm
  subst h0;clear hA hn;go_enter Try.func53, Try.ntmps53;go_wp2_with fail
  go_ret;exact ⟨_, rfl, World.ownsRow_nil _ _ _ _, Below.refl _ _⟩
 ·clear hA hn;have nb : Below w.heap.size w (w.alloc (.cells #[] 5)) := (Below.refl _ _).alloc (Nat.le_refl _) _;go_enter Try.func53, Try.ntmps53;go_wp2_with (at_builtin; refine halt ?_)
  refine ⟨?_⟩;refine wpList_append_bytes rfl (.tmp 5) (.tmp 6) rfl w.heap.size _ [] rfl (own_lit w #[] [] rfl (by decide)) _ xs rfl (HA.out.keep nb) (by rw [HN.out, List.length_nil]; omega) nb.size ?_;intro s1 w1 o1 k1;rw [List.nil_append] at o1;have O1 := hide o1;have K1 := hide (nb.trans k1);clear nb o1 k1;go_wp2_with fail
  go_ret;exact ⟨_, rfl, O1.out, K1.out⟩
theorem wpList_append_at {ops : Array Oper} {rest : List Oper} {o : Oper} {a : Act} {Q : Exit -> Act -> World -> Prop} (hgd : o.guard = none) (s x : Operand)
  (ho : o.op = .call { callee := .builtin .append, args := #[s, x], argTypes := #[23, 23] })
  (B : Nat) (v : Value) (xs : List Nat) (hs : a.eval s = v) (hown : Own w B v xs)
  (u : Value) (ys : List Nat) (hx : a.eval x = u) (hr : IsB w u ys)
  (hlen : xs.length + ys.length <= 140737488355328) (hbase : B <= w.heap.size)
  (h : ∀ v' w', Own w' B v' (xs ++ ys) -> w.grownBy w' v.ownBlock -> (v'.ownBlock = v.ownBlock \/ v'.ownBlock = some w.heap.size) -> wpList Try.prog ops Q rest (a.put o.dst v') w') : wpList Try.prog ops Q (o :: rest) a w := by
 obtain ⟨i0, hi, hz0, hz1, hz2⟩ := info_parts Try.info_u8';obtain ⟨A, c, rfl, hr, hn, _⟩ := hr;have fin : ∀ v' w', w'.ownsRow B 5 1 v' (xs.length + ys.length) ((xs.map fun x : Nat => Value.int .u8 (x : Int)) ++ (ys.map fun x : Nat => Value.int .u8 (x : Int))) -> w.grownBy w' v.ownBlock -> (v'.ownBlock = v.ownBlock \/ v'.ownBlock = some w.heap.size) -> wpList Try.prog ops Q rest (a.put o.dst v') w' := by
  intro v' w' hown' hg hl;exact h v' w' (by unfold Own; simpa using hown') hg hl
 rcases A with _ | ad
 ·have h0 := hn rfl;subst h0;have hys : ys = [] := by
   rcases ys with _ | ⟨y, ys⟩
   ·rfl
   ·obtain ⟨_, _, e, _⟩ := hr (by simp);cases e
  subst hys;exact wpList_append_own_none hgd s x _ ho B 5 i0 1 Try.underlying23 hi v _ _ hs hown hx (fin v w (by simpa [Own] using hown) (World.grownBy.refl w _) (.inl rfl))
 ·refine wpList_append_own_at w hgd s x _ ho B 5 i0 (.int .u8 0) 1 1 Try.underlying23 hi hz0 hz1 hz2 rfl (by decide) v _ _ hs hown ad ys.length c (ys.map fun x : Nat => Value.int .u8 (x : Int)) hx (by simp) ?_ ?_ (by unfold maxLen; omega) (by omega) hbase (fun v' w' h1 h2 _ h4 => fin v' w' h1 h2 h4)
  ·intro j u hu;have hj : j < ys.length := by
    rcases Nat.lt_or_ge j ys.length with h | h
    ·exact h
    ·simp [h] at hu
   obtain ⟨b, off, e, hc⟩ := hr (by intro e; rw [e] at hj; simp at hj);cases e
   have := hc j hj;simp [hj] at hu;subst hu;simpa [add_off, hj] using this
  ·intro u hu;simp at hu;obtain ⟨y, _, rfl⟩ := hu
   rfl
set_option maxHeartbeats 400000 in
theorem ndsize_any (z : Int) (w : World) (h0 : -9223372036854775808 <= z) (h1 : z <= 9223372036854775807) :
  Calls Try.prog 67 #[.int .i64 z] w fun e w' => e = .returned (.int .i64 (ndSize z.toNat : Nat)) /\ w = w' := by
 by_cases hn : z < 0
 ·have e : ndSize z.toNat = 32 := by unfold ndSize; omega
  rw [e];clear e;go_enter Try.func67, Try.ntmps67;go_wp2
  go_ret;exact ⟨rfl, rfl⟩
 ·by_cases hb : 65536 < z
  ·have e : ndSize z.toNat = 65568 := by unfold ndSize; omega
   rw [e];clear e;go_enter Try.func67, Try.ntmps67;go_wp2
   go_ret;exact ⟨rfl, rfl⟩
  ·obtain ⟨n, rfl⟩ : ∃ n : Nat, z = (n : Int) := ⟨z.toNat, by omega⟩;have e : ((ndSize (n : Int).toNat : Nat) : Int) = (24 + (n : Int) + 4 + 8 - 1) / 8 * 8 := by unfold ndSize; omega
   rw [e];clear e;go_enter Try.func67, Try.ntmps67;go_wp2
   go_ret;exact ⟨rfl, rfl⟩
def RdV (w : World) (A : Option Addr) (vs : List Value) : Prop :=
 vs ≠ [] -> ∃ b off, A = some ⟨b, off, none⟩ /\ ∀ i, i < vs.length -> w.cell? ⟨b, off + i, none⟩ = some (vs.getD i (.slice none 0 0))
theorem RdV.below {A : Option Addr} {vs : List Value} (h : RdV w A vs) (hb : Below w.heap.size w w') : RdV w' A vs := by
 intro hne;obtain ⟨b, off, e, hc⟩ := h hne;exact ⟨b, off, e, fun i hi => (hb.cell (cell_lt (hc i hi))).trans (hc i hi)⟩
theorem RdV.drewN {A : Option Addr} {vs : List Value} (h : RdV w A vs) (n : Nat) : RdV (w.drewN n) A vs := h
def IsBs (w : World) (vs : List Value) (xss : List (List Nat)) : Prop := vs.length = xss.length /\ ∀ i, i < vs.length -> IsB w (vs.getD i (.slice none 0 0)) (xss.getD i [])
theorem IsBs.below {vs : List Value} {xss : List (List Nat)} (h : IsBs w vs xss) (hb : Below w.heap.size w w') : IsBs w' vs xss := ⟨h.1, fun i hi => (h.2 i hi).keep hb⟩
theorem IsBs.drewN {vs : List Value} {xss : List (List Nat)} (h : IsBs w vs xss) (n : Nat) : IsBs (w.drewN n) vs xss := h
theorem rdV_new (w : World) (cs : Array Value) (e : TypeId) (vs : List Value) (b : Nat) (hb : b = w.heap.size) (h : cs.toList = vs) : RdV (w.alloc (.cells cs e)) (some ⟨b, 0, none⟩) vs := by
 subst hb; subst h;intro _;refine ⟨_, 0, rfl, fun i hi => ?_⟩;have hc : cs[i]? = some (cs.toList.getD i (.slice none 0 0)) := by
  rw [<- Array.getElem?_toList];simp at hi;simp [hi]
 rw [Nat.zero_add, <- hc];exact cell_of_row _ _ _ _ _ (0, 0) (heap_alloc_new w _)
theorem isB_drop {off : Nat} {xs : List Nat} (h : IsB w (.slice (some ⟨b, off, none⟩) n c) xs) (k m d : Nat) (hm : m = n - k) (hd : d = c - k) (hk : k <= n) : IsB w (.slice (some ⟨b, off + k, none⟩) m d) (xs.drop k) := by
 subst hm; subst hd;obtain ⟨A', c', e, r, h1, h2, h3⟩ := h;cases e
 refine ⟨_, _, by rw [List.length_drop], ?_, (fun h => by cases h), by rw [List.length_drop]; omega, by omega⟩;intro hne;have hl : 0 < (xs.drop k).length := by
  rcases e : xs.drop k with _ | ⟨y, ys⟩
  ·exact absurd e hne
  ·simp
 obtain ⟨b', off', e, hc⟩ := r (by intro e; rw [e] at hl; simp at hl);cases e
 refine ⟨b, off + k, rfl, fun i hi => ?_⟩;rw [List.length_drop] at hi;have := hc (k + i) (by omega);rw [Nat.add_assoc, this];congr 2;simp
theorem isB_tail {off : Nat} {xs : List Nat} (h : IsB w (.slice (some ⟨b, off, none⟩) n c) xs) (k : Nat) (hk : k <= n) : IsB w (.slice (some ⟨b, if c = k then off else off + k, none⟩) (n - k) (c - k)) (xs.drop k) := by
 by_cases hc : c = k
 ·obtain ⟨A', c', e, r, h1, h2, h3⟩ := h;cases e
  have h0 : xs.drop k = [] := List.eq_nil_of_length_eq_zero (by rw [List.length_drop]; omega);rw [if_pos hc, h0];have hn : xs.length - k = 0 := by omega
  rw [hn];exact ⟨_, _, rfl, fun h => absurd rfl h, (fun h => by cases h), Nat.zero_le _, by omega⟩
 ·rw [if_neg hc];exact isB_drop h k _ _ rfl rfl hk
theorem isBs3 {u v z : Value} {xs ys zs : List Nat} (h1 : IsB w u xs) (h2 : IsB w v ys) (h3 : IsB w z zs) : IsBs w [u, v, z] [xs, ys, zs] := by
 refine ⟨rfl, fun i hi => ?_⟩
 match i, hi with
 | 0, _ => exact h1
 | 1, _ => exact h2
 | 2, _ => exact h3
theorem isB_len {A : Option Addr} {xs : List Nat} (h : IsB w (.slice A n c) xs) : xs.length = n /\ n <= c /\ c <= 9223372036854775807 := by
 obtain ⟨_, _, e, _, _, h2, h3⟩ := h;cases e
 exact ⟨rfl, h2, h3⟩
theorem isB_at {A : Option Addr} {xs : List Nat} (h : IsB w (.slice A n c) xs) (h1 : 1 <= n) : ∃ b off, A = some ⟨b, off, none⟩ := by
 have hl := (isB_len h).1;obtain ⟨b, off, e, _⟩ := h.rd (by intro e; rw [e] at hl; simp at hl; omega);exact ⟨b, off, e⟩
theorem isB_nilw (w : World) : IsB w (.slice none 0 0) [] := ⟨none, 0, rfl, fun h => absurd rfl h, fun _ => rfl, Nat.zero_le _, by decide⟩
def TailOk (b : List Nat) : Prop := (b.drop (24 + hLen b)).take (ndSize (hLen b) - 24 - hLen b) = ndTail ((b.drop 24).take (hLen b))
instance (b : List Nat) : Decidable (TailOk b) := by unfold TailOk; infer_instance
theorem ndDec_short {b : List Nat} (h : b.length < 24) : ndDec b = ((0, 0, false, []), 0, 2) := by unfold ndDec; rw [if_pos h]
theorem ndDec_form {b : List Nat} (h : 24 <= b.length) (hno : ¬ HeadOk b) : ndDec b = ((0, 0, false, []), 0, 3) := by unfold ndDec; rw [if_neg (by omega), if_pos hno]
theorem ndDec_short2 {b : List Nat} (h : 24 <= b.length) (hok : HeadOk b) (hs : b.length < ndSize (hLen b)) : ndDec b = ((0, 0, false, []), 0, 2) := by unfold ndDec; rw [if_neg (by omega), if_neg (fun h => h hok), if_pos hs]
theorem ndDec_sum {b : List Nat} (h : 24 <= b.length) (hok : HeadOk b) (hs : ndSize (hLen b) <= b.length) (ht : ¬ TailOk b) : ndDec b = ((hKey b, hCook b, hDead b, []), ndSize (hLen b), 4) := by unfold ndDec; rw [if_neg (by omega), if_neg (fun h => h hok), if_neg (by omega)]; exact if_pos (fun e => ht e)
theorem ndDec_ok {b : List Nat} (h : 24 <= b.length) (hok : HeadOk b) (hs : ndSize (hLen b) <= b.length) (ht : TailOk b) : ndDec b = ((hKey b, hCook b, hDead b, (b.drop 24).take (hLen b)), ndSize (hLen b), 0) := by unfold ndDec; rw [if_neg (by omega), if_neg (fun h => h hok), if_neg (by omega), if_neg (fun h => h ht)]
def txt (xs : List Nat) : ByteArray := ⟨(xs.map UInt8.ofNat).toArray⟩
theorem txt_inj {xs ys : List Nat} (hx : ∀ x ∈ xs, x < 256) (hy : ∀ y ∈ ys, y < 256) (h : txt xs = txt ys) : xs = ys := by
 have h1 : xs.map UInt8.ofNat = ys.map UInt8.ofNat := by
  have := congrArg (fun s : ByteArray => s.data.toList) h;simpa [txt] using this
 refine List.ext_getElem ?_ fun i a b => ?_
 ·have := congrArg List.length h1;simpa using this
 ·have h2 := congrArg (fun l => (l[i]?).map UInt8.toNat) h1;simp [a, b] at h2;have h3 := hx xs[i] (List.getElem_mem a);have h4 := hy ys[i] (List.getElem_mem b);omega
theorem convert_txt (w : World) (A : Option Addr) (n c : Nat) (xs : List Nat) (hA : IsB w (.slice A n c) xs) (hb : ∀ x ∈ xs, x < 256) :
  (convert 23 9 (.slice A n c)).run Try.prog w = .ok (.string (txt xs)) w := by
 obtain ⟨hl, h1, h2⟩ := isB_len hA;rcases A with _ | ad
 ·obtain ⟨A', c', e, r, h0, _⟩ := hA;cases e
  have hc := h0 rfl;obtain rfl : xs = [] := List.eq_nil_of_length_eq_zero (by omega);have e0 : (convert 23 9 (.slice none 0 0)).run Try.prog w = .ok (.string (txt [])) w := by
   rw [run_convert_bytes_string w _ _ 5 none _ _ Try.underlying23 Try.underlying5 Try.underlying9]
   rfl
  rw [hc];exact e0
 ·by_cases h0 : xs = []
  ·subst h0;have hn : n = 0 := by simpa using hl.symm
   subst hn;have h := run_convert_bytes_back (P := Try.prog) w 23 9 5 ad c [] Try.underlying23 Try.underlying5 Try.underlying9 (fun j hj => by simp at hj);exact h
  ·obtain ⟨g, off, e, hc⟩ := hA.rd h0;cases e
   have h := run_convert_bytes_back (P := Try.prog) w 23 9 5 ⟨g, off, none⟩ c (xs.map UInt8.ofNat) Try.underlying23 Try.underlying5 Try.underlying9 (fun j hj => by
    have hj' : j < xs.length := by simpa using hj
    rw [add_off, hc j hj'];have h3 := hb xs[j] (List.getElem_mem hj');simp [hj'];omega)
   rw [List.length_map, hl] at h;exact h
set_option maxHeartbeats 800000 in
theorem bytesEqual_any (A B : Option Addr) (n m ca cb : Nat) (xs ys : List Nat) (w : World) (hA : IsB w (.slice A n ca) xs) (hB : IsB w (.slice B m cb) ys) (hx : ∀ x ∈ xs, x < 256) (hy : ∀ y ∈ ys, y < 256) :
  Calls Try.prog 73 #[.slice A n ca, .slice B m cb] w fun e w' => e = .returned (.bool (decide (xs = ys))) /\ w = w' := by
 have c1 := convert_txt w A n ca xs hA hx;have c2 := convert_txt w B m cb ys hB hy;have hq : ((txt xs).toList == (txt ys).toList) = decide (xs = ys) := by
  rw [Bool.eq_iff_iff, decide_eq_true_iff, beq_iff_eq, ByteArray.toList_eq, ByteArray.toList_eq];refine ⟨fun h => txt_inj hx hy ?_, fun h => by rw [h]⟩;exact congrArg (fun l : List UInt8 => (⟨l.toArray⟩ : ByteArray)) h
 obtain ⟨u, hu⟩ : ∃ u, u = txt xs := ⟨_, rfl⟩;obtain ⟨v, hv⟩ : ∃ v, v = txt ys := ⟨_, rfl⟩;rw [<- hu] at c1 hq;rw [<- hv] at c2 hq;have HQ := hide hq;clear hu hv hq hA hB hx hy;go_enter Try.func73, Try.ntmps73;go_wp2_with fail
 go_ret;exact ⟨ret_bool HQ.out, rfl⟩
end Go.Proofs.Ytbmhfnhfhdgdgaa
