/- The contracts of slices.Grow of nothing and slices.Concat of rows of bytes. Condition: the rows together are below 2 to the 40. The contracts of frame.Encode an -/
import Derived.Lib.AppendZeros
import Derived.Test.YtedlibkkeegnaaaGreatRp8
namespace Go.Proofs.YtedlibkkeegnaaaGreat
open Go.RowKit
variable {w : World} {n c b : Nat}
theorem flat_step (xss : List (List Nat)) (k : Nat) (h : k < xss.length) : (xss.take (k + 1)).flatten = (xss.take k).flatten ++ xss.getD k [] := by
 rw [List.take_succ_eq_append_getElem h, List.flatten_append];simp [h]
theorem flat_le (xss : List (List Nat)) (k : Nat) : (xss.take k).flatten.length <= xss.flatten.length := by
 have h : xss = xss.take k ++ xss.drop k := (List.take_append_drop k xss).symm;have e : xss.flatten.length = ((xss.take k).flatten ++ (xss.drop k).flatten).length := by rw [<- List.flatten_append, List.take_append_drop]
 rw [e, List.length_append];omega
theorem own_empty (w : World) (g cap : Nat) (cur : Array Value) (hg : g = w.heap.size) (hc : cap <= maxLen) (hs : cur.size = cap) : Own (w.alloc (.cells cur 5)) w.heap.size (.slice (some ⟨g, 0, none⟩) 0 cap) [] := by
 subst hg;unfold Own;exact ⟨rfl, .inr ⟨_, cap, cur, rfl, Nat.le_refl _, heap_alloc_new w _, Nat.zero_le _, hc, by omega, by simp⟩⟩
set_option maxRecDepth 100000 in
set_option maxHeartbeats 800000 in
theorem grow_nil (n : Nat) (w : World) (hn : n <= 140737488355328) :
  Calls Tryz.prog 109 #[.slice none 0 0, .int .i64 (n : Int)] w fun e w' => ∃ s, e = .returned s /\ Own w' w.heap.size s [] /\ Below w.heap.size w w' := by
 by_cases h0 : n = 0
 ·subst h0;go_enter Tryz.func109, Tryz.ntmps109;go_wp2_with fail
  go_ret;exact ⟨_, rfl, World.ownsRow_nil _ _ _ _, Below.refl _ _⟩
 ·obtain ⟨i0, hi, hz0, hz1, hz2⟩ := info_parts Tryz.info_u8';have hge := grownCap_ge w n 0 5;have hle := grownCap_le_maxLen w n 0 5 (by unfold maxLen; omega);have hr := fun ty => Lib.run_append_nil_zeros (P := Tryz.prog) w 32 3 ty 5 i0 (.int .u8 0) .i64 .i64 Tryz.underlying32 Tryz.underlying3 hi hz0 n (by omega) (by omega) (by omega) (by rw [hz2]; omega)
  obtain ⟨G, hG⟩ : ∃ G, G = grownCap w n 0 5 := ⟨_, rfl⟩;obtain ⟨cur, hcur⟩ : ∃ cur, cur = Builtin.zeroCells (Value.int .u8 0).cells n ++ Builtin.zeroCells (Value.int .u8 0).cells (G - n) := ⟨_, rfl⟩;rw [<- hG] at hge hle hr;rw [<- hcur] at hr;have hs : cur.size = G := by
   have e : (Value.int .u8 0).cells.size = 1 := rfl;rw [hcur, Array.size_append, size_zeroCells, size_zeroCells, e];omega
  have hpos : 0 < (n : Int) := by omega
  have hle2 : G <= 9223372036854775807 := by unfold maxLen at hle; omega
  have HR := hide hr;have HS := hide (And.intro hle hs);clear hr hle hs hcur hG;go_enter Tryz.func109, Tryz.ntmps109;go_wp2_with (at_builtin; refine halt ?_)
  refine ⟨?_⟩;refine Lib.wpList_append_run _ rfl _ _ _ _ rfl _ _ rfl rfl _ _ (HR.out _) ?_;go_wp2_with fail
  go_ret;exact ⟨_, rfl, own_empty w.drew _ G cur rfl HS.out.1 HS.out.2, ((Below.refl _ _).drew).alloc (Nat.le_refl _) _⟩
set_option maxHeartbeats 1600000 in
theorem concat_any (A : Option Addr) (n c : Nat) (vs : List Value) (xss : List (List Nat)) (w : World) (hA : RdV w A vs) (hn : vs.length = n) (hB : IsBs w vs xss) (ht : xss.flatten.length <= 1099511627776) (hn2 : n <= 9223372036854775807) :
  Calls Tryz.prog 83 #[.slice A n c] w fun e w' => ∃ s, e = .returned s /\ Own w' w.heap.size s xss.flatten /\ Below w.heap.size w w' := by
 have HN := hide hn;have HA := hide hA;have HB := hide hB;have HT := hide ht;have HX := hide (show xss.length = n by rw [<- hB.1, hn]);clear hn hA hB ht;go_enter Tryz.func83, Tryz.ntmps83;go_wp2
 go_loop [3, 11] (fun s i => ∃ k : Nat, k <= n /\ i = .int .i64 (k : Int) /\ s = .int .i64 ((xss.take k).flatten.length : Nat)) (fun _ i => n - (intOf i).toNat)
 case atStart => exact ⟨0, Nat.zero_le _, rfl, rfl⟩
 case round =>
  obtain ⟨k, hk, rfl, rfl⟩ := hrel;have hle := flat_le xss k;have hT := HT.out;by_cases hlt : k < n
  ·obtain ⟨b, off, rfl, hc⟩ := HA.out (by intro e; have := HN.out; rw [e] at this; simp at this; omega);have ck := hc k (by rw [HN.out]; exact hlt);obtain ⟨A1, c1, e1, _⟩ := HB.out.2 k (by rw [HN.out]; exact hlt);rw [e1] at ck;have hst := flat_step xss k (by rw [HX.out]; exact hlt);have hle2 := flat_le xss (k + 1);rw [hst, List.length_append] at hle2;have HS : Hid ((xss.take (k + 1)).flatten.length = (xss.take k).flatten.length + (xss.getD k []).length) := by unfold Hid; rw [hst, List.length_append]
   obtain ⟨p, hp⟩ : ∃ p, p = (xss.take k).flatten.length := ⟨_, rfl⟩;obtain ⟨q, hq⟩ : ∃ q, q = (xss.getD k []).length := ⟨_, rfl⟩;rw [<- hp] at hle hle2 HS ⊢;rw [<- hq] at hle2 HS ck;clear hp hq hst hc e1;have h0 : ¬ ((p : Int) + (q : Int) < 0) := by omega
   have h1 : p + q <= 1099511627776 := by omega
   clear hT hle hle2;go_wp2
   go_round
   case rel => exact ⟨k + 1, by omega, by go_num, by rw [HS.out]; go_num⟩
   case measure => simp [intOf]; omega
  ·obtain rfl : k = n := by omega
   have e : xss.take k = xss := List.take_of_length_le (by rw [HX.out]; exact Nat.le_refl _);rw [e] at hle ⊢;obtain ⟨m, hm⟩ : ∃ m, m = xss.flatten.length := ⟨_, rfl⟩;rw [<- hm] at hT ⊢;clear hle e hlt hm;go_wp2_with fail
   refine (grow_nil m w (by omega)).mono ?_;rintro e w1 ⟨s1, rfl, o1, b1⟩;go_wp2_with fail
   go_loopw [6, 27] (fun s i wr => ∃ j : Nat, j <= k /\ i = .int .i64 (j : Int) /\ Hid (Own wr w.heap.size s (xss.take j).flatten) /\ Hid (Below w.heap.size w wr)) (fun _ i _ => k - (intOf i).toNat)
   case atStart => exact ⟨0, Nat.zero_le _, rfl, o1, b1⟩
   case round =>
    obtain ⟨j, hj, rfl, hown, hbel⟩ := hrel;by_cases hlt : j < k
    ·obtain ⟨b, off, rfl, hc⟩ := (HA.out.below hbel.out) (by intro e; have := HN.out; rw [e] at this; simp at this; omega);have ck := hc j (by rw [HN.out]; exact hlt);obtain hIs := (HB.out.below hbel.out).2 j (by rw [HN.out]; exact hlt);have hst := flat_step xss j (by rw [HX.out]; exact hlt);have hle2 := flat_le xss (j + 1);rw [hst, List.length_append] at hle2;have HST := hide hst;have HL : Hid ((xss.take j).flatten.length + (xss.getD j []).length <= 1099511627776) := by unfold Hid; exact Nat.le_trans hle2 HT.out
     obtain ⟨v, hv⟩ : ∃ v, v = vs.getD j (.slice none 0 0) := ⟨_, rfl⟩;rw [<- hv] at ck hIs;have HI := hide hIs;clear hst hle2 hc hIs hv;go_wp2_with (at_builtin; refine halt ?_)
     refine ⟨?_⟩;refine wpList_append_bytes rfl (.tmp 31) (.tmp 32) rfl w.heap.size _ _ rfl hown.out _ _ rfl HI.out (by have := HL.out; omega) hbel.out.size ?_;intro s2 w2 o2 k2;rw [<- HST.out] at o2;have O2 := hide o2;have K2 := hide (hbel.out.trans k2);clear o2 k2 HL;go_wp2_with fail
     go_roundw
     case rel => exact ⟨j + 1, by omega, by go_num, O2, K2⟩
     case measure => simp [intOf]; omega
    ·obtain rfl : j = k := by omega
     have e : xss.take j = xss := List.take_of_length_le (by rw [HX.out]; exact Nat.le_refl _);rw [e] at hown;clear e hlt;go_wp2_with fail
     go_ret;exact ⟨_, rfl, hown.out, hbel.out⟩
def frameL (p : List Nat) : List Nat := be32 p.length ++ be32 (sumS (be32 p.length ++ p)) ++ p
theorem sumS_lt (xs : List Nat) : sumS xs < 4294967296 := by unfold sumS; omega
theorem IsB.drop {off : Nat} {xs : List Nat} (h : IsB w (.slice (some ⟨b, off, none⟩) n c) xs) (k m d : Nat) (hm : m = n - k) (hd : d = c - k) (hk : k <= n) : IsB w (.slice (some ⟨b, off + k, none⟩) m d) (xs.drop k) := by
 subst hm; subst hd;obtain ⟨A', c', e, r, h1, h2, h3⟩ := h;cases e
 refine ⟨_, _, by rw [List.length_drop], ?_, (fun h => by cases h), by rw [List.length_drop]; omega, by omega⟩;intro hne;have hl : 0 < (xs.drop k).length := by
  rcases e : xs.drop k with _ | ⟨y, ys⟩
  ·exact absurd e hne
  ·simp
 obtain ⟨b', off', e, hc⟩ := r (by intro e; rw [e] at hl; simp at hl);cases e
 refine ⟨b, off + k, rfl, fun i hi => ?_⟩;rw [List.length_drop] at hi;have := hc (k + i) (by omega);rw [Nat.add_assoc, this];congr 2;simp
theorem IsBs.two {u v : Value} {xs ys : List Nat} (h1 : IsB w u xs) (h2 : IsB w v ys) : IsBs w [u, v] [xs, ys] := by
 refine ⟨rfl, fun i hi => ?_⟩
 match i, hi with
 | 0, _ => exact h1
 | 1, _ => exact h2
theorem IsBs.three {u v z : Value} {xs ys zs : List Nat} (h1 : IsB w u xs) (h2 : IsB w v ys) (h3 : IsB w z zs) : IsBs w [u, v, z] [xs, ys, zs] := by
 refine ⟨rfl, fun i hi => ?_⟩
 match i, hi with
 | 0, _ => exact h1
 | 1, _ => exact h2
 | 2, _ => exact h3
set_option maxHeartbeats 400000 in
theorem sumOf_any (A B : Option Addr) (n m c d : Nat) (xs ys : List Nat) (w : World) (hA : IsB w (.slice A n c) xs) (hB : IsB w (.slice B m d) ys) (hn : xs.length = n) (hm : ys.length = m)
  (hx : ∀ x ∈ xs, x < 256) (hy : ∀ x ∈ ys, x < 256) (ln : n + m <= 1099511627776) :
  Calls Tryz.prog 86 #[.slice A n c, .slice B m d] w fun e w' => e = .returned (.int .u32 (sumS (xs ++ ys) : Nat)) /\ Below w.heap.size w w' := by
 have HA := hide hA;have HB := hide hB;have HL : Hid ((xs ++ ys).length = n + m) := by unfold Hid; rw [List.length_append, hn, hm]
 have HY := hide (byte_app hx hy);clear hA hB hn hm hx hy;go_enter Tryz.func86, Tryz.ntmps86;go_wp2_with fail
 have nb : Below w.heap.size w (w.alloc (.cells #[.slice A n c, .slice B m d] 32)) := (Below.refl _ _).alloc (Nat.le_refl _) _;refine (concat_any _ 2 2 [.slice A n c, .slice B m d] [xs, ys] _ (rdV_new w _ _ _ _ rfl rfl) rfl (IsBs.two (HA.out.keep nb) (HB.out.keep nb)) (by simp only [List.flatten_cons, List.flatten_nil, List.append_nil]; rw [HL.out]; omega) (by decide)).mono ?_;rintro e w1 ⟨s1, rfl, o1, k1⟩;simp only [List.flatten_cons, List.flatten_nil, List.append_nil] at o1;obtain ⟨A1, c1, rfl, i1, l1, m1⟩ := o1.isB.form (n := n + m) HL.out;have I1 := hide i1;have K1 := hide (below_step nb k1);clear nb o1 i1 k1;go_wp2_with fail
 refine (sum_any A1 (n + m) c1 (xs ++ ys) _ I1.out.rd HL.out.symm HY.out (by omega)).mono ?_;rintro e w2 ⟨rfl, rfl⟩;go_wp2_with fail
 go_ret;exact ⟨rfl, K1.out⟩
set_option maxHeartbeats 800000 in
theorem encode_any (A : Option Addr) (n c : Nat) (p : List Nat) (w : World) (hA : IsB w (.slice A n c) p) (hn : p.length = n) (hb : ∀ x ∈ p, x < 256) (h : n <= 1048576) :
  Calls Tryz.prog 98 #[.slice A n c] w fun e w' => ∃ s, e = .returned (.tuple #[s, .int .i64 0]) /\ Own w' w.heap.size s (frameL p) /\ Below w.heap.size w w' := by
 have HA := hide hA;have HN := hide hn;have HB := hide hb;clear hA hn hb;go_enter Tryz.func98, Tryz.ntmps98;go_wp2_with fail
 refine (put32_any _ n (by omega) _ (by omega)).mono ?_;rintro e w1 ⟨s1, rfl, o1, k1⟩;obtain ⟨A1, c1, rfl, i1, l1, m1⟩ := o1.isB.form (n := 4) rfl;have I1 := hide i1;have IP := hide (HA.out.keep k1);have K1 := hide k1;clear o1 i1 k1 HA;go_wp2_with fail
 refine (sumOf_any A1 A 4 n c1 c (be32 n) p _ I1.out IP.out rfl HN.out (be32_byte n) HB.out (by omega)).mono ?_;rintro e w2 ⟨rfl, k2⟩;have I2 := hide (I1.out.keep k2);have IP2 := hide (IP.out.keep k2);have K2 := hide (below_step K1.out k2);clear k2 I1 IP K1;have HS := hide (sumS_lt (be32 n ++ p));have HF : Hid (frameL p = be32 n ++ be32 (sumS (be32 n ++ p)) ++ p) := by unfold Hid frameL; rw [HN.out]
 obtain ⟨t, ht⟩ : ∃ t, t = sumS (be32 n ++ p) := ⟨_, rfl⟩;rw [<- ht] at HS HF ⊢;clear ht;go_wp2_with fail
 refine (put32_any _ t rfl _ HS.out).mono ?_;rintro e w3 ⟨s3, rfl, o3, k3⟩;obtain ⟨A3, c3, rfl, i3, l3, m3⟩ := o3.isB.form (n := 4) rfl;have I3 := hide i3;have I2 := hide (I2.out.keep k3);have IP2 := hide (IP2.out.keep k3);have K3 := hide (below_step K2.out k3);clear o3 i3 k3 K2;have nb : Below w3.heap.size w3 (w3.alloc (.cells #[.slice A1 4 c1, .slice A3 4 c3, .slice A n c] 32)) := (Below.refl _ _).alloc (Nat.le_refl _) _;have NB := hide nb;clear nb;go_wp2_with fail
 refine (concat_any _ 3 3 [.slice A1 4 c1, .slice A3 4 c3, .slice A n c] [be32 n, be32 t, p] _ (rdV_new w3 _ _ _ _ rfl rfl) rfl (IsBs.three (I2.out.keep NB.out) (I3.out.keep NB.out) (IP2.out.keep NB.out)) (by simp only [List.flatten_cons, List.flatten_nil, List.append_nil, List.length_append, be32_len, HN.out]; omega) (by decide)).mono ?_;rintro e w4 ⟨s4, rfl, o4, k4⟩;simp only [List.flatten_cons, List.flatten_nil, List.append_nil] at o4;rw [<- List.append_assoc, <- HF.out] at o4;have K4 := hide (below_step K3.out (below_step NB.out k4));have O4 : Hid (Own w4 w.heap.size s4 (frameL p)) := by
  unfold Hid;have hle : w.heap.size <= (w3.alloc (.cells #[.slice A1 4 c1, .slice A3 4 c3, .slice A n c] 32)).heap.size := Nat.le_trans K3.out.size NB.out.size;exact o4.more hle
 clear o4 k4;go_wp2_with fail
 go_ret2;exact ⟨_, rfl, O4.out, K4.out⟩
set_option maxHeartbeats 400000 in
theorem encode_long (A : Option Addr) (n c : Nat) (w : World) (h : 1048576 < n) (hl : n <= 9223372036854775807) :
  Calls Tryz.prog 98 #[.slice A n c] w fun e w' => e = .returned (.tuple #[.slice none 0 0, .int .i64 5]) /\ w = w' := by
 go_enter Tryz.func98, Tryz.ntmps98;go_wp2_with fail
 go_ret2;exact ⟨rfl, rfl⟩
def decL (b : List Nat) : List Nat × Nat × Nat :=
 if b.length < 8 then ([], 0, 2)
 else if 1048576 < val32 b then ([], 0, 5)
 else if b.length < 8 + val32 b then ([], 0, 2)
 else if val32 (b.drop 4) ≠ sumS (b.take 4 ++ (b.drop 8).take (val32 b)) then ([], 0, 4)
 else ((b.drop 8).take (val32 b), 8 + val32 b, 0)
theorem val32_lt {xs : List Nat} (hb : ∀ x ∈ xs, x < 256) : val32 xs < 4294967296 := by
 have h : ∀ i, xs.getD i 0 < 256 := by
  intro i;by_cases hi : i < xs.length
  ·have e : xs.getD i 0 = xs[i] := by simp [hi]
   rw [e]; exact hb _ (List.getElem_mem hi)
  ·have e : xs.getD i 0 = 0 := by simp; rw [List.getElem?_eq_none (by omega)]; rfl
   rw [e]; decide
 have h0 := h 0; have h1 := h 1; have h2 := h 2; have h3 := h 3;unfold val32;omega
theorem IsB.at_ {A : Option Addr} {xs : List Nat} (h : IsB w (.slice A n c) xs) (h1 : 1 <= n) : ∃ b off, A = some ⟨b, off, none⟩ := by
 have hl : xs.length = n := by
  obtain ⟨_, _, e, _⟩ := h;cases e
  rfl
 obtain ⟨b, off, e, _⟩ := h.rd (by intro e; rw [e] at hl; simp at hl; omega);exact ⟨b, off, e⟩
set_option maxHeartbeats 1600000 in
theorem decode_any (A : Option Addr) (n c : Nat) (b : List Nat) (w : World) (hA : IsB w (.slice A n c) b) (hn : b.length = n) (hb : ∀ x ∈ b, x < 256) (h3 : n <= 549755813888) (hc : n <= c) (lc : c <= 9223372036854775807) :
  Calls Tryz.prog 63 #[.slice A n c] w fun e w' => ∃ s, e = .returned (.tuple #[s, .int .i64 ((decL b).2.1 : Nat), .int .i64 ((decL b).2.2 : Nat)]) /\ Own w' w.heap.size s (decL b).1 /\ Below w.heap.size w w' := by
 have HA := hide hA;have HN := hide hn;have HB := hide hb;by_cases h8 : n < 8
 ·have e : decL b = ([], 0, 2) := by unfold decL; rw [if_pos (by rw [hn]; exact h8)]
  rw [e];clear hA hn hb e;go_enter Tryz.func63, Tryz.ntmps63;go_wp2_with fail
  go_ret3;exact ⟨_, rfl, World.ownsRow_nil _ _ _ _, Below.refl _ _⟩
 ·obtain ⟨g, off, rfl⟩ := hA.at_ (by omega);have hv := val32_lt hb;have hv4 := val32_lt (xs := b.drop 4) (fun x hx => hb x (List.mem_of_mem_drop hx));obtain ⟨v, hve⟩ : ∃ v, v = val32 b := ⟨_, rfl⟩;rw [<- hve] at hv;have HV := hide hve;by_cases hbig : 1048576 < v
  ·have e : decL b = ([], 0, 5) := by unfold decL; rw [if_neg (by rw [hn]; exact h8), if_pos (by rw [<- hve]; exact hbig)]
   rw [e];clear hA hn hb e hve hv4;go_enter Tryz.func63, Tryz.ntmps63;go_wp2_with fail
   refine (get32_any _ n c b _ HA.out.rd HN.out.symm HB.out (by omega) (by omega)).mono ?_;rintro e w1 ⟨rfl, d, rfl⟩;rw [<- HV.out];go_wp2_with fail
   go_ret3;exact ⟨_, rfl, World.ownsRow_nil _ _ _ _, below_drewN (Below.refl _ _) d⟩
  ·by_cases hend : n < 8 + v
   ·have e : decL b = ([], 0, 2) := by unfold decL; rw [if_neg (by rw [hn]; exact h8), if_neg (by rw [<- hve]; exact hbig), if_pos (by rw [<- hve, hn]; exact hend)]
    rw [e];clear hA hn hb e hve hv4;go_enter Tryz.func63, Tryz.ntmps63;go_wp2_with fail
    refine (get32_any _ n c b _ HA.out.rd HN.out.symm HB.out (by omega) (by omega)).mono ?_;rintro e w1 ⟨rfl, d, rfl⟩;rw [<- HV.out];go_wp2_with fail
    go_ret3;exact ⟨_, rfl, World.ownsRow_nil _ _ _ _, below_drewN (Below.refl _ _) d⟩
   ·obtain ⟨p, hp⟩ : ∃ p, p = (b.drop 8).take v := ⟨_, rfl⟩;have hpl : p.length = v := by rw [hp, List.length_take, List.length_drop, hn]; omega
    have hpb : ∀ x ∈ p, x < 256 := fun x hx => hb x (List.mem_of_mem_drop (List.mem_of_mem_take (by rw [<- hp]; exact hx)))
    obtain ⟨q, hq⟩ : ∃ q, q = val32 (b.drop 4) := ⟨_, rfl⟩;rw [<- hq] at hv4;obtain ⟨t, ht⟩ : ∃ t, t = sumS (b.take 4 ++ p) := ⟨_, rfl⟩;have hdec : decL b = if q ≠ t then ([], 0, 4) else (p, 8 + v, 0) := by
     unfold decL;rw [if_neg (by rw [hn]; exact h8), if_neg (by rw [<- hve]; exact hbig), if_neg (by rw [<- hve, hn]; exact hend), <- hve, <- hp, <- hq, <- ht]
    have P := hide (And.intro hpl hpb);have i4 := hA.drop 4 (n - 4) (c - 4) rfl rfl (by omega);have I4 := hide i4;have i8 : IsB w (.slice (some ⟨g, if c = 8 then off else off + 8, none⟩) v (c - 8)) p := by
     by_cases hc8 : c = 8
     ·have hv0 : v = 0 := by omega
      have hp0 : p = [] := List.eq_nil_of_length_eq_zero (by omega);rw [if_pos hc8, hp0, hv0];exact ⟨_, _, rfl, fun h => absurd rfl h, (fun h => by cases h), Nat.zero_le _, by omega⟩
     ·rw [if_neg hc8];have := (hA.drop 8 (n - 8) (c - 8) rfl rfl (by omega)).take v (by omega);rw [<- hp] at this;exact this
    have I8 := hide i8;have IT := hide (hA.take 4 (by omega));have HQ := hide hq;have HT := hide ht;have LT : Hid ((b.take 4).length = 4) := by unfold Hid; rw [List.length_take, hn]; omega
    have L4 : Hid (n - 4 = (b.drop 4).length) := by unfold Hid; rw [List.length_drop, hn]
    have BT : Hid (∀ x ∈ b.take 4, x < 256) := fun x hx => hb x (List.mem_of_mem_take hx)
    have B4 : Hid (∀ x ∈ b.drop 4, x < 256) := fun x hx => hb x (List.mem_of_mem_drop hx)
    have HD := hide hdec;clear hA hn hb hp hq ht hdec hve i4 i8 hpl hpb;have hsub : (8 : Int) + (v : Int) - 8 = (v : Int) := by omega
    have hqt : ((q : Int) != (t : Int)) = true /\ Hid (decL b = ([], 0, 4)) \/ ((q : Int) != (t : Int)) = false /\ Hid (decL b = (p, 8 + v, 0)) := by
     by_cases e : q = t
     ·right
      exact ⟨by simp [e], by have := HD.out; rw [if_neg (by simp [e])] at this; exact this⟩
     ·left
      exact ⟨by simp; omega, by have := HD.out; rw [if_pos e] at this; exact this⟩
    by_cases hc8 : c = 8
    ·rw [if_pos hc8] at I8;subst hc8;rcases hqt with ⟨hqt, HE⟩ | ⟨hqt, HE⟩
     all_goals
      rw [HE.out];go_enter Tryz.func63, Tryz.ntmps63;go_wp2_with fail
      refine (get32_any _ n _ b _ HA.out.rd HN.out.symm HB.out (by omega) (by omega)).mono ?_;rintro e w1 ⟨rfl, d, rfl⟩;rw [<- HV.out];go_wp2_with fail
      refine (get32_any _ (n - 4) _ (b.drop 4) _ (I4.out.rd.drewN d) L4.out B4.out (by omega) (by omega)).mono ?_;rintro e w1 ⟨rfl, d2, rfl⟩;rw [<- HQ.out];go_wp2_with fail
      refine (sumOf_any _ _ 4 v _ _ (b.take 4) p _ (IT.out.drewN (d + d2)) (I8.out.drewN (d + d2)) LT.out P.out.1 BT.out P.out.2 (by omega)).mono ?_;rintro e w3 ⟨rfl, k3⟩;rw [<- HT.out];have K3 := hide (below_step (below_drewN (Below.refl w.heap.size w) (d + d2)) k3);have I9 := hide ((I8.out.drewN (d + d2)).keep k3);clear k3;go_wp2_with fail
     ·go_ret3;exact ⟨_, rfl, World.ownsRow_nil _ _ _ _, K3.out⟩
     ·refine (clone_any _ v _ p _ I9.out P.out.1 (by omega)).mono ?_;rintro e w4 ⟨s4, rfl, o4, k4⟩;have O4 := hide (o4.more K3.out.size);have K4 := hide (below_step K3.out k4);clear o4 k4;go_wp2_with fail
      go_ret3;exact ⟨s4, by simp, O4.out, K4.out⟩
    ·rw [if_neg hc8] at I8;rcases hqt with ⟨hqt, HE⟩ | ⟨hqt, HE⟩
     all_goals
      rw [HE.out];go_enter Tryz.func63, Tryz.ntmps63;go_wp2_with fail
      refine (get32_any _ n _ b _ HA.out.rd HN.out.symm HB.out (by omega) (by omega)).mono ?_;rintro e w1 ⟨rfl, d, rfl⟩;rw [<- HV.out];go_wp2_with fail
      refine (get32_any _ (n - 4) _ (b.drop 4) _ (I4.out.rd.drewN d) L4.out B4.out (by omega) (by omega)).mono ?_;rintro e w1 ⟨rfl, d2, rfl⟩;rw [<- HQ.out];go_wp2_with fail
      refine (sumOf_any _ _ 4 v _ _ (b.take 4) p _ (IT.out.drewN (d + d2)) (I8.out.drewN (d + d2)) LT.out P.out.1 BT.out P.out.2 (by omega)).mono ?_;rintro e w3 ⟨rfl, k3⟩;rw [<- HT.out];have K3 := hide (below_step (below_drewN (Below.refl w.heap.size w) (d + d2)) k3);have I9 := hide ((I8.out.drewN (d + d2)).keep k3);clear k3;go_wp2_with fail
     ·go_ret3;exact ⟨_, rfl, World.ownsRow_nil _ _ _ _, K3.out⟩
     ·refine (clone_any _ v _ p _ I9.out P.out.1 (by omega)).mono ?_;rintro e w4 ⟨s4, rfl, o4, k4⟩;have O4 := hide (o4.more K3.out.size);have K4 := hide (below_step K3.out k4);clear o4 k4;go_wp2_with fail
      go_ret3;exact ⟨s4, by simp, O4.out, K4.out⟩
theorem frame_len (p : List Nat) : (frameL p).length = 8 + p.length := by
 unfold frameL;rw [List.length_append, List.length_append, be32_len, be32_len]
theorem frameL_byte {p : List Nat} (hp : ∀ x ∈ p, x < 256) : ∀ x ∈ frameL p, x < 256 := by
 unfold frameL;exact byte_app (byte_app (be32_byte _) (be32_byte _)) hp
theorem dec_back (p more : List Nat) (hp : p.length <= 1048576) : decL (frameL p ++ more) = (p, 8 + p.length, 0) := by
 have e1 : frameL p ++ more = be32 p.length ++ (be32 (sumS (be32 p.length ++ p)) ++ (p ++ more)) := by unfold frameL; simp
 have hv : val32 (frameL p ++ more) = p.length := by rw [e1]; exact val32_be _ (by omega) _
 have h4 : (frameL p ++ more).drop 4 = be32 (sumS (be32 p.length ++ p)) ++ (p ++ more) := by rw [e1, List.drop_left' (be32_len _)]
 have h4v : val32 ((frameL p ++ more).drop 4) = sumS (be32 p.length ++ p) := by rw [h4]; exact val32_be _ (sumS_lt _) _
 have hT : (frameL p ++ more).take 4 = be32 p.length := by rw [e1, List.take_left' (be32_len _)]
 have h8 : (frameL p ++ more).drop 8 = p ++ more := by
  have : (frameL p ++ more).drop 8 = ((frameL p ++ more).drop 4).drop 4 := by rw [List.drop_drop]
  rw [this, h4, List.drop_left' (be32_len _)]
 have hl : (frameL p ++ more).length = 8 + p.length + more.length := by rw [List.length_append, frame_len]
 unfold decL;rw [hv, h4v, hT, h8, List.take_left' rfl, if_neg (by omega), if_neg (by omega), if_neg (by omega), if_neg (by simp)]
theorem decL_le (b : List Nat) : (decL b).2.1 <= b.length /\ (decL b).2.2 <= 5 := by
 unfold decL;split
 ·simp
 ·split
  ·simp
  ·split
   ·simp
   ·split
    ·simp
    ·constructor
     ·show 8 + val32 b <= b.length; omega
     ·show 0 <= 5; decide
theorem IsB.caps {A : Option Addr} {xs : List Nat} (h : IsB w (.slice A n c) xs) : n <= c /\ c <= 9223372036854775807 := by
 obtain ⟨_, _, e, _, _, h2, h3⟩ := h;cases e
 exact ⟨h2, h3⟩
theorem be32_val {xs : List Nat} (hb : ∀ x ∈ xs, x < 256) (h4 : 4 <= xs.length) : be32 (val32 xs) = xs.take 4 := by
 match xs, h4, hb with
 | a :: b :: c :: d :: r, _, hb =>
  have ha := hb a (by simp); have h1 := hb b (by simp); have h2 := hb c (by simp); have h3 := hb d (by simp);unfold be32 val32;simp;omega
theorem dec_inv {b p : List Nat} (hb : ∀ x ∈ b, x < 256) (h : decL b = (p, n, 0)) : frameL p = b.take n /\ n = 8 + p.length /\ p.length <= 1048576 /\ n <= b.length /\ (∀ x ∈ p, x < 256) := by
 unfold decL at h;by_cases h1 : b.length < 8
 ·rw [if_pos h1] at h; simp at h
 ·rw [if_neg h1] at h;by_cases h2 : 1048576 < val32 b
  ·rw [if_pos h2] at h; simp at h
  ·rw [if_neg h2] at h;by_cases h3 : b.length < 8 + val32 b
   ·rw [if_pos h3] at h; simp at h
   ·rw [if_neg h3] at h;by_cases h4 : val32 (b.drop 4) ≠ sumS (b.take 4 ++ (b.drop 8).take (val32 b))
    ·rw [if_pos h4] at h; simp at h
    ·rw [if_neg h4] at h;simp only [Prod.mk.injEq, and_true] at h;obtain ⟨hp, hn⟩ := h;have hpl : p.length = val32 b := by rw [<- hp, List.length_take, List.length_drop]; omega
     have h4' : val32 (b.drop 4) = sumS (b.take 4 ++ p) := by rw [<- hp]; exact Decidable.not_not.1 h4
     have e1 : be32 p.length = b.take 4 := by rw [hpl]; exact be32_val hb (by omega)
     have e2 : be32 (sumS (b.take 4 ++ p)) = (b.drop 4).take 4 := by rw [<- h4']; exact be32_val (fun x hx => hb x (List.mem_of_mem_drop hx)) (by rw [List.length_drop]; omega)
     refine ⟨?_, by omega, by omega, by omega, fun x hx => hb x (List.mem_of_mem_drop (List.mem_of_mem_take (by rw [hp]; exact hx)))⟩;unfold frameL;rw [e1, e2, <- hp, <- hn];have e3 : 8 + val32 b = 4 + (4 + val32 b) := by omega
     rw [e3, List.take_add, List.take_add, List.drop_drop, List.append_assoc]
theorem rvl_le : ∀ (xs : List Nat) (k v : Nat), k <= 9 -> v < 2 ^ (7 * k) -> (rvl k v xs).1 < 18446744073709551616 /\ (rvl k v xs).2.1 <= 10 /\ (rvl k v xs).2.2 <= 3 := by
 intro xs
 induction xs with
 | nil => intro k v _ _; rw [rvl_nil]; decide
 | cons c cs ih =>
  intro k v hk hv;by_cases h1 : k = 9 /\ 1 < c
  ·rw [rvl_last h1.1 h1.2]; decide
  ·by_cases h2 : 128 <= c
   ·rw [rvl_more (by omega) h2];exact ih (k + 1) _ (by omega) (step_lt hv)
   ·by_cases h0 : c = 0 /\ 0 < k
    ·rw [rvl_zero h0.1 h0.2]; decide
    ·rw [rvl_end h1 (by omega) h0];have h3 := sh_lt (c := c) hk (by omega);have h4 := v_lt hk hv;refine ⟨?_, ?_, ?_⟩
     ·show v + c % 128 * 2 ^ (7 * k) < _
      by_cases h9 : k = 9
      ·subst h9;have hc : c % 128 <= 1 := by omega
       have h5 : c % 128 * 2 ^ (7 * 9) <= 1 * 2 ^ (7 * 9) := Nat.mul_le_mul_right _ hc;have e : 1 * 2 ^ (7 * 9) = 9223372036854775808 := by decide
       omega
      ·have h5 := step_lt (c := c) hv;have h6 : 2 ^ (7 * (k + 1)) <= 2 ^ 63 := Nat.pow_le_pow_right (by decide) (by omega);have e : (2 : Nat) ^ 63 = 9223372036854775808 := by decide
       omega
     ·show k + 1 <= 10; omega
     ·show 0 <= 3; decide
theorem rvl_uvl (more : List Nat) : ∀ (v k a : Nat), k <= 9 -> v * 2 ^ (7 * k) < 18446744073709551616 -> (k = 0 \/ v ≠ 0) -> rvl k a (uvl v ++ more) = (a + v * 2 ^ (7 * k), k + (uvl v).length, 0) := by
 intro v
 induction v using Nat.strongRecOn with
 | _ v ih =>
  intro k a hk hv h0;have h9 : k = 9 -> v < 2 := by
   intro e;subst e;have e2 : (2 : Nat) ^ (7 * 9) = 9223372036854775808 := by decide
   rw [e2] at hv;omega
  by_cases hl : v < 128
  ·rw [uvl_low hl, List.cons_append, List.nil_append, rvl_end (by omega) hl (by omega), Nat.mod_eq_of_lt hl]
   rfl
  ·rw [uvl_high hl, List.cons_append, rvl_more (by omega) (by omega)];have e1 : (v % 128 + 128) % 128 = v % 128 := by omega
   have e2 : 2 ^ (7 * (k + 1)) = 128 * 2 ^ (7 * k) := by rw [show 7 * (k + 1) = 7 * k + 7 from by omega, Nat.pow_add, Nat.mul_comm]
   have e3 : v / 128 * 2 ^ (7 * (k + 1)) + v % 128 * 2 ^ (7 * k) = v * 2 ^ (7 * k) := by
    rw [e2, <- Nat.mul_assoc, <- Nat.add_mul];congr 1;omega
   rw [e1, ih (v / 128) (by omega) (k + 1) _ (by omega) (by omega) (by omega)];simp only [List.length_cons, Prod.mk.injEq, and_true];omega
theorem rvl_inv : ∀ (xs : List Nat) (k a v m : Nat), (∀ x ∈ xs, x < 256) -> k <= 9 -> rvl k a xs = (v, m, 0) -> ∃ u, v = a + u * 2 ^ (7 * k) /\ (k = 0 \/ u ≠ 0) /\ xs = uvl u ++ xs.drop (m - k) /\ m = k + (uvl u).length := by
 intro xs
 induction xs with
 | nil => intro k a v m _ _ h; rw [rvl_nil] at h; simp at h
 | cons c cs ih =>
  intro k a v m hb hk h;have hc : c < 256 := hb c (by simp);by_cases h1 : k = 9 /\ 1 < c
  ·rw [rvl_last h1.1 h1.2] at h; simp at h
  ·by_cases h2 : 128 <= c
   ·rw [rvl_more (by omega) h2] at h;obtain ⟨u, hv, hu, hx, hm⟩ := ih (k + 1) _ v m (fun x hx => hb x (List.mem_cons_of_mem _ hx)) (by omega) h;have hu0 : u ≠ 0 := by omega
    have eu : uvl (c % 128 + 128 * u) = c :: uvl u := by
     rw [uvl_high (by omega)];have e1 : (c % 128 + 128 * u) % 128 + 128 = c := by omega
     have e2 : (c % 128 + 128 * u) / 128 = u := by omega
     rw [e1, e2]
    have e2 : 2 ^ (7 * (k + 1)) = 128 * 2 ^ (7 * k) := by rw [show 7 * (k + 1) = 7 * k + 7 from by omega, Nat.pow_add, Nat.mul_comm]
    refine ⟨c % 128 + 128 * u, ?_, Or.inr (by omega), ?_, ?_⟩
    ·rw [hv, e2, Nat.add_mul, Nat.mul_comm 128 u, Nat.mul_assoc u 128, Nat.add_assoc]
    ·rw [eu, List.cons_append];congr 1;rw [hx];have e3 : m - k = (m - (k + 1)) + 1 := by omega
     rw [e3, <- hx, List.drop_succ_cons];exact hx
    ·rw [eu, List.length_cons, hm]; omega
   ·by_cases h0 : c = 0 /\ 0 < k
    ·rw [rvl_zero h0.1 h0.2] at h; simp at h
    ·rw [rvl_end h1 (by omega) h0] at h;simp only [Prod.mk.injEq, and_true] at h;obtain ⟨rfl, rfl⟩ := h;have hcm : c % 128 = c := Nat.mod_eq_of_lt (by omega);refine ⟨c, by rw [hcm], by omega, ?_, ?_⟩
     ·rw [uvl_low (by omega)];have e : k + 1 - k = 1 := by omega
      rw [e]; rfl
     ·rw [uvl_low (by omega)]; rfl
end Go.Proofs.YtedlibkkeegnaaaGreat
namespace Go.Proofs.YtedlibkkeegnaaaGreat
open Go.RowKit Go.Maps
theorem rvl_back (v : Nat) (more : List Nat) (h : v < 18446744073709551616) : rvl 0 0 (uvl v ++ more) = (v, (uvl v).length, 0) := by
 have := rvl_uvl more v 0 0 (by omega) (by omega) (.inl rfl);simpa using this
def RdrB (w : World) (g : Nat) (A : Option Addr) (n c : Nat) (e : Nat) : Prop := Blk w 0 84 g [.slice A n c, .int .i64 (e : Int)]
theorem box_turn0 (w : World) (g i : Nat) (u : Value) : Turn (fun j => j = g) w (w.setCell ⟨g, i, none⟩ u) := (Turn.of_grown (grown_set w g i u)).mono (fun j e => by simpa using e)
set_option maxRecDepth 100000 in
set_option maxHeartbeats 1600000 in
theorem rdr_num_ok (g : Nat) (A : Option Addr) (n c : Nat) (r : List Nat) (w : World) (v k z : Nat) (hB : RdrB w g A n c 0) (hL : LowB w g A n c r) (hb : ∀ x ∈ r, x < 256) (hv : rvl 0 0 r = (v, k, 0)) (hz : v <= z) (hz9 : z <= 9223372036854775807) (hk : k <= n) :
  Calls Tryz.prog 36 #[.pointer (some ⟨g, 0, none⟩), .int .i64 (z : Int)] w fun e w' => e = .returned (.int .i64 (v : Int)) /\ ∃ A2 c2, (∀ b, A2 = some b -> ∃ b', A = some b' /\ b.block = b'.block) /\ RdrB w' g A2 (n - k) c2 0 /\ LowB w' g A2 (n - k) c2 (r.drop k) /\ Turn (fun j => j = g) w w' := by
 have q0 := hB.cell 0;have q1 := hB.cell 1;have f0 := hB.frozen 0;have f1 := hB.frozen 1;dsimp only [List.getElem?_cons_zero, List.getElem?_cons_succ] at q0 q1;have q1 : w.cell? ⟨g, 1, none⟩ = some (.int .i64 0) := q1;obtain ⟨A2, c2, hL2, hblk, hrun⟩ := hL.cut hk;have hcaps := hL.caps;have UR := hide (uread_any A n c r w hL.isB.rd hL.len.symm hb (by omega));rw [hv] at UR;have HB := hide hB;have HL2 := hide hL2;have HBK := hide hblk;have hwz : IntKind.u64.wrap (z : Int) = (z : Int) := by rw [IntKind.wrap_u64]; omega
 have hwv : IntKind.i64.wrap (v : Int) = (v : Int) := by rw [IntKind.wrap_i64]; omega
 have hvz : ¬ (z : Int) < (v : Int) := by omega
 clear hB hL hb hv hL2 hblk;go_enter Tryz.func36, Tryz.ntmps36;go_wp2_with fail
 refine UR.out.mono ?_;rintro e w1 ⟨rfl, rfl⟩;go_wp2_with fail
 go_ret;have ts := box_turn0 w g 0 (.slice A2 (n - k) c2);exact ⟨rfl, A2, c2, HBK.out, HB.out.stored 0 _, HL2.out.turn ts (fun j e => Nat.le_of_eq e.symm), ts⟩
set_option maxRecDepth 100000 in
theorem rdr_num_bad (g : Nat) (A : Option Addr) (n c : Nat) (r : List Nat) (w : World) (z : Nat) (hB : RdrB w g A n c 0) (hL : LowB w g A n c r) (hb : ∀ x ∈ r, x < 256) (hv : (rvl 0 0 r).2.2 ≠ 0) :
  Calls Tryz.prog 36 #[.pointer (some ⟨g, 0, none⟩), .int .i64 (z : Int)] w fun e w' => e = .returned (.int .i64 0) /\ RdrB w' g A n c 3 /\ Turn (fun j => j = g) w w' := by
 have q0 := hB.cell 0;have q1 := hB.cell 1;have f0 := hB.frozen 0;have f1 := hB.frozen 1;dsimp only [List.getElem?_cons_zero, List.getElem?_cons_succ] at q0 q1;have q1 : w.cell? ⟨g, 1, none⟩ = some (.int .i64 0) := q1;have hcaps := hL.caps;have UR := hide (uread_any A n c r w hL.isB.rd hL.len.symm hb (by omega));obtain ⟨q, hq⟩ : ∃ q, q = rvl 0 0 r := ⟨_, rfl⟩;rw [<- hq] at UR hv;obtain ⟨v, k, e9⟩ := q;dsimp only at UR hv;have hez : ((e9 : Int) != 0) = true := by simp; omega
 have HB := hide hB;clear hB hL hb hq hv;go_enter Tryz.func36, Tryz.ntmps36;go_wp2_with fail
 refine UR.out.mono ?_;rintro e w1 ⟨rfl, rfl⟩;go_wp2_with fail
 go_ret;exact ⟨rfl, HB.out.stored 1 _, box_turn0 w g 1 _⟩
set_option maxRecDepth 100000 in
set_option maxHeartbeats 1600000 in
theorem rdr_bytes_ok (g : Nat) (A : Option Addr) (n c k : Nat) (r : List Nat) (w : World) (hB : RdrB w g A n c 0) (hL : LowB w g A n c r) (hk : k <= n) :
  Calls Tryz.prog 69 #[.pointer (some ⟨g, 0, none⟩), .int .i64 (k : Int)] w fun e w' => e = .returned (.slice A k c) /\ LowB w' g A k c (r.take k) /\ ∃ A2 c2, (∀ b, A2 = some b -> ∃ b', A = some b' /\ b.block = b'.block) /\ RdrB w' g A2 (n - k) c2 0 /\ LowB w' g A2 (n - k) c2 (r.drop k) /\ Turn (fun j => j = g) w w' := by
 have q0 := hB.cell 0;have q1 := hB.cell 1;have f0 := hB.frozen 0;have f1 := hB.frozen 1;dsimp only [List.getElem?_cons_zero, List.getElem?_cons_succ] at q0 q1;have q1 : w.cell? ⟨g, 1, none⟩ = some (.int .i64 0) := q1;obtain ⟨A2, c2, hL2, hblk, hrun⟩ := hL.cut hk;obtain ⟨hP, hrun2⟩ := hL.pre hk;have HB := hide hB;have HL2 := hide hL2;have HP := hide hP;have HBK := hide hblk;have hkz : ¬ (n : Int) < (k : Int) := by omega
 have hkd : decide ((n : Int) < (k : Int)) = false := by simp; omega
 clear hB hL hL2 hP hblk;go_enter Tryz.func69, Tryz.ntmps69;go_wp2_with fail
 go_ret;have ts := box_turn0 w g 0 (.slice A2 (n - k) c2);exact ⟨rfl, HP.out.turn ts (fun j e => Nat.le_of_eq e.symm), A2, HBK.out, c2, HB.out.stored 0 _, HL2.out.turn ts (fun j e => Nat.le_of_eq e.symm), ts⟩
set_option maxRecDepth 100000 in
theorem rdr_bytes_err (g : Nat) (A : Option Addr) (n c e0 : Nat) (w : World) (z : Int) (hB : RdrB w g A n c e0) (he : e0 ≠ 0) :
  Calls Tryz.prog 69 #[.pointer (some ⟨g, 0, none⟩), .int .i64 z] w fun e w' => e = .returned (.slice none 0 0) /\ w = w' := by
 have q1 := hB.cell 1;dsimp only [List.getElem?_cons_zero, List.getElem?_cons_succ] at q1;have q1 : w.cell? ⟨g, 1, none⟩ = some (.int .i64 (e0 : Int)) := q1;have hez : ((e0 : Int) != 0) = true := by simp; omega
 have hez2 : ((e0 : Int) == 0) = false := by simp; omega
 clear hB he;go_enter Tryz.func69, Tryz.ntmps69;go_wp2_with fail
 go_ret;exact ⟨rfl, rfl⟩
end Go.Proofs.YtedlibkkeegnaaaGreat
namespace Go.Proofs.YtedlibkkeegnaaaGreat
open Go.RowKit
variable {w w' : World} {B g n c b : Nat}
def Piece (w : World) (B : Nat) (v : Value) (xs : List Nat) : Prop :=
 (v = .slice none 0 0 /\ xs = []) \/
 ∃ g off c, ∃ cur : Array Value, v = .slice (some ⟨g, off, none⟩) xs.length c /\ B <= g /\ w.heap[g]? = some (.cells cur 5 (0, 0)) /\ xs.length <= c /\ c <= maxLen /\ (off + c <= cur.size) /\
  (∀ i, i < xs.length -> cur[off + i]? = some (.int .u8 ((xs.getD i 0 : Nat) : Int)))
theorem Piece.nil (w : World) (B : Nat) : Piece w B (.slice none 0 0) [] := .inl ⟨rfl, rfl⟩
theorem Piece.isB {v : Value} {xs : List Nat} (h : Piece w B v xs) : IsB w v xs := by
 rcases h with ⟨rfl, rfl⟩ | ⟨g, off, c, cur, rfl, _, hg, h1, h2, h3, hc⟩
 ·exact ⟨none, 0, rfl, fun h => absurd rfl h, fun _ => rfl, Nat.zero_le _, by decide⟩
 ·refine ⟨_, c, rfl, fun _ => ⟨g, off, rfl, fun i hi => ?_⟩, (fun h => by cases h), h1, by unfold maxLen at h2; omega⟩;rw [cell_of_row w g (off + i) cur _ (0, 0) hg];exact hc i hi
theorem Piece.kept {v : Value} {xs : List Nat} {row : Option Nat} (h : Piece w B v xs) (hg : w.grownBy w' row) (hne : v.ownBlock = none \/ v.ownBlock ≠ row) : Piece w' B v xs := by
 rcases h with ⟨rfl, rfl⟩ | ⟨g, off, c, cur, rfl, hb, hh, r⟩
 ·exact .inl ⟨rfl, rfl⟩
 ·refine .inr ⟨g, off, c, cur, rfl, hb, ?_, r⟩;rw [hg.block g (heap_lt hh) (by simpa [Value.ownBlock] using hne)];exact hh
theorem Piece.keep {v : Value} {xs : List Nat} (h : Piece w B v xs) (hb : Below w.heap.size w w') : Piece w' B v xs := by
 rcases h with ⟨rfl, rfl⟩ | ⟨g, off, c, cur, rfl, hB, hh, r⟩
 ·exact .inl ⟨rfl, rfl⟩
 ·refine .inr ⟨g, off, c, cur, rfl, hB, ?_, r⟩;rw [hb.block g (heap_lt hh)];exact hh
theorem Piece.drewN {v : Value} {xs : List Nat} (h : Piece w B v xs) (n : Nat) : Piece (w.drewN n) B v xs := h
theorem Piece.more {B' : Nat} {v : Value} {xs : List Nat} (h : Piece w B v xs) (hB : B' <= B) : Piece w B' v xs := by
 rcases h with h | ⟨g, off, c, cur, hv, hb, r⟩
 ·exact .inl h
 ·exact .inr ⟨g, off, c, cur, hv, Nat.le_trans hB hb, r⟩
theorem Piece.apart {B' : Nat} {v : Value} {xs : List Nat} {e : TypeId} {cs : List Value} (h : Piece w B v xs) (hr : Blk w B' e g cs) (hne : e ≠ 5) (hg : w.grownBy w' (some g)) : Piece w' B v xs := by
 refine h.kept hg ?_;rcases h with ⟨rfl, rfl⟩ | ⟨g', off, c, cur, rfl, hb, hh, r⟩
 ·exact .inl rfl
 ·right
  intro e';have e' : g' = g := by simpa [Value.ownBlock] using e'
  subst e';obtain ⟨_, cur', hh', _⟩ := hr;rw [hh] at hh';simp only [Option.some.injEq, Obj.cells.injEq] at hh';exact hne hh'.2.1.symm
theorem Piece.tail {off : Nat} {xs : List Nat} (h : Piece w B (.slice (some ⟨b, off, none⟩) n c) xs) (k : Nat) (hk : k <= n) :
  Piece w B (.slice (some ⟨b, if c = k then off else off + k, none⟩) (n - k) (c - k)) (xs.drop k) := by
 rcases h with ⟨h, _⟩ | ⟨g, o, c', cur, hv, hb, hh, h1, h2, h3, hc⟩
 ·cases h
 ·cases hv
  refine .inr ⟨b, _, c - k, cur, by rw [List.length_drop], hb, hh, by rw [List.length_drop]; omega, by omega, by split <;> omega, fun i hi => ?_⟩;rw [List.length_drop] at hi;rw [if_neg (by omega)];have := hc (k + i) (by omega);rw [Nat.add_assoc, this];congr 2;simp
theorem isB_tail {xs : List Nat} (h : IsB w (.slice (some ⟨b, 0, none⟩) n c) xs) (k : Nat) (hk : k <= n) :
  IsB w (.slice (some ⟨b, if c = k then 0 else k, none⟩) (n - k) (c - k)) (xs.drop k) := by
 by_cases hc : c = k
 ·rw [if_pos hc];obtain ⟨_, _, e, _, _, h2, h3⟩ := h;cases e
  have hd : xs.drop k = [] := List.drop_of_length_le (by omega);rw [hd];refine ⟨_, _, by rw [show xs.length - k = 0 by omega]; rfl, fun h => absurd rfl h, (fun h => by cases h), Nat.zero_le _, by omega⟩
 ·rw [if_neg hc];have := h.drop k (n - k) (c - k) rfl rfl hk;rw [Nat.zero_add] at this;exact this
theorem own_some {u : Value} {xs : List Nat} (h : Own w B u xs) (hn : xs.length = n) (h1 : 1 <= n) : ∃ g c, u = .slice (some ⟨g, 0, none⟩) n c := by
 unfold Own at h;rcases h.2 with ⟨_, h0⟩ | ⟨g, cap, cur, rfl, _⟩
 ·omega
 ·exact ⟨g, cap, by rw [hn]⟩

end Go.Proofs.YtedlibkkeegnaaaGreat
