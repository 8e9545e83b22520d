/- A cut of a log, as lists. It names nothing of the program. A log whose first segments are dropped, as lists. It names nothing of the program. The program's log  -/
import Derived.Test.YtbmhfnhfhdgdgaaGreatW14
namespace Go.Proofs.YtbmhfnhfhdgdgaaGreat
open Go.RowKit Go.Maps
variable {L : DiskL} {s : ByteArray} {M : LogL} {room n i N : Nat}
def cutS (i : Nat) (s : Sg) : Option Sg := if i <= s.1 then none else if i < s.1 + s.2.length then some (s.1, s.2.take (i - s.1)) else some s
def cutD1 (k : Str) (i : Nat) (L : DiskL) (s : Sg) : DiskL := if i <= s.1 then (remL (nameL k s.1) L).1 else if i < s.1 + s.2.length then (cutL (nameL k s.1) ((recsL s.1 (s.2.take (i - s.1))).length : Int) L).1 else L
def cutW (k : Str) (i : Nat) (M : LogL) (L : DiskL) : LogL × DiskL := (⟨M.segs.filterMap (cutS i), i, M.dirty⟩, M.segs.foldl (cutD1 k i) L)
def dropF (k : Str) (i nx : Nat) : List Sg -> DiskL -> List Sg × DiskL
 | [], L => ([], L)
 | s :: r, L => if s.1 + s.2.length <= i /\ (r ≠ [] \/ i = nx) then dropF k i nx r (remL (nameL k s.1) L).1 else (s :: (dropF k i nx r L).1, (dropF k i nx r L).2)
def dropW (k : Str) (i : Nat) (M : LogL) (L : DiskL) : LogL × DiskL := (⟨(dropF k i M.next M.segs L).1, M.next, M.dirty⟩, (dropF k i M.next M.segs L).2)
theorem dropF_cons (k : Str) (i nx : Nat) (s : Sg) (r : List Sg) (L : DiskL) : dropF k i nx (s :: r) L = if s.1 + s.2.length <= i /\ (r ≠ [] \/ i = nx) then dropF k i nx r (remL (nameL k s.1) L).1 else (s :: (dropF k i nx r L).1, (dropF k i nx r L).2) := rfl
abbrev Sgf := Nat × List (List Nat) × Bool
def bareP (x : Sgf) : Sg := (x.1, x.2.1)
theorem chain_idx : ∀ {S : List Sg} {i n : Nat}, Chain i S n -> (∀ a (h : a + 1 < S.length), S[a + 1].1 = S[a].1 + S[a].2.length) /\ (∀ h : 0 < S.length, S[0].1 = i /\ S[S.length - 1].1 + S[S.length - 1].2.length = n) := by
 intro S
 induction S with
 | nil => intro i n _; exact ⟨fun a h => absurd h (by simp), fun h => absurd h (by simp)⟩
 | cons s r ih =>
  intro i n h;obtain ⟨h1, h2⟩ := h;obtain ⟨g1, g2⟩ := ih h2;refine ⟨fun a h => ?_, fun h => ⟨h1, ?_⟩⟩
  ·rcases a with _ | a
   ·have hr : 0 < r.length := by simpa using h
    have := (g2 hr).1;simp only [List.getElem_cons_succ, List.getElem_cons_zero];rw [this, h1]
   ·have hr : a + 1 < r.length := by simpa using h
    simp only [List.getElem_cons_succ];exact g1 a hr
  ·rcases r with _ | ⟨t, r⟩
   ·have h2 : i + s.2.length = n := h2
    show s.1 + s.2.length = n
    rw [h1];exact h2
   ·have := (g2 (by simp)).2;simpa using this
theorem chain_rise {S : List Sg} (h : Chain i S n) (hs : ∀ s ∈ S.dropLast, s.2 ≠ []) : ∀ a b (ha : a < S.length) (hb : b < S.length), a < b -> S[a].1 < S[b].1 := by
 have hstep : ∀ a (h2 : a + 1 < S.length), S[a].1 < S[a + 1].1 := fun a h2 => by
  rw [(chain_idx h).1 a h2];have hm : S[a] ∈ S.dropLast := by
   rw [List.dropLast_eq_take];exact List.mem_take_iff_getElem.2 ⟨a, by omega, rfl⟩
  have := List.length_pos_iff.2 (hs _ hm);omega
 intro a b ha hb hab;obtain ⟨d, rfl⟩ : ∃ d, b = a + 1 + d := ⟨b - a - 1, by omega⟩
 induction d with
 | zero => exact hstep a hb
 | succ d ih => exact Nat.lt_trans (ih (by omega) (by omega)) (hstep (a + 1 + d) hb)
theorem chain_ends {S : List Sg} (h : Chain i S n) (hs : ∀ s ∈ S.dropLast, s.2 ≠ []) : ∀ a b (ha : a < S.length) (hb : b < S.length), a < b -> S[a].1 + S[a].2.length <= S[b].1 := by
 intro a b ha hb hab;rw [<- (chain_idx h).1 a (by omega)];by_cases hd : a + 1 = b
 ·subst hd;exact Nat.le_refl _
 ·exact Nat.le_of_lt (chain_rise h hs (a + 1) b (by omega) hb (by omega))
theorem getE_at {S : List Sg} {j : Nat} {d : List Nat} {z : Int} (hj : j < S.length) (h1 : (S[j].1 : Int) <= z) (h2 : z < (S[j].1 : Int) + S[j].2.length) (h3 : ∀ k (hk : k < j), (S[k].1 : Int) + S[k].2.length <= z) : getE ⟨S, n, d⟩ z = (S[j].2.getD (z - S[j].1).toNat [], 0) := by
 unfold getE;dsimp only;have e : S.find? (fun s => decide ((s.1 : Int) <= z /\ z < (s.1 : Int) + s.2.length)) = some S[j] := by
  rw [List.find?_eq_some_iff_getElem];refine ⟨by simpa using ⟨h1, h2⟩, j, hj, rfl, fun k hk => ?_⟩;have := h3 k hk;simp only [Bool.not_eq_eq_eq_not, Bool.not_true, decide_eq_false_iff_not];omega
 rw [e]
theorem getE_ahead {S : List Sg} {j : Nat} {d : List Nat} {z : Int} (h : Chain i S n) (hs : ∀ s ∈ S.dropLast, s.2 ≠ []) (hz1 : (i : Int) <= z) (hz2 : z < (n : Int)) (hjl : j <= S.length) (hj : ∀ k (hk : k < S.length), k < j ↔ (S[k].1 : Int) < z + 1) :
  ∃ _ : 1 <= j, ∃ h2 : j - 1 < S.length, (S[j - 1].1 : Int) <= z /\ z < (S[j - 1].1 : Int) + S[j - 1].2.length /\ getE ⟨S, n, d⟩ z = (S[j - 1].2.getD (z - S[j - 1].1).toNat [], 0) := by
 obtain ⟨c1, c2⟩ := chain_idx h;have hpos : 0 < S.length := by
  rcases S with _ | ⟨s, r⟩
  ·have : i = n := h;omega
  ·simp
 have h0 := (c2 hpos).1;have hn := (c2 hpos).2;have hj1 : 1 <= j := by
  have := (hj 0 hpos).2 (by rw [h0]; omega);omega
 have hjs : j - 1 < S.length := by omega
 have k1 : (S[j - 1].1 : Int) <= z := by
  have := (hj (j - 1) hjs).1 (by omega);omega
 have k2 : z < (S[j - 1].1 : Int) + S[j - 1].2.length := by
  by_cases hjl2 : j < S.length
  ·have e := c1 (j - 1) (by omega);have e2 : S[j - 1 + 1]'(by omega) = S[j] := by congr 1; omega
   rw [e2] at e;have := fun q => (hj j hjl2).2 q
   have h5 : ¬ ((S[j].1 : Int) < z + 1) := fun q => by have := this q; omega
   omega
  ·have e2 : S[S.length - 1]'(by omega) = S[j - 1] := by congr 1; omega
   rw [e2] at hn;omega
 refine ⟨hj1, hjs, k1, k2, getE_at hjs k1 k2 fun k hk => ?_⟩;have := chain_ends h hs k (j - 1) (by omega) hjs hk;omega
theorem getE_out {S : List Sg} {d : List Nat} {z : Int} (h : Chain i S n) (hz : z < (i : Int) \/ (n : Int) <= z) : getE ⟨S, n, d⟩ z = ([], 7) := by
 rw [getE_chain z h, if_neg (by omega)]
theorem ext_takeP (s : ByteArray) (b : Nat) : (s.extract 0 b).toList = s.data.toList.take b := by
 rw [ByteArray.toList_eq, ByteArray.data_extract, Array.toList_extract];simp [List.extract]
theorem ext_dropP (s : ByteArray) (b : Nat) : (s.extract b s.size).data.toList = s.data.toList.drop b := by
 rw [ByteArray.data_extract, Array.toList_extract];have h : s.data.toList.length = s.size := rfl;simp [List.extract];exact List.take_of_length_le (by rw [List.length_drop, h]; exact Nat.le_refl _)
theorem drop_byteP (s : Str) (p : Nat) (hp : p < s.length) : s.drop p = s.getD p 0 :: s.drop (p + 1) := by
 rw [List.drop_eq_getElem_cons hp];simp [hp]
set_option maxRecDepth 100000 in
theorem hasprefix_any (s k : ByteArray) (w : World) :
  Calls Tryz.prog 213 #[.string s, .string k] w fun e w' => e = .returned (.bool (decide (s.data.toList.take k.size = k.data.toList))) /\ Below w.heap.size w w' := by
 obtain ⟨b, hb⟩ : ∃ b, k.size = b := ⟨_, rfl⟩;obtain ⟨a, ha⟩ : ∃ a, s.size = a := ⟨_, rfl⟩;have hsl : s.data.toList.length = a := ha;have hkl : k.data.toList.length = b := hb;by_cases hle : b <= a
 ·by_cases h : s.data.toList.take k.size = k.data.toList
  ·have hpre : ((s.extract 0 k.size).toList == k.toList) = true := by
    rw [ext_takeP, ByteArray.toList_eq];simpa using h
   have hd : decide (s.data.toList.take k.size = k.data.toList) = true := decide_eq_true h;rw [hd];rw [hb] at hpre;have h1 : (b : Int) <= (a : Int) := by omega
   clear hd h hsl hkl;go_enter Tryz.func213, Tryz.ntmps213;go_wp2_with fail
   go_ret;exact ⟨rfl, Below.refl _ _⟩
  ·have hpre : ((s.extract 0 k.size).toList == k.toList) = false := by
    rw [ext_takeP, ByteArray.toList_eq];simpa using h
   have hd : decide (s.data.toList.take k.size = k.data.toList) = false := decide_eq_false h;rw [hd];rw [hb] at hpre;have h1 : (b : Int) <= (a : Int) := by omega
   clear hd h hsl hkl;go_enter Tryz.func213, Tryz.ntmps213;go_wp2_with fail
   go_ret;exact ⟨rfl, Below.refl _ _⟩
 ·have hd : decide (s.data.toList.take k.size = k.data.toList) = false := decide_eq_false (fun e => by
   have := congrArg List.length e;rw [List.length_take, hkl, hsl, hb] at this;omega)
  rw [hd];have h1 : (a : Int) < (b : Int) := by omega
  clear hd hsl hkl;go_enter Tryz.func213, Tryz.ntmps213;go_wp2_with fail
  go_ret;exact ⟨rfl, Below.refl _ _⟩
theorem prefix_size {k : ByteArray} (h : s.data.toList.take k.size = k.data.toList) : k.size <= s.size := by
 have := congrArg List.length h;have h1 : s.data.toList.length = s.size := rfl;have h2 : k.data.toList.length = k.size := rfl;rw [List.length_take, h1, h2] at this;omega
set_option maxRecDepth 100000 in
theorem cutprefix_in (s k : ByteArray) (w : World) (h : s.data.toList.take k.size = k.data.toList) :
  Calls Tryz.prog 182 #[.string s, .string k] w fun e w' => ∃ u : ByteArray, e = .returned (.tuple #[.string u, .bool true]) /\ u.data.toList = s.data.toList.drop k.size /\ Below w.heap.size w w' := by
 have HP := hasprefix_any s k w;rw [decide_eq_true h] at HP;have HP := hide HP;have hsz := prefix_size h;have hu := ext_dropP s k.size;obtain ⟨b, hb⟩ : ∃ b, k.size = b := ⟨_, rfl⟩;obtain ⟨a, ha⟩ : ∃ a, s.size = a := ⟨_, rfl⟩;rw [hb, ha] at hu;rw [hb, ha] at hsz;rw [hb];have h1 : (b : Int) <= (a : Int) := by omega
 have h2 : (0 : Int) <= (b : Int) := by omega
 have HU := hide hu;clear hsz hu h;go_enter Tryz.func182, Tryz.ntmps182;go_wp2_with fail
 refine HP.out.mono ?_;rintro e w1 ⟨rfl, k1⟩;have K1 := hide k1;clear k1;go_wp2_with fail
 go_ret2;exact ⟨_, rfl, HU.out, K1.out⟩
set_option maxRecDepth 100000 in
theorem cutprefix_no (s k : ByteArray) (w : World) (h : s.data.toList.take k.size ≠ k.data.toList) :
  Calls Tryz.prog 182 #[.string s, .string k] w fun e w' => e = .returned (.tuple #[.string s, .bool false]) /\ Below w.heap.size w w' := by
 have HP := hasprefix_any s k w;rw [decide_eq_false h] at HP;have HP := hide HP;clear h;go_enter Tryz.func182, Tryz.ntmps182;go_wp2_with fail
 refine HP.out.mono ?_;rintro e w1 ⟨rfl, k1⟩;have K1 := hide k1;clear k1;go_wp2_with fail
 go_ret2;exact ⟨rfl, K1.out⟩
set_option maxRecDepth 100000 in
theorem cutpre_yes (s k : ByteArray) (w : World) (h : s.data.toList.take k.size = k.data.toList) :
  Calls Tryz.prog 165 #[.string s, .string k] w fun e w' => ∃ u : ByteArray, e = .returned (.tuple #[.string u, .bool true]) /\ u.data.toList = s.data.toList.drop k.size /\ Below w.heap.size w w' := by
 have HP := hide (cutprefix_in s k w h);clear h;go_enter Tryz.func165, Tryz.ntmps165;go_wp2_with fail
 refine HP.out.mono ?_;rintro e w1 ⟨u, rfl, hu, k1⟩;have K1 := hide k1;have HU := hide hu;clear k1 hu;go_wp2_with fail
 go_ret2;exact ⟨_, rfl, HU.out, K1.out⟩
set_option maxRecDepth 100000 in
theorem cutpre_no (s k : ByteArray) (w : World) (h : s.data.toList.take k.size ≠ k.data.toList) :
  Calls Tryz.prog 165 #[.string s, .string k] w fun e w' => e = .returned (.tuple #[.string s, .bool false]) /\ Below w.heap.size w w' := by
 have HP := hide (cutprefix_no s k w h);clear h;go_enter Tryz.func165, Tryz.ntmps165;go_wp2_with fail
 refine HP.out.mono ?_;rintro e w1 ⟨rfl, k1⟩;have K1 := hide k1;clear k1;go_wp2_with fail
 go_ret2;exact ⟨rfl, K1.out⟩
theorem numL_no {k s : Str} (h : s.take (k.length + 1) ≠ k ++ [46]) : numL k s = none := by
 unfold numL;by_cases hl : s.length = k.length + 9
 ·by_cases h1 : s.take k.length = k
  ·by_cases h2 : s.getD k.length 0 = 46
   ·refine absurd ?_ h;have e4 := drop_byteP s k.length (by omega);rw [h2] at e4;have e5 : s = k ++ 46 :: s.drop (k.length + 1) := by
     conv => lhs; rw [<- List.take_append_drop k.length s, h1, e4]
    rw [e5, show k ++ 46 :: s.drop (k.length + 1) = (k ++ [46]) ++ s.drop (k.length + 1) by simp];rw [List.take_left' (by simp)]
   ·rw [if_pos (.inr (.inr h2))]
  ·rw [if_pos (.inr (.inl h1))]
 ·rw [if_pos (.inl hl)]
theorem numL_yes {k s : Str} (h : s.take (k.length + 1) = k ++ [46]) : numL k s = if (s.drop (k.length + 1)).length ≠ 8 then none else valD 0 (s.drop (k.length + 1)) := by
 have hl : k.length + 1 <= s.length := by
  have := congrArg List.length h;rw [List.length_take, List.length_append] at this;simp at this;omega
 have h1 : s.take k.length = k := by
  have := congrArg (List.take k.length) h;rw [List.take_take, show min k.length (k.length + 1) = k.length by omega, List.take_left' rfl] at this;exact this
 have h2 : s.getD k.length 0 = 46 := by
  have := congrArg (fun l : Str => l.getD k.length 0) h;simp only [List.getD_eq_getElem?_getD] at this ⊢;rw [List.getElem?_take_of_lt (by omega)] at this;rw [this];simp
 unfold numL;rw [List.length_drop];by_cases h8 : s.length = k.length + 9
 ·rw [if_neg (by rintro (e | e | e); exact e h8; exact e h1; exact e h2), if_neg (by omega)]
 ·rw [if_pos (.inl h8), if_pos (by omega)]
def numR (k s : Str) : Value := .tuple #[.int .i64 (((numL k s).getD 0 : Nat) : Int), .bool (numL k s).isSome]
theorem dot_list (k : ByteArray) : (k ++ ({ data := #[46] } : ByteArray)).data.toList = k.data.toList ++ [46] := by
 rw [ByteArray.data_append];simp
theorem dot_size (k : ByteArray) : (k ++ ({ data := #[46] } : ByteArray)).size = k.size + 1 := by
 rw [ByteArray.size_append]
 rfl
theorem conv_bytes (w : World) (u : ByteArray) : ∃ c W, (convert 9 33 (.string u)).run Tryz.prog w = .ok (.slice (some ⟨w.heap.size, 0, none⟩) u.size c) W /\ u.size <= c /\ Below w.heap.size w W /\ ∀ j, j < u.size -> W.cell? ⟨w.heap.size, j, none⟩ = some (.int .u8 (((u.data.toList.getD j 0).toNat : Nat) : Int)) := by
 refine ⟨_, _, run_bytes_of_string (P := Tryz.prog) w 9 33 5 u Tryz.underlying9 Tryz.underlying33 Tryz.underlying5, grownCap_ge _ _ _ _, ⟨rfl, rfl, rfl, by simp, fun k hk => heap_alloc_old w.drew _ hk⟩, fun j hj => ?_⟩;have hz : w.heap.size = w.drew.heap.size := rfl;rw [cell_of_row (w.drew.alloc _) w.heap.size j _ _ _ (by rw [hz]; exact heap_alloc_new w.drew _)];have hj2 : j < u.data.size := hj;unfold bytesRow;rw [Array.getElem?_append_left (by simpa using hj2)];simp only [Array.getElem?_map, Array.getElem?_eq_getElem hj2, Option.map_some];rw [List.getD_eq_getElem?_getD, List.getElem?_eq_getElem (by simpa using hj2)];simp
set_option maxRecDepth 100000 in
set_option maxHeartbeats 3200000 in
theorem pnumber_any (l : Nat) (k t : ByteArray) (w : World) (c1 : w.cell? ⟨l, 1, none⟩ = some (.string k)) (hk : k.size <= 64) :
  Calls Tryz.prog 133 #[.pointer (some ⟨l, 0, none⟩), .string t] w fun e w' => e = .returned (numR k.data.toList t.data.toList) /\ Below w.heap.size w w' := by
 have hll := cell_lt c1;obtain ⟨kd, hkd⟩ : ∃ kd : ByteArray, kd = k ++ ({ data := #[46] } : ByteArray) := ⟨_, rfl⟩;have hkl : kd.data.toList = k.data.toList ++ [46] := by rw [hkd]; exact dot_list k
 have hks : kd.size = k.size + 1 := by rw [hkd]; exact dot_size k
 have hk40 : k.size <= 1099511627776 := by omega
 have hk0 : k.data.toList.length = k.size := rfl;by_cases h : t.data.toList.take kd.size = kd.data.toList
 ·have HC := hide (fun W => cutpre_yes t kd W h);have HN := numL_yes (k := k.data.toList) (s := t.data.toList) (by rw [hk0, <- hks, <- hkl]; exact h);rw [hk0, <- hks] at HN;have HN := hide HN;clear h hkl hks hk0;go_enter Tryz.func133, Tryz.ntmps133;go_wp2_with fail
  rw [<- hkd];refine (HC.out _).mono ?_;rintro e w1 ⟨u, rfl, hu, k1⟩;obtain ⟨n, hn⟩ : ∃ n, u.size = n := ⟨_, rfl⟩;have hul : u.data.toList.length = n := hn;have K1 := hide k1;rw [<- hu] at HN;have HU := hide hu;by_cases h8 : n = 8
  ·have hz : ((n : Int) != 8) = false := by simp; omega
   have HV : Hid (numL k.data.toList t.data.toList = valD 0 u.data.toList) := hide (by rw [HN.out, if_neg (by rw [hul]; omega)]);have HUL := hide hul;clear hul hu k1 HN HC;obtain ⟨cu, w2, hcv, hcu, hk2, hcell⟩ := conv_bytes w1 u;rw [hn] at hcv hcu hcell;have hnc : (n : Int) <= (cu : Int) := by omega
   obtain ⟨g, hg⟩ : ∃ g, g = w1.heap.size := ⟨_, rfl⟩;rw [<- hg] at hcv hcell;have HCE := hide hcell;have KK2 := hide (below_step K1.out hk2);have HN8 := hide h8;clear hcell hk2 hg hcu;go_wp2_with fail
   go_loopw [8, 31] (fun nn ix wr => ∃ j v : Nat, j <= 8 /\ nn = .int .i64 (v : Int) /\ v < 10 ^ j /\ ix = .int .i64 (j : Int) /\ w2 = wr /\ Hid (numL k.data.toList t.data.toList = valD v (u.data.toList.drop j))) (fun _ ix _ => 8 - (intOf ix).toNat)
   case atStart => exact ⟨0, 0, Nat.zero_le _, rfl, by decide, rfl, rfl, by simpa [Hid] using HV.out⟩
   case round =>
    obtain ⟨j, v, hj, rfl, hvj, rfl, rfl, hV⟩ := hrel;have HVJ := hide hvj;by_cases hlt : j < 8
    ·have hln : (j : Int) < (n : Int) := by have := HN8.out; omega
     have hln2 : j < n := by have := HN8.out; omega
     obtain ⟨x, hx⟩ : ∃ x, x = (u.data.toList.getD j 0).toNat := ⟨_, rfl⟩;have q := HCE.out j hln2;rw [<- hx] at q;have hxs : x < 256 := by rw [hx]; exact UInt8.toNat_lt _
     have HDR : Hid (valD v (u.data.toList.drop j) = if x < 48 \/ 57 < x then none else valD (v * 10 + (x - 48)) (u.data.toList.drop (j + 1))) := hide (by
      rw [drop_byteP _ j (by rw [HUL.out]; exact hln2), valD_step];have e1 : (u.data.toList.getD j 0 < 48 \/ 57 < u.data.toList.getD j 0) ↔ (x < 48 \/ 57 < x) := by
       rw [UInt8.lt_iff_toNat_lt, UInt8.lt_iff_toNat_lt, <- hx];exact Iff.rfl
      simp only [e1, <- hx])
     clear hx hvj;by_cases hlo : x < 48
     ·have hlz : (x : Int) < 48 := by omega
      have HF : Hid (numL k.data.toList t.data.toList = none) := hide (by rw [hV.out, HDR.out, if_pos (.inl hlo)]);go_wp2_with fail
      refine bodyPost_ret (v := .tuple #[.int .i64 0, .bool false]) (by simp [results, Tryz.results133, go_sem]) rfl ?_;unfold numR;rw [HF.out];exact ⟨rfl, KK2.out⟩
     ·have hlz : 48 <= (x : Int) := by omega
      by_cases hhi : 57 < x
      ·have hhz : 57 < (x : Int) := by omega
       have HF : Hid (numL k.data.toList t.data.toList = none) := hide (by rw [hV.out, HDR.out, if_pos (.inr hhi)]);go_wp2_with fail
       refine bodyPost_ret (v := .tuple #[.int .i64 0, .bool false]) (by simp [results, Tryz.results133, go_sem]) rfl ?_;unfold numR;rw [HF.out];exact ⟨rfl, KK2.out⟩
      ·have hhz : (x : Int) <= 57 := by omega
       have HV2 : Hid (numL k.data.toList t.data.toList = valD (v * 10 + (x - 48)) (u.data.toList.drop (j + 1))) := hide (by rw [hV.out, HDR.out, if_neg (by omega)]);have hpw : 10 ^ (j + 1) = 10 * 10 ^ j := by rw [Nat.pow_succ, Nat.mul_comm]
       have hpl : 10 ^ (j + 1) <= 100000000 := Nat.pow_le_pow_right (n := 10) (by decide) (show j + 1 <= 8 by omega);have hnew : v * 10 + (x - 48) < 10 ^ (j + 1) := by have := HVJ.out; omega
       have HNEW := hide hnew;have hv1 : v < 100000000 := by have := HVJ.out; omega
       have hw0 : IntKind.u8.wrap ((x : Int) - 48) = (x : Int) - 48 := by rw [IntKind.wrap_u8]; omega
       have hw1 : IntKind.i64.wrap ((x : Int) - 48) = (x : Int) - 48 := by rw [IntKind.wrap_i64]; omega
       have hw2 : IntKind.i64.wrap (10 * (v : Int)) = 10 * (v : Int) := by rw [IntKind.wrap_i64]; omega
       have hw3 : IntKind.i64.wrap (10 * (v : Int) + ((x : Int) - 48)) = 10 * (v : Int) + ((x : Int) - 48) := by rw [IntKind.wrap_i64]; omega
       clear hpw hpl hnew hlo hhi;go_wp2_with fail
       go_roundw
       case rel => exact ⟨j + 1, v * 10 + (x - 48), by omega, by congr 1; omega, HNEW.out, by go_num, trivial, HV2.out⟩
       case measure => simp [intOf]; omega
    ·have hje : j = 8 := by omega
     have hln : (n : Int) <= (j : Int) := by have := HN8.out; omega
     have HF : Hid (numL k.data.toList t.data.toList = some v) := hide (by
      rw [hV.out, List.drop_of_length_le (by rw [HUL.out, HN8.out]; omega)]
      rfl)
     clear hvj;go_wp2_with fail
     refine bodyPost_ret (v := .tuple #[.int .i64 (v : Int), .bool true]) (by simp [results, Tryz.results133, go_sem]) rfl ?_;unfold numR;rw [HF.out];exact ⟨rfl, KK2.out⟩
  ·have hz : ((n : Int) != 8) = true := by simp; omega
   have HV : Hid (numL k.data.toList t.data.toList = none) := hide (by rw [HN.out, if_pos (by rw [hul]; exact h8)]);clear hul hu k1 HN HC;go_wp2_with fail
   refine bodyPost_ret (v := .tuple #[.int .i64 0, .bool false]) (by simp [results, Tryz.results133, go_sem]) rfl ?_;unfold numR;rw [HV.out];exact ⟨rfl, K1.out⟩
 ·have HC := hide (fun W => cutpre_no t kd W h);have HN := hide (numL_no (k := k.data.toList) (s := t.data.toList) (by rw [hk0, <- hks, <- hkl]; exact h));clear h hkl hks hk0;go_enter Tryz.func133, Tryz.ntmps133;go_wp2_with fail
  rw [<- hkd];refine (HC.out _).mono ?_;rintro e w1 ⟨rfl, k1⟩;have K1 := hide k1;clear k1 HC;go_wp2_with fail
  refine bodyPost_ret (v := .tuple #[.int .i64 0, .bool false]) (by simp [results, Tryz.results133, go_sem]) rfl ?_;unfold numR;rw [HN.out];exact ⟨rfl, K1.out⟩
theorem digs_front : ∀ (j n : Nat), digs (j + 1) n = UInt8.ofNat (48 + n / 10 ^ j % 10) :: digs j n := by
 intro j
 induction j with
 | zero => intro n; simp [digs]
 | succ j ih =>
  intro n
  conv => lhs; unfold digs
  rw [ih]
  conv => rhs; unfold digs
  rw [List.cons_append, Nat.div_div_eq_div_mul, Nat.pow_succ, Nat.mul_comm 10]
theorem str_digit (w : World) (k b : Nat) (hb : b = w.heap.size) :
  (convert 33 9 (.slice (some ⟨b, 0, none⟩) 1 1)).run Tryz.prog (w.alloc (.cells #[.int .u8 (48 + (k : Int) % 10)] 5)) = .ok (.string ⟨#[UInt8.ofNat (48 + k % 10)]⟩) (w.alloc (.cells #[.int .u8 (48 + (k : Int) % 10)] 5)) := by
 subst hb;have e1 : (48 + (k : Int) % 10) = ((48 + k % 10 : Nat) : Int) := by omega
 rw [e1];have h := run_convert_bytes_back (P := Tryz.prog) (w.alloc (.cells #[.int .u8 ((48 + k % 10 : Nat) : Int)] 5)) 33 9 5 ⟨w.heap.size, 0, none⟩ 1 [UInt8.ofNat (48 + k % 10)] Tryz.underlying33 Tryz.underlying5 Tryz.underlying9 (fun j hj => by
  have hj0 : j = 0 := by simpa using hj
  subst hj0;have e : (UInt8.ofNat (48 + k % 10)).toNat = 48 + k % 10 := digit_ok k
  show (w.alloc _).cell? (Addr.add ⟨w.heap.size, 0, none⟩ 0) = some (.int .u8 (((UInt8.ofNat (48 + k % 10)).toNat : Nat) : Int))
  rw [e];have ea : Addr.add ⟨w.heap.size, 0, none⟩ 0 = ⟨w.heap.size, 0, none⟩ := rfl;rw [ea];exact cell_new w (.int .u8 ((48 + k % 10 : Nat) : Int)) 5)
 exact h
set_option maxRecDepth 100000 in
set_option maxHeartbeats 1600000 in
theorem rname_any (s : ByteArray) (n : Nat) (w : World) (hs : s.size <= 1099511627776) (hn : n <= 1099511627776) :
  Calls Tryz.prog 103 #[.string s, .int .i64 (n : Int)] w fun e w' => ∃ t : ByteArray, e = .returned (.string t) /\ t.data.toList = nameL s.data.toList n /\ Below w.heap.size w w' := by
 go_enter Tryz.func103, Tryz.ntmps103;go_wp2_with fail
 go_loopw [1, 5, 6] (fun m t i wr => ∃ (j k : Nat) (u : ByteArray), j <= 8 /\ m = .int .i64 (k : Int) /\ k <= 1099511627776 /\ t = .string u /\ i = .int .i64 (j : Int) /\ Hid (k = n / 10 ^ j) /\ Hid (u.data.toList = digs j n) /\ Hid (Below w.heap.size w wr)) (fun _ _ i _ => 8 - (intOf i).toNat)
 case atStart => exact ⟨0, n, ⟨#[]⟩, Nat.zero_le _, rfl, hn, rfl, rfl, by simp [Hid], rfl, Below.refl _ _⟩
 case round =>
  obtain ⟨j, k, u, hj, rfl, hk, rfl, rfl, hK, hU, hB⟩ := hrel;by_cases hlt : j < 8
  ·have hul : u.size <= 100 := by
    have : u.data.toList.length = j := by rw [hU.out, digs_len]
    have h2 : u.size = u.data.toList.length := rfl;omega
   have hsd := str_digit wr k wr.heap.size rfl;have K2 := hide (below_step hB.out (below_alloc wr (.cells #[.int .u8 (48 + (k : Int) % 10)] 5)));have hn1 : ¬ 9223372036854775807 < (⟨#[UInt8.ofNat (48 + k % 10)]⟩ : ByteArray).size + u.size := by
    show ¬ 9223372036854775807 < 1 + u.size
    omega
   have HU2 : Hid ((⟨#[UInt8.ofNat (48 + k % 10)]⟩ ++ u : ByteArray).data.toList = digs (j + 1) n) := by
    unfold Hid;rw [ByteArray.data_append, Array.toList_append, hU.out, digs_front, hK.out]
    rfl
   have HK2 : Hid (k / 10 = n / 10 ^ (j + 1)) := by
    unfold Hid;rw [hK.out, Nat.div_div_eq_div_mul, Nat.pow_succ]
   obtain ⟨c, hc⟩ : ∃ c : ByteArray, c = ⟨#[UInt8.ofNat (48 + k % 10)]⟩ := ⟨_, rfl⟩;rw [<- hc] at hsd hn1 HU2;clear hc;go_wp2_with fail
   go_roundw
   case rel => exact ⟨j + 1, k / 10, _, by omega, by go_num, by omega, rfl, by go_num, HK2, HU2, K2⟩
   case measure => simp [intOf]; omega
  ·obtain rfl : j = 8 := by omega
   have hul : u.size = 8 := by
    have : u.data.toList.length = 8 := by rw [hU.out, digs_len]
    exact this
   go_wp2_with fail
   go_ret;refine ⟨_, rfl, ?_, hB.out⟩;rw [ByteArray.data_append, Array.toList_append, ByteArray.data_append, Array.toList_append, hU.out]
   rfl
def numI (k s : Str) : Int := match numL k s with
 | some n => (n : Int)
 | none => -1
set_option maxRecDepth 100000 in
theorem rnum_len (k s : ByteArray) (w : World) (hk : k.size <= 1099511627776) (h : s.size ≠ k.size + 9) :
  Calls Tryz.prog 100 #[.string k, .string s] w fun e w' => e = .returned (.int .i64 (-1)) /\ w = w' := by
 obtain ⟨a, ha⟩ : ∃ a, s.size = a := ⟨_, rfl⟩;obtain ⟨b, hb⟩ : ∃ b, k.size = b := ⟨_, rfl⟩;rw [ha] at h;rw [hb] at hk h;have hne : ((a : Int) != (b : Int) + 9) = true := by simp; omega
 go_enter Tryz.func100, Tryz.ntmps100;go_wp2_with fail
 go_ret;exact ⟨rfl, rfl⟩
theorem ext_take (s : ByteArray) (b : Nat) : (s.extract 0 b).toList = s.data.toList.take b := by
 rw [ByteArray.toList_eq, ByteArray.data_extract, Array.toList_extract];simp [List.extract]
set_option maxRecDepth 100000 in
theorem rnum_pre (k s : ByteArray) (w : World) (hk : k.size <= 1099511627776) (hs : s.size = k.size + 9) (h : s.data.toList.take k.size ≠ k.data.toList) :
  Calls Tryz.prog 100 #[.string k, .string s] w fun e w' => e = .returned (.int .i64 (-1)) /\ w = w' := by
 have hpre : ((s.extract 0 k.size).toList == k.toList) = false := by
  rw [ext_take, ByteArray.toList_eq];simpa using h
 obtain ⟨b, hb⟩ : ∃ b, k.size = b := ⟨_, rfl⟩;obtain ⟨a, ha⟩ : ∃ a, s.size = a := ⟨_, rfl⟩;rw [hb] at hk hs hpre;rw [ha] at hs;have hne : ((a : Int) != (b : Int) + 9) = false := by simp; omega
 have hba : (b : Int) <= (a : Int) := by omega
 have ha40 : a <= 2199023255552 := by omega
 clear hs h;go_enter Tryz.func100, Tryz.ntmps100;go_wp2_with fail
 go_ret;exact ⟨rfl, rfl⟩
theorem byte_at (s : ByteArray) (p : Nat) (hp : p < s.size) : (s[p]'hp) = s.data.toList.getD p 0 := by
 have h1 : s.data.toList.getD p 0 = s.data.toList[p]'hp := by
  rw [List.getD_eq_getElem?_getD, List.getElem?_eq_getElem hp]
  rfl
 rw [h1]
 rfl
theorem drop_byte (s : Str) (p : Nat) (hp : p < s.length) : s.drop p = s.getD p 0 :: s.drop (p + 1) := by
 rw [List.drop_eq_getElem_cons hp];simp [hp]
theorem numI_none {k s : Str} (h : numL k s = none) : numI k s = -1 := by unfold numI; rw [h]
theorem numI_some {k s : Str} (h : numL k s = some n) : numI k s = (n : Int) := by unfold numI; rw [h]
set_option maxRecDepth 100000 in
set_option maxHeartbeats 1600000 in
theorem rnum_dot (k s : ByteArray) (w : World) (hk : k.size <= 1099511627776) (hs : s.size = k.size + 9) (h : s.data.toList.take k.size = k.data.toList) :
  Calls Tryz.prog 100 #[.string k, .string s] w fun e w' => e = .returned (.int .i64 (numI k.data.toList s.data.toList)) /\ ∃ d, w' = w.drewN d := by
 have hpre : ((s.extract 0 k.size).toList == k.toList) = true := by
  rw [ext_take, ByteArray.toList_eq];simpa using h
 obtain ⟨b, hb⟩ : ∃ b, k.size = b := ⟨_, rfl⟩;obtain ⟨a, ha⟩ : ∃ a, s.size = a := ⟨_, rfl⟩;rw [hb] at hk hs hpre;rw [ha] at hs;have hne : ((a : Int) != (b : Int) + 9) = false := by simp; omega
 have hba : (b : Int) <= (a : Int) := by omega
 have hba2 : (b : Int) < (a : Int) := by omega
 have ha40 : a <= 2199023255552 := by omega
 have hlen : s.data.toList.length = a := ha;have hklen : k.data.toList.length = b := hb;have HNL : Hid (numL k.data.toList s.data.toList = if s.data.toList.getD b 0 ≠ 46 then none else valD 0 (s.data.toList.drop (b + 1))) := by
  unfold Hid numL;rw [hlen, hklen];by_cases h46 : s.data.toList.getD b 0 ≠ 46
  ·rw [if_pos (.inr (.inr h46)), if_pos h46]
  ·rw [if_neg (by rintro (e | e | e); exact e hs; exact e (by rw [hb] at h; exact h); exact h46 e), if_neg h46]
 have hbs : b < s.size := by omega
 obtain ⟨x, hx⟩ : ∃ x, (s[b]'hbs).toNat = x := ⟨_, rfl⟩;have hxd : s.data.toList.getD b 0 ≠ 46 ↔ x ≠ 46 := by
  rw [<- byte_at s b hbs, <- hx];constructor
  ·intro e h2;exact e (UInt8.toNat_inj.1 (by rw [h2]; rfl))
  ·intro e h2;exact e (by rw [h2]; rfl)
 have HS := hide hs;have HLN := hide hlen;have HA := hide ha;by_cases h46 : x ≠ 46
 ·have hz : ((x : Int) != 46) = true := by simp; omega
  have HF : Hid (numI k.data.toList s.data.toList = -1) := numI_none (by rw [HNL.out, if_pos (hxd.2 h46)]);clear hs h hlen hklen hxd h46;go_enter Tryz.func100, Tryz.ntmps100;go_wp2_with fail
  go_ret;rw [HF.out];exact ⟨rfl, 0, rfl⟩
 ·have hz : ((x : Int) != 46) = false := by simp; omega
  have HF : Hid (numL k.data.toList s.data.toList = valD 0 (s.data.toList.drop (b + 1))) := by unfold Hid; rw [HNL.out, if_neg (fun e => h46 (hxd.1 e))]
  clear hs h hlen hklen hxd h46;go_enter Tryz.func100, Tryz.ntmps100;go_wp2_with fail
  clear hx hz hpre hne
  go_loopw [5, 6] (fun n i wr => ∃ j v p : Nat, j <= 8 /\ n = .int .i64 (v : Int) /\ v < 1000000000 /\ v < 10 ^ j /\ p = b + 1 + j /\ i = .int .i64 (p : Int) /\ w = wr /\ Hid (numL k.data.toList s.data.toList = valD v (s.data.toList.drop p))) (fun _ i _ => a - (intOf i).toNat)
  case atStart => exact ⟨0, 0, b + 1, Nat.zero_le _, rfl, by decide, by decide, rfl, by simp, rfl, HF.out⟩
  case round =>
   obtain ⟨j, v, p, hj, rfl, hv, hvj, hp, rfl, rfl, hV⟩ := hrel;have HP := hide hp;have HVJ := hide hvj;have hS9 := HS.out;have hpa : p <= a := by omega
   by_cases hlt : p < a
   ·have hps : p < s.size := by omega
    obtain ⟨x, hx⟩ : ∃ x, (s[p]'hps).toNat = x := ⟨_, rfl⟩;have hxc : s.data.toList.getD p 0 = s[p]'hps := (byte_at s p hps).symm;have hdrop : valD v (s.data.toList.drop p) = if x < 48 \/ 57 < x then none else valD (v * 10 + (x - 48)) (s.data.toList.drop (p + 1)) := by
     rw [drop_byte _ p (by rw [HLN.out]; exact hlt), valD_step, hxc, hx];have e1 : (s[p]'hps < 48 \/ 57 < s[p]'hps) ↔ (x < 48 \/ 57 < x) := by
      rw [UInt8.lt_iff_toNat_lt, UInt8.lt_iff_toNat_lt, hx];exact Iff.rfl
     simp only [e1]
    have HDR := hide hdrop;have hxs : x < 256 := by rw [<- hx]; exact UInt8.toNat_lt _
    clear hdrop hp hvj hS9 hxc;by_cases hlo : x < 48
    ·have hlz : (x : Int) < 48 := by omega
     have HF : Hid (numI k.data.toList s.data.toList = -1) := numI_none (by rw [hV.out, HDR.out, if_pos (.inl hlo)]);go_wp2_with fail
     go_ret;rw [HF.out];exact ⟨rfl, 0, rfl⟩
    ·have hlz : ¬ (x : Int) < 48 := by omega
     by_cases hhi : 57 < x
     ·have hhz : 57 < (x : Int) := by omega
      have HF : Hid (numI k.data.toList s.data.toList = -1) := numI_none (by rw [hV.out, HDR.out, if_pos (.inr hhi)]);go_wp2_with fail
      go_ret;rw [HF.out];exact ⟨rfl, 0, rfl⟩
     ·have hhz : ¬ 57 < (x : Int) := by omega
      have HV2 : Hid (numL k.data.toList s.data.toList = valD (v * 10 + (x - 48)) (s.data.toList.drop (p + 1))) := by
       unfold Hid;rw [hV.out, HDR.out, if_neg (by omega)]
      have hj8 : j < 8 := by have := HP.out; have := HS.out; omega
      have hpw : 10 ^ (j + 1) = 10 * 10 ^ j := by rw [Nat.pow_succ, Nat.mul_comm]
      have hpl : 10 ^ (j + 1) <= 100000000 := Nat.pow_le_pow_right (n := 10) (by decide) (show j + 1 <= 8 by omega);have hnew : v * 10 + (x - 48) < 10 ^ (j + 1) := by have := HVJ.out; omega
      have HNEW := hide hnew;have HPL := hide hpl;have hv1 : v < 100000000 := by omega
      clear hpw hpl hnew hlo hhi;go_wp2_with fail
      go_roundw
      case rel => exact ⟨j + 1, v * 10 + (x - 48), p + 1, by omega, by go_num, by have := HNEW.out; have := HPL.out; omega, HNEW.out, by have := HP.out; omega, by go_num, trivial, HV2⟩
      case measure => simp [intOf]; omega
   ·have hpe : p = a := by omega
    have HF : Hid (numI k.data.toList s.data.toList = (v : Int)) := numI_some (by rw [hV.out, hpe, <- HLN.out, List.drop_length]; rfl);clear hp hvj hS9 hpe;go_wp2_with fail
    go_ret;rw [HF.out];exact ⟨rfl, 0, rfl⟩
theorem rnumber_any (k s : ByteArray) (w : World) (hk : k.size <= 1099511627776) :
  Calls Tryz.prog 100 #[.string k, .string s] w fun e w' => e = .returned (.int .i64 (numI k.data.toList s.data.toList)) /\ ∃ d, w' = w.drewN d := by
 have e1 : s.data.toList.length = s.size := rfl;have e2 : k.data.toList.length = k.size := rfl;by_cases h1 : s.size = k.size + 9
 ·by_cases h2 : s.data.toList.take k.size = k.data.toList
  ·exact rnum_dot k s w hk h1 h2
  ·rw [numI_none (by unfold numL; rw [if_pos (.inr (.inl (by rw [e2]; exact h2)))])];refine (rnum_pre k s w hk h1 h2).mono ?_;rintro e w' ⟨rfl, rfl⟩;exact ⟨rfl, 0, rfl⟩
 ·rw [numI_none (by unfold numL; rw [if_pos (.inl (by rw [e1, e2]; exact h1))])];refine (rnum_len k s w hk h1).mono ?_;rintro e w' ⟨rfl, rfl⟩;exact ⟨rfl, 0, rfl⟩
structure Inv10 (N : Nat) (M : LogL) (L : DiskL) : Prop where
 len : ∀ x ∈ L, x.2.1.length <= N
 byte : ∀ s ∈ M.segs, ∀ p ∈ s.2, ∀ b ∈ p, b < 256
 dirt : M.dirty.length <= N
theorem lens_put {k : Str} {a : List Nat × Nat} (h : ∀ x ∈ L, x.2.1.length <= N) (ha : a.1.length <= N) : ∀ x ∈ putK k a L, x.2.1.length <= N := fun x hx => by
 rcases mem_putK.1 hx with rfl | ⟨hx, _⟩
 ·exact ha
 ·exact h x hx
theorem lens_del {k : Str} (h : ∀ x ∈ L, x.2.1.length <= N) : ∀ x ∈ delK k L, x.2.1.length <= N := fun x hx => h x (mem_delK.1 hx).1
theorem lens_rem {k : Str} (h : ∀ x ∈ L, x.2.1.length <= N) : ∀ x ∈ (remL k L).1, x.2.1.length <= N := by
 unfold remL;split
 ·exact h
 ·exact lens_del h
theorem lens_cut {k : Str} {z : Int} (h : ∀ x ∈ L, x.2.1.length <= N) : ∀ x ∈ (cutL k z L).1, x.2.1.length <= N := by
 unfold cutL;split
 ·exact h
 ·next a ha =>
  split
  ·exact h
  ·have := h _ (getK_mem ha);exact lens_put h (by rw [List.length_take]; dsimp only at this; omega)
theorem lens_rot {k : Str} {z : Int} {y : Nat} (h : ∀ x ∈ L, x.2.1.length <= N) : ∀ x ∈ (rotL k z y L).1, x.2.1.length <= N := by
 unfold rotL;split
 ·exact h
 ·next a ha =>
  split
  ·exact h
  ·have := h _ (getK_mem ha);exact lens_put h (by rw [List.length_set]; exact this)
theorem lens_sync {k : Str} (h : ∀ x ∈ L, x.2.1.length <= N) : ∀ x ∈ (syncL k L).1, x.2.1.length <= N := by
 unfold syncL;split
 ·exact h
 ·next a ha => exact lens_put h (h _ (getK_mem ha))
theorem lens_syncs {k : Str} (l : List Nat) : ∀ {L : DiskL}, (∀ x ∈ L, x.2.1.length <= N) -> ∀ x ∈ syncsL k l L, x.2.1.length <= N := by
 unfold syncsL
 induction l with
 | nil => intro L h; exact h
 | cons n l ih => intro L h; rw [List.foldl_cons]; exact ih (lens_sync h)
theorem lens_crash {draw : Nat} (h : ∀ x ∈ L, x.2.1.length <= N) : ∀ x ∈ crashD draw L, x.2.1.length <= N := by
 intro x hx;unfold crashD at hx;obtain ⟨i, hi, rfl⟩ := List.mem_mapIdx.1 hx;have := h _ (List.getElem_mem hi);unfold crash1;dsimp only;rw [List.length_take];omega
theorem lens_app {k : Str} {p : List Nat} (h : ∀ x ∈ L, x.2.1.length <= N) : ∀ x ∈ (appL room k p L).1, x.2.1.length <= N + p.length := by
 have h2 : ∀ x ∈ L, x.2.1.length <= N + p.length := fun x hx => Nat.le_trans (h x hx) (by omega)
 unfold appL;split
 ·exact h2
 ·split
  ·exact h2
  ·refine lens_put h2 ?_;dsimp only;rw [List.length_append];have : (oldB k L).length <= N := by
    unfold oldB;rcases e : getK k L with _ | a
    ·simp
    ·exact h _ (getK_mem e)
   omega
theorem Inv10.more {N' : Nat} (h : Inv10 N M L) (hn : N <= N') : Inv10 N' M L := ⟨fun x hx => Nat.le_trans (h.len x hx) hn, h.byte, Nat.le_trans h.dirt hn⟩
theorem recL_len (hi : i <= 1099511627776) (p : List Nat) : (recL i p).length <= p.length + 18 := by
 have := uvl_len64 i (by omega);rw [rec_len];omega
theorem inv_add {k : Str} {p : List Nat} (h : Inv10 N M L) (hm : M.next <= 1099511627776) (hp : ∀ b ∈ p, b < 256) : Inv10 (N + p.length + 18) (addL room k p M L).1.1 (addL room k p M L).1.2 := by
 have h0 : Inv10 (N + p.length + 18) M L := h.more (by omega);unfold addL;split
 ·exact h0
 ·split
  ·exact h0
  ·split
   ·exact h0
   ·refine ⟨fun x hx => ?_, ?_, ?_⟩
    ·have h1 := lens_app (room := room) (k := nameL k (whereL k M L)) (p := recL M.next p) h.len x hx;have h2 := recL_len hm p;omega
    ·have key : ∀ l : List Sg, (∀ s ∈ l, ∀ p ∈ s.2, ∀ b ∈ p, b < 256) -> ∀ s ∈ laidL l p, ∀ p ∈ s.2, ∀ b ∈ p, b < 256 := by
      intro l hl s hs;unfold laidL at hs;rcases e : l.getLast? with _ | t
      ·rw [e] at hs; cases hs
      ·rw [e] at hs;rcases List.mem_append.1 hs with hs | hs
       ·exact hl s (List.dropLast_subset _ hs)
       ·have hs : s = (t.1, t.2 ++ [p]) := by simpa using hs
        subst hs;intro x hx;rcases List.mem_append.1 hx with hx | hx
        ·exact hl t (List.mem_of_getLast? e) x hx
        ·have : x = p := by simpa using hx
         subst this;exact hp
     refine key _ ?_;split
     ·intro s hs;rcases List.mem_append.1 hs with hs | hs
      ·exact h.byte s hs
      ·have hs : s = (M.next, []) := by simpa using hs
       subst hs;intro x hx;cases hx
     ·exact h.byte
    ·have := h.dirt
     show (M.dirty ++ [_]).length <= _
     rw [List.length_append];simp;omega
theorem inv_sync {k : Str} (h : Inv10 N M L) : Inv10 N ⟨M.segs, M.next, []⟩ (syncsL k M.dirty L) := ⟨lens_syncs _ h.len, h.byte, Nat.zero_le _⟩
theorem inv_cut {k : Str} (h : Inv10 N M L) : Inv10 N (cutW k i M L).1 (cutW k i M L).2 := by
 refine ⟨?_, fun s hs => ?_, h.dirt⟩
 ·have key : ∀ (S : List Sg) (L : DiskL), (∀ x ∈ L, x.2.1.length <= N) -> ∀ x ∈ S.foldl (cutD1 k i) L, x.2.1.length <= N := by
   intro S
   induction S with
   | nil => intro L h; exact h
   | cons s S ih =>
    intro L h;rw [List.foldl_cons];refine ih _ ?_;unfold cutD1;split
    ·exact lens_rem h
    ·split
     ·exact lens_cut h
     ·exact h
  exact key _ _ h.len
 ·obtain ⟨t, ht, hs⟩ := List.mem_filterMap.1 hs;unfold cutS at hs;split at hs
  ·cases hs
  ·split at hs
   ·have := Option.some.inj hs;subst this;exact fun p hp => h.byte t ht p (List.mem_of_mem_take hp)
   ·have := Option.some.inj hs;subst this;exact h.byte t ht
theorem dropF_sub (k : Str) (i nx : Nat) : ∀ (S : List Sg) (L : DiskL), ∀ s ∈ (dropF k i nx S L).1, s ∈ S := by
 intro S
 induction S with
 | nil => intro L s h; exact h
 | cons t S ih =>
  intro L s h;rw [dropF_cons] at h;split at h
  ·exact List.mem_cons_of_mem _ (ih _ s h)
  ·rcases List.mem_cons.1 h with h | h
   ·exact List.mem_cons.2 (.inl h)
   ·exact List.mem_cons_of_mem _ (ih _ s h)
theorem inv_drop {k : Str} (h : Inv10 N M L) : Inv10 N (dropW k i M L).1 (dropW k i M L).2 := by
 refine ⟨?_, fun s hs => h.byte s (dropF_sub _ _ _ _ _ s hs), h.dirt⟩;have key : ∀ (S : List Sg) (L : DiskL), (∀ x ∈ L, x.2.1.length <= N) -> ∀ x ∈ (dropF k i M.next S L).2, x.2.1.length <= N := by
  intro S
  induction S with
  | nil => intro L h; exact h
  | cons s S ih =>
   intro L h;rw [dropF_cons];split
   ·exact ih _ (lens_rem h)
   ·exact ih _ h
 exact key _ _ h.len
theorem readF_byte : ∀ (f : Nat) (b : List Nat) (i : Nat), (∀ x ∈ b, x < 256) -> ∀ p ∈ (readF f b i).1, ∀ x ∈ p, x < 256 := by
 intro f
 induction f with
 | zero => intro b i h p hp; cases hp
 | succ f ih =>
  intro b i h p hp;rw [readF_step] at hp;split at hp
  ·cases hp
  ·split at hp
   ·cases hp
   ·split at hp
    ·cases hp
    ·rcases List.mem_cons.1 hp with rfl | hp
     ·intro x hx;have hx := List.mem_of_mem_drop hx;unfold decL at hx;split at hx
      ·cases hx
      ·split at hx
       ·cases hx
       ·split at hx
        ·cases hx
        ·split at hx
         ·cases hx
         ·exact h x (List.mem_of_mem_drop (List.mem_of_mem_take hx))
     ·exact ih _ _ (fun x hx => h x (List.mem_of_mem_drop hx)) p hp
structure InvO (N n : Nat) (o : OpenS) : Prop where
 len : ∀ x ∈ o.disk, x.2.1.length <= N
 bytes : ∀ x ∈ o.disk, ∀ b ∈ x.2.1, b < 256
 byte : ∀ s ∈ o.log.segs, ∀ p ∈ s.2, ∀ b ∈ p, b < 256
 dirt : o.log.dirty.length <= n
theorem invO_step {k t : Str} {o : OpenS} (h : InvO N n o) : InvO N (n + 1) (openStep k o t) := by
 have hrem : ∀ x ∈ (remL t o.disk).1, ∀ b ∈ x.2.1, b < 256 := by
  unfold remL;split
  ·exact h.bytes
  ·exact fun x hx => h.bytes x (mem_delK.1 hx).1
 have hread : ∀ b ∈ (readL t o.disk).1, b < 256 := by
  unfold readL;split
  ·intro b hb; cases hb
  ·next a ha => exact h.bytes _ (getK_mem ha)
 have hseg : ∀ j, ∀ s ∈ o.log.segs ++ [(j, (segL (readL t o.disk).1 j).1)], ∀ p ∈ s.2, ∀ b ∈ p, b < 256 := fun j s hs => by
  rcases List.mem_append.1 hs with hs | hs
  ·exact h.byte s hs
  ·have hs : s = (j, (segL (readL t o.disk).1 j).1) := by simpa using hs
   subst hs;exact readF_byte _ _ _ hread
 have hd := h.dirt;have hdl : ∀ j : Nat, (o.log.dirty ++ [j]).length <= n + 1 := fun j => by rw [List.length_append]; simp; omega
 unfold openStep;split
 ·exact ⟨h.len, h.bytes, h.byte, by omega⟩
 ·split
  ·exact ⟨lens_rem h.len, hrem, h.byte, by show o.log.dirty.length <= _; omega⟩
  ·split
   ·exact ⟨h.len, h.bytes, hseg _, hdl _⟩
   ·split
    ·exact ⟨lens_rem h.len, hrem, h.byte, by show o.log.dirty.length <= _; omega⟩
    ·refine ⟨lens_cut h.len, ?_, hseg _, hdl _⟩
     show ∀ x ∈ (cutL _ _ o.disk).1, _
     unfold cutL;split
     ·exact h.bytes
     ·next a ha =>
      split
      ·exact h.bytes
      ·intro x hx;rcases mem_putK.1 hx with rfl | ⟨hx, _⟩
       ·exact fun b hb => h.bytes _ (getK_mem ha) b (List.mem_of_mem_take hb)
       ·exact h.bytes x hx
theorem invO_fold {k : Str} (l : List Str) : ∀ {n : Nat} {o : OpenS}, InvO N n o -> InvO N (n + l.length) (l.foldl (openStep k) o) := by
 induction l with
 | nil => intro n o h; exact h
 | cons t l ih =>
  intro n o h;rw [List.foldl_cons, List.length_cons, <- Nat.add_assoc, Nat.add_right_comm];exact ih (invO_step h)
theorem inv_open {k : Str} (hl : ∀ x ∈ L, x.2.1.length <= N) (hb : ∀ x ∈ L, ∀ b ∈ x.2.1, b < 256) (hn : L.length <= N) : Inv10 N (openR k L).log (openR k L).disk := by
 have h := invO_fold (k := k) (L.map (·.1)) (n := 0) (o := ⟨false, ⟨[], 1, []⟩, L⟩) ⟨hl, hb, (fun s hs => by cases hs), Nat.le_refl _⟩;refine ⟨h.len, h.byte, ?_⟩;have := h.dirt;rw [List.length_map] at this
 show ((L.map (·.1)).foldl (openStep k) ⟨false, ⟨[], 1, []⟩, L⟩).log.dirty.length <= N
 omega
theorem add_first {k : Str} {p : List Nat} (hk : 1 <= k.length /\ k.length <= 55) (hp : p.length <= 1048566) (hr : (recL 1 p).length <= room) : addL room k p ⟨[], 1, []⟩ [] = ((⟨[(1, [p])], 2, [1]⟩, [(nameL k 1, (recL 1 p, 0))]), 1, 0) := by
 have hf : freshL k ⟨[], 1, []⟩ [] = true := rfl;have hw : whereL k ⟨[], 1, []⟩ [] = 1 := by unfold whereL; rw [if_pos hf]
 have hl := name_len k 1;have ha : appL room (nameL k 1) (recL 1 p) [] = ([(nameL k 1, (recL 1 p, 0))], 0) := by
  unfold appL;rw [if_neg (fun h => h (by omega)), if_neg]
  ·rfl
  ·rintro (⟨_, h⟩ | h)
   ·exact absurd h (by simp)
   ·have : usedL ([] : DiskL) = 0 := rfl;omega
 unfold addL;rw [if_neg (by omega), if_neg (by decide), hw, hf];dsimp only;rw [ha, if_neg (by simp)]
 rfl
theorem add_next {y : Nat} {k : Str} {p b : List Nat} {es : List (List Nat)} {d : List Nat} (hk : 1 <= k.length /\ k.length <= 55) (hp : p.length <= 1048566) (hn : n < 99999999) (hb : b.length < 1024) (hr : b.length + (recL n p).length <= room) : addL room k p ⟨[(1, es)], n, d⟩ [(nameL k 1, (b, y))] = ((⟨[(1, es ++ [p])], n + 1, d ++ [1]⟩, [(nameL k 1, (b ++ recL n p, y))]), n, 0) := by
 have hg : getK (nameL k 1) [(nameL k 1, (b, y))] = some (b, y) := by unfold getK; simp
 have hf : freshL k ⟨[(1, es)], n, d⟩ [(nameL k 1, (b, y))] = false := by
  unfold freshL sizeL;simp only [List.getLast?_singleton, hg, Option.map_some, Option.getD_some];exact decide_eq_false (by omega)
 have hw : whereL k ⟨[(1, es)], n, d⟩ [(nameL k 1, (b, y))] = 1 := by unfold whereL; rw [if_neg (by rw [hf]; simp)]; rfl
 have hl := name_len k 1;have ha : appL room (nameL k 1) (recL n p) [(nameL k 1, (b, y))] = ([(nameL k 1, (b ++ recL n p, y))], 0) := by
  unfold appL;rw [if_neg (fun h => h (by omega)), if_neg]
  ·unfold oldB oldN;rw [hg];simp [putK, delK, insK]
  ·rintro (⟨h, _⟩ | h)
   ·rw [hg] at h;cases h
   ·have : usedL ([(nameL k 1, (b, y))] : DiskL) = b.length := by simp [usedL, sumK]
    omega
 unfold addL;rw [if_neg (by omega), if_neg (show ¬ 99999999 <= n by omega), hw, hf];dsimp only;rw [ha, if_neg (by simp)]
 rfl
theorem sync_two {k : Str} {b : List Nat} {y : Nat} : syncsL k [1, 1] [(nameL k 1, (b, y))] = [(nameL k 1, (b, b.length))] := by
 have hg : ∀ z : Nat, getK (nameL k 1) [(nameL k 1, (b, z))] = some (b, z) := fun z => by unfold getK; simp
 have h1 : ∀ z : Nat, (syncL (nameL k 1) [(nameL k 1, (b, z))]).1 = [(nameL k 1, (b, b.length))] := fun z => by
  unfold syncL;rw [hg];simp [putK, delK, insK]
 unfold syncsL;simp only [List.foldl_cons, List.foldl_nil, h1]
theorem rec_ten {x : Nat} (h : i < 128) : (recL i [x]).length = 10 := by
 rw [rec_len, uvl_low h]
 rfl
theorem known_open (k : Str) : (openR k (crashD 3 [(nameL k 1, (recL 1 [97] ++ recL 2 [98] ++ recL 3 [99], 20))])).log = ⟨[(1, [[97], [98]])], 3, [1]⟩ := by
 have h1 := rec_ten (i := 1) (x := 97) (by decide);have h2 := rec_ten (i := 2) (x := 98) (by decide);have h3 := rec_ten (i := 3) (x := 99) (by decide);have hb : recL 1 [97] ++ recL 2 [98] ++ recL 3 [99] = recsL 1 [[97], [98], [99]] := by simp [recsL]
 have hl : (recsL 1 [[97], [98], [99]]).length = 30 := by rw [<- hb, List.length_append, List.length_append, h1, h2, h3]
 have hc : crashD 3 [(nameL k 1, (recsL 1 [[97], [98], [99]], 20))] = filesL k [(1, ((recsL 1 [[97], [98], [99]]).take 23, 23))] := by
  unfold crashD filesL;simp [crash1, hl]
 have hfit : FitsAll 1 [[97], [98], [99]] := ⟨⟨by decide, by decide⟩, ⟨by decide, by decide⟩, ⟨by decide, by decide⟩, trivial⟩;obtain ⟨j, j1, j2, j3, j4, j5, j6⟩ := seg_torn [[97], [98], [99]] 1 23 hfit (by omega);have j1 : j <= 3 := j1;have hlen : ∀ q, q <= 3 -> (recsL 1 (([[97], [98], [99]] : List (List Nat)).take q)).length = 10 * q := fun q hq => by
  match q, hq with
  | 0, _ => rfl
  | 1, _ => simp [recsL, h1]
  | 2, _ => simp [recsL, h1, h2]
  | 3, _ => simp [recsL, h1, h2, h3]
 rw [hlen j j1] at j3 j4 j5;have hj : j = 2 := by
  by_cases h : j < 3
  ·have := j6 h;rw [hlen (j + 1) (by omega)] at this;omega
  ·omega
 subst hj;have hr : Rises [((1, ((recsL 1 [[97], [98], [99]]).take 23, 23)) : Fl)] := ⟨List.pairwise_singleton _ _, fun x hx => by
  have : x = (1, ((recsL 1 [[97], [98], [99]]).take 23, 23)) := by simpa using hx
  rw [this];exact ⟨Nat.le_refl _, by decide⟩⟩
 rw [hb, hc];have ho := (openR_files (k := k) hr).1;rw [ho];have hw : (segL ((recsL 1 [[97], [98], [99]]).take 23) 1).2.2 ≠ true := fun e => by
  have := j5 e;omega
 rw [openF_cons, if_neg (by rintro ⟨e, h, _⟩; cases h), if_neg hw, if_neg (by rw [j3]; decide), j2]
 rfl
end Go.Proofs.YtbmhfnhfhdgdgaaGreat
