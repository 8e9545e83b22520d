/- The contract of the program's number. Condition: a prefix of at most 64 bytes. -/
import Derived.Test.YtedlibkkeegnaaaGreatRv12
namespace Go.Proofs.YtedlibkkeegnaaaGreat
open Go.RowKit Go.Maps
def numR (k s : Str) : Value := .tuple #[.int .i64 (((numL k s).getD 0 : Nat) : Int), .bool (numL k s).isSome]
theorem dot_list (k : ByteArray) : (k ++ ({ data := #[46] } : ByteArray)).data.toList = k.data.toList ++ [46] := by
 rw [ByteArray.data_append];simp
theorem dot_size (k : ByteArray) : (k ++ ({ data := #[46] } : ByteArray)).size = k.size + 1 := by
 rw [ByteArray.size_append]
 rfl
theorem conv_bytes (w : World) (u : ByteArray) : ∃ c W, (convert 9 32 (.string u)).run Tryz.prog w = .ok (.slice (some ⟨w.heap.size, 0, none⟩) u.size c) W /\ u.size <= c /\ Below w.heap.size w W /\ ∀ j, j < u.size -> W.cell? ⟨w.heap.size, j, none⟩ = some (.int .u8 (((u.data.toList.getD j 0).toNat : Nat) : Int)) := by
 refine ⟨_, _, run_bytes_of_string (P := Tryz.prog) w 9 32 5 u Tryz.underlying9 Tryz.underlying32 Tryz.underlying5, grownCap_ge _ _ _ _, ⟨rfl, rfl, rfl, by simp, fun k hk => heap_alloc_old w.drew _ hk⟩, fun j hj => ?_⟩;have hz : w.heap.size = w.drew.heap.size := rfl;rw [cell_of_row (w.drew.alloc _) w.heap.size j _ _ _ (by rw [hz]; exact heap_alloc_new w.drew _)];have hj2 : j < u.data.size := hj;unfold bytesRow;rw [Array.getElem?_append_left (by simpa using hj2)];simp only [Array.getElem?_map, Array.getElem?_eq_getElem hj2, Option.map_some];rw [List.getD_eq_getElem?_getD, List.getElem?_eq_getElem (by simpa using hj2)];simp
set_option maxRecDepth 100000 in
set_option maxHeartbeats 3200000 in
theorem pnumber_any (l : Nat) (k t : ByteArray) (w : World) (c1 : w.cell? ⟨l, 1, none⟩ = some (.string k)) (hk : k.size <= 64) :
  Calls Tryz.prog 87 #[.pointer (some ⟨l, 0, none⟩), .string t] w fun e w' => e = .returned (numR k.data.toList t.data.toList) /\ Below w.heap.size w w' := by
 have hll := cell_lt c1;obtain ⟨kd, hkd⟩ : ∃ kd : ByteArray, kd = k ++ ({ data := #[46] } : ByteArray) := ⟨_, rfl⟩;have hkl : kd.data.toList = k.data.toList ++ [46] := by rw [hkd]; exact dot_list k
 have hks : kd.size = k.size + 1 := by rw [hkd]; exact dot_size k
 have hk40 : k.size <= 1099511627776 := by omega
 have hk0 : k.data.toList.length = k.size := rfl;by_cases h : t.data.toList.take kd.size = kd.data.toList
 ·have HC := hide (fun W => cutpre_yes t kd W h);have HN := numL_yes (k := k.data.toList) (s := t.data.toList) (by rw [hk0, <- hks, <- hkl]; exact h);rw [hk0, <- hks] at HN;have HN := hide HN;clear h hkl hks hk0;go_enter Tryz.func87, Tryz.ntmps87;go_wp2_with fail
  rw [<- hkd];refine (HC.out _).mono ?_;rintro e w1 ⟨u, rfl, hu, k1⟩;obtain ⟨n, hn⟩ : ∃ n, u.size = n := ⟨_, rfl⟩;have hul : u.data.toList.length = n := hn;have K1 := hide k1;rw [<- hu] at HN;have HU := hide hu;by_cases h8 : n = 8
  ·have hz : ((n : Int) != 8) = false := by simp; omega
   have HV : Hid (numL k.data.toList t.data.toList = valD 0 u.data.toList) := hide (by rw [HN.out, if_neg (by rw [hul]; omega)]);have HUL := hide hul;clear hul hu k1 HN HC;obtain ⟨cu, w2, hcv, hcu, hk2, hcell⟩ := conv_bytes w1 u;rw [hn] at hcv hcu hcell;have hnc : (n : Int) <= (cu : Int) := by omega
   obtain ⟨g, hg⟩ : ∃ g, g = w1.heap.size := ⟨_, rfl⟩;rw [<- hg] at hcv hcell;have HCE := hide hcell;have KK2 := hide (below_step K1.out hk2);have HN8 := hide h8;clear hcell hk2 hg hcu;go_wp2_with fail
   go_loopw [8, 31] (fun nn ix wr => ∃ j v : Nat, j <= 8 /\ nn = .int .i64 (v : Int) /\ v < 10 ^ j /\ ix = .int .i64 (j : Int) /\ w2 = wr /\ Hid (numL k.data.toList t.data.toList = valD v (u.data.toList.drop j))) (fun _ ix _ => 8 - (intOf ix).toNat)
   case atStart => exact ⟨0, 0, Nat.zero_le _, rfl, by decide, rfl, rfl, by simpa [Hid] using HV.out⟩
   case round =>
    obtain ⟨j, v, hj, rfl, hvj, rfl, rfl, hV⟩ := hrel;have HVJ := hide hvj;by_cases hlt : j < 8
    ·have hln : (j : Int) < (n : Int) := by have := HN8.out; omega
     have hln2 : j < n := by have := HN8.out; omega
     obtain ⟨x, hx⟩ : ∃ x, x = (u.data.toList.getD j 0).toNat := ⟨_, rfl⟩;have q := HCE.out j hln2;rw [<- hx] at q;have hxs : x < 256 := by rw [hx]; exact UInt8.toNat_lt _
     have HDR : Hid (valD v (u.data.toList.drop j) = if x < 48 \/ 57 < x then none else valD (v * 10 + (x - 48)) (u.data.toList.drop (j + 1))) := hide (by
      rw [drop_byteP _ j (by rw [HUL.out]; exact hln2), valD_step];have e1 : (u.data.toList.getD j 0 < 48 \/ 57 < u.data.toList.getD j 0) ↔ (x < 48 \/ 57 < x) := by
       rw [UInt8.lt_iff_toNat_lt, UInt8.lt_iff_toNat_lt, <- hx];exact Iff.rfl
      simp only [e1, <- hx])
     clear hx hvj;by_cases hlo : x < 48
     ·have hlz : (x : Int) < 48 := by omega
      have HF : Hid (numL k.data.toList t.data.toList = none) := hide (by rw [hV.out, HDR.out, if_pos (.inl hlo)]);go_wp2_with fail
      refine bodyPost_ret (v := .tuple #[.int .i64 0, .bool false]) (by simp [results, Tryz.results87, go_sem]) rfl ?_;unfold numR;rw [HF.out];exact ⟨rfl, KK2.out⟩
     ·have hlz : 48 <= (x : Int) := by omega
      by_cases hhi : 57 < x
      ·have hhz : 57 < (x : Int) := by omega
       have HF : Hid (numL k.data.toList t.data.toList = none) := hide (by rw [hV.out, HDR.out, if_pos (.inr hhi)]);go_wp2_with fail
       refine bodyPost_ret (v := .tuple #[.int .i64 0, .bool false]) (by simp [results, Tryz.results87, go_sem]) rfl ?_;unfold numR;rw [HF.out];exact ⟨rfl, KK2.out⟩
      ·have hhz : (x : Int) <= 57 := by omega
       have HV2 : Hid (numL k.data.toList t.data.toList = valD (v * 10 + (x - 48)) (u.data.toList.drop (j + 1))) := hide (by rw [hV.out, HDR.out, if_neg (by omega)]);have hpw : 10 ^ (j + 1) = 10 * 10 ^ j := by rw [Nat.pow_succ, Nat.mul_comm]
       have hpl : 10 ^ (j + 1) <= 100000000 := Nat.pow_le_pow_right (n := 10) (by decide) (show j + 1 <= 8 by omega);have hnew : v * 10 + (x - 48) < 10 ^ (j + 1) := by have := HVJ.out; omega
       have HNEW := hide hnew;have hv1 : v < 100000000 := by have := HVJ.out; omega
       have hw0 : IntKind.u8.wrap ((x : Int) - 48) = (x : Int) - 48 := by rw [IntKind.wrap_u8]; omega
       have hw1 : IntKind.i64.wrap ((x : Int) - 48) = (x : Int) - 48 := by rw [IntKind.wrap_i64]; omega
       have hw2 : IntKind.i64.wrap (10 * (v : Int)) = 10 * (v : Int) := by rw [IntKind.wrap_i64]; omega
       have hw3 : IntKind.i64.wrap (10 * (v : Int) + ((x : Int) - 48)) = 10 * (v : Int) + ((x : Int) - 48) := by rw [IntKind.wrap_i64]; omega
       clear hpw hpl hnew hlo hhi;go_wp2_with fail
       go_roundw
       case rel => exact ⟨j + 1, v * 10 + (x - 48), by omega, by congr 1; omega, HNEW.out, by go_num, trivial, HV2.out⟩
       case measure => simp [intOf]; omega
    ·have hje : j = 8 := by omega
     have hln : (n : Int) <= (j : Int) := by have := HN8.out; omega
     have HF : Hid (numL k.data.toList t.data.toList = some v) := hide (by
      rw [hV.out, List.drop_of_length_le (by rw [HUL.out, HN8.out]; omega)]
      rfl)
     clear hvj;go_wp2_with fail
     refine bodyPost_ret (v := .tuple #[.int .i64 (v : Int), .bool true]) (by simp [results, Tryz.results87, go_sem]) rfl ?_;unfold numR;rw [HF.out];exact ⟨rfl, KK2.out⟩
  ·have hz : ((n : Int) != 8) = true := by simp; omega
   have HV : Hid (numL k.data.toList t.data.toList = none) := hide (by rw [HN.out, if_pos (by rw [hul]; exact h8)]);clear hul hu k1 HN HC;go_wp2_with fail
   refine bodyPost_ret (v := .tuple #[.int .i64 0, .bool false]) (by simp [results, Tryz.results87, go_sem]) rfl ?_;unfold numR;rw [HV.out];exact ⟨rfl, K1.out⟩
 ·have HC := hide (fun W => cutpre_no t kd W h);have HN := hide (numL_no (k := k.data.toList) (s := t.data.toList) (by rw [hk0, <- hks, <- hkl]; exact h));clear h hkl hks hk0;go_enter Tryz.func87, Tryz.ntmps87;go_wp2_with fail
  rw [<- hkd];refine (HC.out _).mono ?_;rintro e w1 ⟨rfl, k1⟩;have K1 := hide k1;clear k1 HC;go_wp2_with fail
  refine bodyPost_ret (v := .tuple #[.int .i64 0, .bool false]) (by simp [results, Tryz.results87, go_sem]) rfl ?_;unfold numR;rw [HN.out];exact ⟨rfl, K1.out⟩
end Go.Proofs.YtedlibkkeegnaaaGreat
