/- The walk of the law's own 'known': what lasts of three entries. No condition. -/
import Derived.Test.YtbmhfnhfhdgdgaaGreatW38
import Derived.Test.YtbmhfnhfhdgdgaaGreatW10
namespace Go.Proofs.YtbmhfnhfhdgdgaaGreat
open Go.RowKit Go.Maps
def kw : Str := (⟨#[119]⟩ : ByteArray).data.toList
theorem kw_len : 1 <= kw.length /\ kw.length <= 55 := by decide
set_option maxRecDepth 100000 in
set_option maxHeartbeats 3200000 in
theorem known_any (w : World) : Calls Tryz.prog 6 #[] w fun e w' => e = .returned (.bool true) /\ Below w.heap.size w w' := by
 have kc := const_bytes;have r1 := rec_ten (i := 1) (x := 97) (by decide);have r2 := rec_ten (i := 2) (x := 98) (by decide);have r3 := rec_ten (i := 3) (x := 99) (by decide);have A1 := hide (add_first (room := 10000) (k := kw) (p := [97]) kw_len (by decide) (by rw [r1]; decide));have A2 := hide (add_next (room := 10000) (n := 2) (y := 0) (k := kw) (p := [98]) (b := recL 1 [97]) (es := [[97]]) (d := [1]) kw_len (by decide) (by decide) (by rw [r1]; decide) (by rw [r1, r2]; decide));have hl2 : (recL 1 [97] ++ recL 2 [98]).length = 20 := by rw [List.length_append, r1, r2]
 have A3 := hide (add_next (room := 10000) (n := 3) (y := 20) (k := kw) (p := [99]) (b := recL 1 [97] ++ recL 2 [98]) (es := [[97], [98]]) (d := []) kw_len (by decide) (by decide) (by rw [hl2]; decide) (by rw [hl2, r3]; decide));have SY : Hid (syncsL kw [1, 1] [(nameL kw 1, (recL 1 [97] ++ recL 2 [98], 0))] = [(nameL kw 1, (recL 1 [97] ++ recL 2 [98], 20))]) := hide (by rw [sync_two, hl2]);have OP := hide (known_open kw);have O0 := hide (open_empty kw);clear r1 r2 r3 hl2;go_enter Tryz.func6, Tryz.ntmps6;go_wp2_with fail
 refine (new_any 10000 w (by decide)).mono ?_;rintro e w1 ⟨d, F1, rfl, d1, l1, k1⟩;have D1 := hide d1;have K1 := hide k1;have L1 := hide l1;clear d1 l1 k1;go_wp2_with fail
 refine (run_open (B := w.heap.size) ⟨#[119]⟩ D1.out L1.out K1.out.size (by decide) (by decide)).mono ?_;rintro e w2 ⟨l, rfl, h2, k2⟩;have h2 : Run w.heap.size w2 d l 10000 ⟨#[119]⟩ ⟨[], 1, []⟩ [] := by
  have h9 := O0.out;unfold kw at h9;rw [h9] at h2;exact h2
 have H2 := hide h2;have K2 := hide (K1.out.trans k2);clear h2 k2;go_wp2_with fail
 have ka := below_alloc w2 (.cells #[.int .u8 97] 5 (1, 2));refine (run_add H2.out ka _ 1 1 [97] (isB_const w2 _ _ _ rfl (by decide) _ _ rfl rfl) rfl (by decide) (fun _ g hg => .inr (by cases hg; exact Nat.le_refl _))).mono ?_;rintro e w3 ⟨rfl, h3, k3⟩;rw [show addL 10000 (⟨#[119]⟩ : ByteArray).data.toList [97] ⟨[], 1, []⟩ [] = _ from A1.out] at h3 ⊢;have H3 := hide h3;have K3 := hide ((K2.out.trans (ka.mono K2.out.size)).trans k3);clear h3 k3 ka;go_wp2_with fail
 have ka := below_alloc w3 (.cells #[.int .u8 98] 5 (1, 2));refine (run_add H3.out ka _ 1 1 [98] (isB_const w3 _ _ _ rfl (by decide) _ _ rfl rfl) rfl (by decide) (fun _ g hg => .inr (by cases hg; exact Nat.le_refl _))).mono ?_;rintro e w4 ⟨rfl, h4, k4⟩;rw [show addL 10000 (⟨#[119]⟩ : ByteArray).data.toList [98] ⟨[(1, [[97]])], 2, [1]⟩ [(nameL kw 1, (recL 1 [97], 0))] = _ from A2.out] at h4 ⊢;have H4 := hide h4;have K4 := hide ((K3.out.trans (ka.mono K3.out.size)).trans k4);clear h4 k4 ka;go_wp2_with fail
 refine (run_sync H4.out).mono ?_;rintro e w5 ⟨rfl, h5, k5⟩;rw [show syncsL (⟨#[119]⟩ : ByteArray).data.toList ([1] ++ [1]) [(nameL kw 1, (recL 1 [97] ++ recL 2 [98], 0))] = _ from SY.out] at h5;have h5 : Run w.heap.size w5 d l 10000 ⟨#[119]⟩ ⟨[(1, [[97], [98]])], 3, []⟩ [(nameL kw 1, (recL 1 [97] ++ recL 2 [98], 20))] := h5;have H5 := hide h5;have K5 := hide (K4.out.trans k5);clear h5 k5;go_wp2_with fail
 have ka := below_alloc w5 (.cells #[.int .u8 99] 5 (1, 2));refine (run_add H5.out ka _ 1 1 [99] (isB_const w5 _ _ _ rfl (by decide) _ _ rfl rfl) rfl (by decide) (fun _ g hg => .inr (by cases hg; exact Nat.le_refl _))).mono ?_;rintro e w6 ⟨rfl, h6, k6⟩;rw [show addL 10000 (⟨#[119]⟩ : ByteArray).data.toList [99] ⟨[(1, [[97], [98]])], 3, []⟩ [(nameL kw 1, (recL 1 [97] ++ recL 2 [98], 20))] = _ from A3.out] at h6 ⊢;have H6 := hide h6;have K6 := hide ((K5.out.trans (ka.mono K5.out.size)).trans k6);clear h6 k6 ka;go_wp2_with fail
 refine (run_crash H6.out 3).mono ?_;rintro e w7 ⟨rfl, F7, d7, f7, b7, k7⟩;have D7 := hide d7;have F7' := hide f7;have K7 := hide (K6.out.trans k7);clear d7 f7 k7;go_wp2_with fail
 refine (run_open (B := w.heap.size) ⟨#[119]⟩ D7.out F7'.out b7 (by decide) (by decide)).mono ?_;rintro e w8 ⟨l8, rfl, h8, k8⟩;rw [show (openR (⟨#[119]⟩ : ByteArray).data.toList (crashD (3 : Int).toNat [(nameL kw 1, (recL 1 [97] ++ recL 2 [98] ++ recL 3 [99], 20))])).log = _ from OP.out] at h8;have H8 := hide h8;have K8 := hide (K7.out.trans k8);clear h8 k8;go_wp2_with fail
 refine (run_bounds H8.out).mono ?_;rintro e w9 ⟨rfl, k9⟩;have K9 := hide (K8.out.trans (k9.mono K8.out.size));clear k9;rw [show firstL ⟨[(1, [[97], [98]])], 3, [1]⟩ = 1 from rfl];go_wp2_with fail
 go_ret;exact ⟨rfl, K9.out⟩
end Go.Proofs.YtbmhfnhfhdgdgaaGreat
