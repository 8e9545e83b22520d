/- The contract of the law's own known(). No condition. The walk of the law VolumeOfNothing: it returns true for any needle of sizes and any number. -/
import Derived.Test.YtbmhfnhfhdgdgaaVn33
import Derived.Test.YtbmhfnhfhdgdgaaVn9
import Derived.Test.YtbmhfnhfhdgdgaaVn7
namespace Go.Proofs.Ytbmhfnhfhdgdgaa
open Go.RowKit Go.Maps
variable {w : World} {F : Nat -> Prop} {L : DiskL} {s : ByteArray} {room d b : Nat}
theorem vput_as {v : Nat} {T : PlL} {R : (PlL × DiskL) × Nat} {c0 : Nat} (h : VolD w F v d b room s T L) (hs : s.size <= 1099511627776) (h8 : 8 <= szV s.data.toList L) (hl : T.length < 1099511627776)
  (k c : Nat) (dd : Bool) (A : Option Addr) (n cp : Nat) (data : List Nat) (hk : k < 18446744073709551616) (hc : c < 4294967296) (hA : IsB w (.slice A n cp) data) (hn : data.length = n) (hb : ∀ x ∈ data, x < 256) (hR : putV room s.data.toList k c dd data T L = R) (h0 : R.2 = c0) :
  Calls Try.prog 9 #[.pointer (some ⟨v, 0, none⟩), .agg #[.int .u64 (k : Int), .int .u32 (c : Int), .bool dd, .slice A n cp]] w fun e w' => e = .returned (.int .i64 (c0 : Int)) /\ ∃ F', VolD w' F' v d b room s R.1.1 R.1.2 /\ Turn (fun k => F k \/ k = b) w w' /\ ∀ k, F' k -> F k \/ w.heap.size <= k := by
 subst hR;subst h0;exact vput_any h hs h8 hl k c dd A n cp data hk hc hA hn hb
theorem vget_as {v : Nat} {T : PlL} {r : List Nat × Nat} (h : VolD w F v d b room s T L) (hs : s.size <= 1099511627776) (k c : Nat) (hk : k < 18446744073709551616) (hr : getV k c T (readL s.data.toList L).1 = r) :
  Calls Try.prog 12 #[.pointer (some ⟨v, 0, none⟩), .int .u64 (k : Int), .int .u32 (c : Int)] w fun e w' => GetAns w r e w' := by
 subst hr;exact vget_any h hs k c hk
set_option maxRecDepth 100000 in
set_option maxHeartbeats 3200000 in
theorem known_any (w : World) : Calls Try.prog 14 #[] w fun e w' => e = .returned (.bool true) /\ Below w.heap.size w w' := by
 have kc := fun (w : World) (C : Array Value) (n c : Nat) => const_bytes w C n c _ rfl
 have IC := hide (fun (w : World) (cs : Array Value) (fr : Nat × Nat) (hl : cs.toList = [97, 98].map fun x : Nat => Value.int .u8 (x : Int)) => isB_const w cs fr [97, 98] hl (by decide) _ 2 rfl rfl);have KC := hide (fun (w : World) (cs : Array Value) (fr : Nat × Nat) => below_alloc w (.cells cs 5 fr));go_enter Try.func14, Try.ntmps14;go_wp2_with fail
 refine (new_any 1000 w (by decide)).mono ?_;rintro e w1 ⟨d, F1, rfl, d1, f1, k1⟩;have D1 := hide d1;have FF1 := hide f1;have K1 := hide k1;clear d1 f1 k1;go_wp2_with fail
 refine (create_ok F1 d 1000 [] 7 w1 D1.out (by decide) k_lay.1 k_lay.2.1).mono ?_;rintro e w2 ⟨v, b, F2, rfl, v2, n2, hv, hb⟩;have V2 := hide v2;have FF2 := hide (n2.up K1.out.size FF1.out);have K2 := hide (K1.out.trans (n2.below K1.out.size FF1.out));have HB := hide (Nat.le_trans K1.out.size hb);clear v2 n2 hv hb D1 FF1 K1;go_wp2_with fail
 refine (vput_as (R := kP1) (c0 := 0) (V2.out.below (KC.out w2 _ _)) (by rw [nameV_size]; decide) k_lay.2.2 (by decide) 1 5 false _ 2 2 [97, 98] (by decide) (by decide) (IC.out w2 _ _ rfl) rfl (by decide) rfl k_put1.1).mono ?_;rintro e w3 ⟨rfl, F3, v3, t3, f3⟩;have kk := KC.out w2 #[.int .u8 97, .int .u8 98] (2, 3);have ks := Nat.le_trans K2.out.size kk.size;have V3 := hide v3;have FF3 : Hid (∀ k, F3 k -> w.heap.size <= k) := hide (fun k hk => (f3 k hk).elim (FF2.out k) (fun e => Nat.le_trans ks e));have K3 := hide ((K2.out.trans (kk.mono K2.out.size)).trans (t3.below ks (fun k e => e.elim (FF2.out k) (fun e => by rw [e]; exact HB.out))));clear v3 t3 f3 kk ks V2 FF2 K2 kc;go_wp2_with fail
 refine (vget_as V3.out (by rw [nameV_size]; decide) 1 5 (by decide) k_put1.2.2.2).mono ?_;rintro e w4 ⟨u4, rfl, o4, k4⟩;have V4 := hide (V3.out.below k4);have K4 := hide (K3.out.trans (k4.mono K3.out.size));have O4 := hide o4;have LW : Hid (∀ k, F3 k \/ k = b -> k < w3.heap.size) := hide (fun k e => e.elim (V3.out.disk.low k) (fun e => by rw [e]; exact V3.out.vol.low.2));clear V3 o4 k4 K3;go_wp2_with fail
 refine (vput_as (R := kP2) (c0 := 0) V4.out (by rw [nameV_size]; decide) k_put1.2.2.1 (by rw [k_put1.2.1]; decide) 1 5 true _ 0 0 [] (by decide) (by decide) (isB_nilw _) rfl (by decide) rfl k_put2.1).mono ?_;rintro e w5 ⟨rfl, F5, v5, t5, f5⟩;have v5' : VolD w5 F5 v d b 1000 (nameV 7) [kQ] kP2.1.2 := k_put2.2.1 ▸ v5;have V5 := hide v5';have FF5 : Hid (∀ k, F5 k -> w.heap.size <= k) := hide (fun k hk => (f5 k hk).elim (FF3.out k) (fun e => Nat.le_trans K4.out.size e));have K5 := hide (K4.out.trans (t5.below K4.out.size (fun k e => e.elim (FF3.out k) (fun e => by rw [e]; exact HB.out))));have O5 := hide (O4.out.turn t5 (fun g hg e => by have h1 := (O4.out.lt g hg).1; have h2 := LW.out g e; omega));clear v5 v5' t5 f5 V4 FF3 K4 O4 LW;go_wp2_with fail
 refine (vget_as V5.out (by rw [nameV_size]; decide) 1 5 (by decide) (k_put2.2.1 ▸ k_put2.2.2.1)).mono ?_;rintro e w6 ⟨u6, rfl, o6, k6⟩;have V6 := hide (V5.out.below k6);have K6 := hide (K5.out.trans (k6.mono K5.out.size));have O6 := hide (O5.out.turn (Turn.of_below (fun _ => False) k6) (fun _ _ => id));clear o6 k6 V5 K5 O5;obtain ⟨A6, c6, rfl, i6, l6, m6⟩ := O6.out.isB.form (n := 2) rfl;have kc := fun (w : World) (C : Array Value) (n c : Nat) => const_bytes w C n c _ rfl
 clear i6 l6 m6;go_wp2_with fail
 refine (same_any A6 _ 2 2 c6 2 [97, 98] [97, 98] _ (O6.out.isB.keep (KC.out w6 _ _)).rd (IC.out w6 _ _ rfl).rd rfl rfl (by decide) (by decide)).mono ?_;rintro e w7 ⟨rfl, d7, rfl⟩;have V7 := hide ((V6.out.below (KC.out w6 #[.int .u8 97, .int .u8 98] (2, 3))).below (below_drewN (Below.refl _ _) d7));have K7 := hide (below_drewN (K6.out.trans ((KC.out w6 #[.int .u8 97, .int .u8 98] (2, 3)).mono K6.out.size)) d7);rw [decide_eq_true rfl];clear V6 K6 O6 kc;go_wp2_with fail
 refine (dirt_one V7.out (by rw [nameV_size]; decide)).mono ?_;rintro e w8 ⟨rfl, k8⟩;have K8 := hide (K7.out.trans (k8.mono K7.out.size));have ed : dirt1 (szV (nameV 7).data.toList kP2.1.2) kQ = 32 := k_put2.2.2.2;rw [ed];clear k8 V7 K7 ed;go_wp2_with fail
 go_ret;exact ⟨rfl, K8.out⟩
theorem places_nil (w : World) : Calls Try.prog 19 #[.pointer none] w fun e w' => e = .returned (.slice none 0 0) /\ w' = w := by
 go_enter Try.func19, Try.ntmps19;go_wp2_with fail
 go_ret;exact ⟨rfl, rfl⟩
theorem needles_nil (w : World) : Calls Try.prog 21 #[.pointer none] w fun e w' => e = .returned (.slice none 0 0) /\ w' = w := by
 go_enter Try.func21, Try.ntmps21;go_wp2_with fail
 go_ret;exact ⟨rfl, rfl⟩
set_option maxRecDepth 100000 in
set_option maxHeartbeats 3200000 in
theorem volumeOfNothing_core (k c : Nat) (d : Bool) (A : Option Addr) (n cap : Nat) (z : Int) (w : World) :
  Calls Try.prog 6 #[.agg #[.int .u64 (k : Int), .int .u32 (c : Int), .bool d, .slice A n cap], .int .i64 z] w fun e w' => e = .returned (.bool true) /\ Below w.heap.size w w' := by
 by_cases hb : (20000 : Int) < (n : Int)
 ·go_enter Try.func6, Try.ntmps6;go_wp2_with fail
  go_ret;exact ⟨rfl, below_alloc _ _⟩
 ·go_enter Try.func6, Try.ntmps6;go_wp2_with fail
  have ka := below_alloc w (.cells #[.int .u64 (k : Int), .int .u32 (c : Int), .bool d, .slice A n cap] 35);have bg := Blk.new w (B := 0) 35 #[.int .u64 (k : Int), .int .u32 (c : Int), .bool d, .slice A n cap] (Nat.zero_le _);obtain ⟨g, hg⟩ : ∃ g, g = w.heap.size := ⟨_, rfl⟩;obtain ⟨W, hW⟩ : ∃ W, W = w.alloc (.cells #[.int .u64 (k : Int), .int .u32 (c : Int), .bool d, .slice A n cap] 35) := ⟨_, rfl⟩;rw [<- hW] at ka bg ⊢;rw [<- hg] at bg ⊢;have KW := hide ka;have BG := hide bg;clear hW hg ka bg;refine (vget_nil k c W).mono ?_;rintro e w1 ⟨u1, rfl, o1, k1⟩;obtain ⟨A1, c1, rfl, i1, l1, m1⟩ := o1.isB.form (n := 0) rfl;have BG := hide (BG.out.keep k1);have KW := hide (KW.out.trans (k1.mono KW.out.size));have x0 := BG.out.cell 0;have x1 := BG.out.cell 1;have x2 := BG.out.cell 2;have x3 := BG.out.cell 3;dsimp only [Array.toList, List.getElem?_cons_succ, List.getElem?_cons_zero] at x0 x1 x2 x3;clear o1 k1 i1 l1 m1;go_wp2_with fail
  refine (create_nil z _).mono ?_;rintro e w2 ⟨rfl, k2⟩;have BG := hide (BG.out.keep k2);have KW := hide (KW.out.trans (k2.mono KW.out.size));clear k2 x0 x1 x2 x3;go_wp2_with fail
  refine (open_nil z _).mono ?_;rintro e w3 ⟨rfl, k3⟩;have BG := hide (BG.out.keep k3);have KW := hide (KW.out.trans (k3.mono KW.out.size));have x0 := BG.out.cell 0;have x1 := BG.out.cell 1;have x2 := BG.out.cell 2;have x3 := BG.out.cell 3;dsimp only [Array.toList, List.getElem?_cons_succ, List.getElem?_cons_zero] at x0 x1 x2 x3;clear k3;go_wp2_with fail
  refine (vput_nil k c d A n cap _).mono ?_;rintro e w4 ⟨rfl, k4⟩;have KW := hide (KW.out.trans (k4.mono KW.out.size));clear k4 x0 x1 x2 x3 BG;go_wp2_with fail
  refine (places_nil _).mono ?_;rintro e w5 ⟨rfl, rfl⟩;go_wp2_with fail
  refine (needles_nil _).mono ?_;rintro e w5 ⟨rfl, rfl⟩;go_wp2_with fail
  refine (vsize_nil _).mono ?_;rintro e w5 ⟨rfl, rfl⟩;go_wp2_with fail
  refine (dirt_nil _).mono ?_;rintro e w5 ⟨rfl, rfl⟩;go_wp2_with fail
  refine (known_any _).mono ?_;rintro e w6 ⟨rfl, k6⟩;have KW := hide (KW.out.trans (k6.mono KW.out.size));clear k6;go_wp2_with fail
  go_ret;exact ⟨rfl, KW.out⟩
theorem volumeOfNothing_walk (k c : Nat) (d : Bool) (A : Option Addr) (n cap : Nat) (xs : List Nat) (z : Int) (w : World) (_ : k < 18446744073709551616) (_ : c < 4294967296) (_ : IsB w (.slice A n cap) xs) (_ : xs.length = n) (_ : ∀ x ∈ xs, x < 256) (_ : n <= 140737488351232) (_ : (Lit.int .i64 z).wf = true) :
  Calls Try.prog 6 #[.agg #[.int .u64 (k : Int), .int .u32 (c : Int), .bool d, .slice A n cap], .int .i64 z] w fun e w' => e = .returned (.bool true) /\ Below w.heap.size w w' := volumeOfNothing_core k c d A n cap z w
end Go.Proofs.Ytbmhfnhfhdgdgaa
