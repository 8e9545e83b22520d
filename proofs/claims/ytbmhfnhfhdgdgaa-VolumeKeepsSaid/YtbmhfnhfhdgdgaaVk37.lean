/- The contract of the law's own known(). No condition. The walk of the law VolumeKeeps. -/
import Derived.Test.YtbmhfnhfhdgdgaaVk36
import Derived.Test.YtbmhfnhfhdgdgaaVk22
import Derived.Test.YtbmhfnhfhdgdgaaVk10
import Derived.Test.YtbmhfnhfhdgdgaaVk8
import Derived.Test.YtbmhfnhfhdgdgaaVk7
import Derived.Test.YtbmhfnhfhdgdgaaVk34
import Derived.Test.YtbmhfnhfhdgdgaaVk29
import Derived.Test.YtbmhfnhfhdgdgaaVk5
namespace Go.Proofs.Ytbmhfnhfhdgdgaa
open Go.RowKit Go.Maps
theorem vput_as {w : World} {F : Nat → Prop} {v d b room : Nat} {s : ByteArray} {T : PlL} {L : DiskL} {R : (PlL × DiskL) × Nat} {c0 : Nat} (h : VolD w F v d b room s T L) (hs : s.size ≤ 1099511627776) (h8 : 8 ≤ szV s.data.toList L) (hl : T.length < 1099511627776)
    (k c : Nat) (dd : Bool) (A : Option Addr) (n cp : Nat) (data : List Nat) (hk : k < 18446744073709551616) (hc : c < 4294967296) (hA : IsB w (.slice A n cp) data) (hn : data.length = n) (hb : ∀ x ∈ data, x < 256) (hR : putV room s.data.toList k c dd data T L = R) (h0 : R.2 = c0) :
    Calls Try.prog 9 #[.pointer (some ⟨v, 0, none⟩), .agg #[.int .u64 (k : Int), .int .u32 (c : Int), .bool dd, .slice A n cp]] w fun e w' => e = .returned (.int .i64 (c0 : Int)) ∧ ∃ F', VolD w' F' v d b room s R.1.1 R.1.2 ∧ Turn (fun k => F k ∨ k = b) w w' ∧ ∀ k, F' k → F k ∨ w.heap.size ≤ k := by
  subst hR
  subst h0
  exact vput_any h hs h8 hl k c dd A n cp data hk hc hA hn hb
theorem vget_as {w : World} {F : Nat → Prop} {v d b room : Nat} {s : ByteArray} {T : PlL} {L : DiskL} {r : List Nat × Nat} (h : VolD w F v d b room s T L) (hs : s.size ≤ 1099511627776) (k c : Nat) (hk : k < 18446744073709551616) (hr : getV k c T (readL s.data.toList L).1 = r) :
    Calls Try.prog 12 #[.pointer (some ⟨v, 0, none⟩), .int .u64 (k : Int), .int .u32 (c : Int)] w fun e w' => GetAns w r e w' := by
  subst hr
  exact vget_any h hs k c hk
set_option maxRecDepth 100000 in
set_option maxHeartbeats 3200000 in
theorem known_any (w : World) : Calls Try.prog 14 #[] w fun e w' => e = .returned (.bool true) ∧ Below w.heap.size w w' := by
  have kc := fun (w : World) (C : Array Value) (n c : Nat) => const_bytes w C n c _ rfl
  have IC := hide (fun (w : World) (cs : Array Value) (fr : Nat × Nat) (hl : cs.toList = [97, 98].map fun x : Nat => Value.int .u8 (x : Int)) => isB_const w cs fr [97, 98] hl (by decide) _ 2 rfl rfl)
  have KC := hide (fun (w : World) (cs : Array Value) (fr : Nat × Nat) => below_alloc w (.cells cs 5 fr))
  go_enter Try.func14, Try.ntmps14
  go_wp2_with fail
  refine (new_any 1000 w (by decide)).mono ?_
  rintro e w1 ⟨d, F1, rfl, d1, f1, k1⟩
  have D1 := hide d1
  have FF1 := hide f1
  have K1 := hide k1
  clear d1 f1 k1
  go_wp2_with fail
  refine (create_ok F1 d 1000 [] 7 w1 D1.out (by decide) k_lay.1 k_lay.2.1).mono ?_
  rintro e w2 ⟨v, b, F2, rfl, v2, n2, hv, hb⟩
  have V2 := hide v2
  have FF2 := hide (n2.up K1.out.size FF1.out)
  have K2 := hide (K1.out.trans (n2.below K1.out.size FF1.out))
  have HB := hide (Nat.le_trans K1.out.size hb)
  clear v2 n2 hv hb D1 FF1 K1
  go_wp2_with fail
  refine (vput_as (R := kP1) (c0 := 0) (V2.out.below (KC.out w2 _ _)) (by rw [nameV_size]; decide) k_lay.2.2 (by decide) 1 5 false _ 2 2 [97, 98] (by decide) (by decide) (IC.out w2 _ _ rfl) rfl (by decide) rfl k_put1.1).mono ?_
  rintro e w3 ⟨rfl, F3, v3, t3, f3⟩
  have kk := KC.out w2 #[.int .u8 97, .int .u8 98] (2, 3)
  have ks := Nat.le_trans K2.out.size kk.size
  have V3 := hide v3
  have FF3 : Hid (∀ k, F3 k → w.heap.size ≤ k) := hide (fun k hk => (f3 k hk).elim (FF2.out k) (fun e => Nat.le_trans ks e))
  have K3 := hide ((K2.out.trans (kk.mono K2.out.size)).trans (t3.below ks (fun k e => e.elim (FF2.out k) (fun e => by rw [e]; exact HB.out))))
  clear v3 t3 f3 kk ks V2 FF2 K2 kc
  go_wp2_with fail
  refine (vget_as V3.out (by rw [nameV_size]; decide) 1 5 (by decide) k_put1.2.2.2).mono ?_
  rintro e w4 ⟨u4, rfl, o4, k4⟩
  have V4 := hide (V3.out.below k4)
  have K4 := hide (K3.out.trans (k4.mono K3.out.size))
  have O4 := hide o4
  have LW : Hid (∀ k, F3 k ∨ k = b → k < w3.heap.size) := hide (fun k e => e.elim (V3.out.disk.low k) (fun e => by rw [e]; exact V3.out.vol.low.2))
  clear V3 o4 k4 K3
  go_wp2_with fail
  refine (vput_as (R := kP2) (c0 := 0) V4.out (by rw [nameV_size]; decide) k_put1.2.2.1 (by rw [k_put1.2.1]; decide) 1 5 true _ 0 0 [] (by decide) (by decide) (isB_nilw _) rfl (by decide) rfl k_put2.1).mono ?_
  rintro e w5 ⟨rfl, F5, v5, t5, f5⟩
  have v5' : VolD w5 F5 v d b 1000 (nameV 7) [kQ] kP2.1.2 := k_put2.2.1 ▸ v5
  have V5 := hide v5'
  have FF5 : Hid (∀ k, F5 k → w.heap.size ≤ k) := hide (fun k hk => (f5 k hk).elim (FF3.out k) (fun e => Nat.le_trans K4.out.size e))
  have K5 := hide (K4.out.trans (t5.below K4.out.size (fun k e => e.elim (FF3.out k) (fun e => by rw [e]; exact HB.out))))
  have O5 := hide (O4.out.turn t5 (fun g hg e => by have h1 := (O4.out.lt g hg).1; have h2 := LW.out g e; omega))
  clear v5 v5' t5 f5 V4 FF3 K4 O4 LW
  go_wp2_with fail
  refine (vget_as V5.out (by rw [nameV_size]; decide) 1 5 (by decide) (k_put2.2.1 ▸ k_put2.2.2.1)).mono ?_
  rintro e w6 ⟨u6, rfl, o6, k6⟩
  have V6 := hide (V5.out.below k6)
  have K6 := hide (K5.out.trans (k6.mono K5.out.size))
  have O6 := hide (O5.out.turn (Turn.of_below (fun _ => False) k6) (fun _ _ => id))
  clear o6 k6 V5 K5 O5
  obtain ⟨A6, c6, rfl, i6, l6, m6⟩ := O6.out.isB.form (n := 2) rfl
  have kc := fun (w : World) (C : Array Value) (n c : Nat) => const_bytes w C n c _ rfl
  clear i6 l6 m6
  go_wp2_with fail
  refine (same_any A6 _ 2 2 c6 2 [97, 98] [97, 98] _ (O6.out.isB.keep (KC.out w6 _ _)).rd (IC.out w6 _ _ rfl).rd rfl rfl (by decide) (by decide)).mono ?_
  rintro e w7 ⟨rfl, d7, rfl⟩
  have V7 := hide ((V6.out.below (KC.out w6 #[.int .u8 97, .int .u8 98] (2, 3))).below (below_drewN (Below.refl _ _) d7))
  have K7 := hide (below_drewN (K6.out.trans ((KC.out w6 #[.int .u8 97, .int .u8 98] (2, 3)).mono K6.out.size)) d7)
  rw [decide_eq_true rfl]
  clear V6 K6 O6 kc
  go_wp2_with fail
  refine (dirt_one V7.out (by rw [nameV_size]; decide)).mono ?_
  rintro e w8 ⟨rfl, k8⟩
  have K8 := hide (K7.out.trans (k8.mono K7.out.size))
  have ed : dirt1 (szV (nameV 7).data.toList kP2.1.2) kQ = 32 := k_put2.2.2.2
  rw [ed]
  clear k8 V7 K7 ed
  go_wp2_with fail
  go_ret
  exact ⟨rfl, K8.out⟩
end Go.Proofs.Ytbmhfnhfhdgdgaa
namespace Go.Proofs.Ytbmhfnhfhdgdgaa
open Go.RowKit Go.Maps
/-- Numbers of 64 bits that are read. -/
structure IsU (w : World) (A : Option Addr) (n cap : Nat) (ks : List Nat) : Prop where
  len : ks.length = n
  big : ∀ x ∈ ks, x < 18446744073709551616
  most : n ≤ 9223372036854775807
  cell : ∀ i, i < n → ∃ b off, A = some ⟨b, off, none⟩ ∧ w.cell? ⟨b, off + i, none⟩ = some (.int .u64 (ks.getD i 0 : Int))
theorem k3 : getK (nameV 3).data.toList ([] : DiskL) = none ∧ layL 1048576 (nameV 3).data.toList (headV 3) [] = (diskV (nameV 3).data.toList 3 [], 0) ∧ 1 ≤ (nameV 3).data.toList.length ∧ (nameV 3).data.toList.length ≤ 64 := by decide +kernel
theorem vopen_as {F : Nat → Prop} {d room : Nat} {L : DiskL} {id : Nat} {w : World} {T : PlL} {L' : DiskL} {c : Nat} (hD : DiskAt w F d room L) (hid : id ≤ 99999999) (hR : openV (nameV id).data.toList id L = (some (T, L'), c)) :
    Calls Try.prog 11 #[.pointer (some ⟨d, 0, none⟩), .int .i64 (id : Int)] w fun e w' => ∃ v b F', e = .returned (.tuple #[.pointer (some ⟨v, 0, none⟩), .int .i64 0]) ∧ VolD w' F' v d b room (nameV id) T L' ∧ Next F w F' w' ∧ w.heap.size ≤ v ∧ w.heap.size ≤ b := by
  have h := vopen_any F d room L id w hD hid
  rw [hR] at h
  exact h
/-- An append of bytes at an operation that stands behind a guard and is wanted. -/
theorem step_append_w {w : World} {ops : Array Oper} {o : Oper} {a : Act} {K : Act → World → Prop} {Q : Exit → Act → World → Prop} {E : Prop} (hw : Region.wanted o (yielded ops a.tmps) = true) (s x : Operand)
    (ho : o.op = .call { callee := .builtin .append, args := #[s, x], argTypes := #[23, 23] })
    (B : Nat) (v : Value) (xs : List Nat) (hs : a.eval s = v) (hown : Own w B v xs)
    (u : Value) (ys : List Nat) (hx : a.eval x = u) (hr : IsB w u ys)
    (hlen : xs.length + ys.length ≤ 140737488355328) (hbase : B ≤ w.heap.size)
    (h : ∀ v' w', Own w' B v' (xs ++ ys) → Below B w w' → K (a.put o.dst v') w') : if Region.wanted o (yielded ops a.tmps) = true then Oper.wp Try.prog o a w K Q else E := by
  have h9 := step_append_bytes (ops := ops) (o := { o with guard := none }) (Q := Q) (E := True) rfl s x ho B v xs hs hown u ys hx hr hlen hbase h
  rw [if_pos (by simp [Region.wanted])] at h9
  rw [if_pos hw]
  exact h9
set_option maxRecDepth 100000 in
set_option maxHeartbeats 3200000 in
theorem volumeKeeps_core (KA DA : Option Addr) (n kc m dc : Nat) (ks data : List Nat) (z : Int) (w : World) (hK : IsU w KA n kc ks) (hD : IsB w (.slice DA m dc) data) (hm : data.length = m) (hb : ∀ x ∈ data, x < 256) (hn : n ≤ 60) (hl : m ≤ 200) :
    Calls Try.prog 3 #[.slice KA n kc, .slice DA m dc, .int .i64 z] w fun e w' => e = .returned (.bool true) ∧ Below w.heap.size w w' := by
  have HK := hide hK
  have HD := hide hD
  have HM := hide hm
  have HB := hide hb
  clear hK hD hm hb
  have f1 : ¬ (60 : Int) < (n : Int) := by omega
  have f2 : ¬ (200 : Int) < (m : Int) := by omega
  go_enter Try.func3, Try.ntmps3
  go_wp2_with fail
  refine (new_any 1048576 w (by decide)).mono ?_
  rintro e w1 ⟨d, F1, rfl, d1, g1, k1⟩
  have D1 := hide d1
  have FF1 := hide g1
  have K1 := hide k1
  clear d1 g1 k1
  go_wp2_with fail
  refine (create_ok F1 d 1048576 [] 3 w1 D1.out (by decide) k3.1 (congrArg Prod.snd k3.2.1)).mono ?_
  rintro e w2 ⟨v, b, F2, rfl, v2, n2, hv, hbb⟩
  rw [congrArg Prod.fst k3.2.1] at v2
  have V2 := hide v2
  have FF2 := hide (n2.up K1.out.size FF1.out)
  have K2 := hide (K1.out.trans (n2.below K1.out.size FF1.out))
  have HBB := hide (Nat.le_trans K1.out.size hbb)
  clear v2 n2 hv hbb D1 FF1 K1
  go_wp2_with fail
  go_loopw [9, 11] (fun vp i wr => ∃ (j v b : Nat) (F' : Nat → Prop), j ≤ n ∧ vp = .pointer (some ⟨v, 0, none⟩) ∧ i = .int .i64 (j : Int) ∧ Hid (VolD wr F' v d b 1048576 (nameV 3) (plsV 8 (keepR data ks j) []) (diskV (nameV 3).data.toList 3 (keepR data ks j))) ∧ Hid (∀ k, F' k → w.heap.size ≤ k) ∧ Hid (w.heap.size ≤ b) ∧ Hid (Below w.heap.size w wr)) (fun _ i _ => n - (intOf i).toNat)
  case atStart => exact ⟨0, v, b, F2, Nat.zero_le _, rfl, rfl, V2, FF2, HBB, K2⟩
  case round =>
    obtain ⟨j, v, b, F', hj, rfl, rfl, V, FF, HBV, KW⟩ := hrel
    clear V2 FF2 K2 HBB
    rcases Nat.lt_or_ge j n with hjn | hjn
    rotate_left
    · have fj : ¬ (j : Int) < (n : Int) := by omega
      go_wp2_with fail
      refine (known_any _).mono ?_
      rintro e w6 ⟨rfl, k6⟩
      have K6 := hide (KW.out.trans (k6.mono KW.out.size))
      clear k6
      go_wp2_with fail
      go_ret
      exact ⟨rfl, K6.out⟩
    · have fj : (j : Int) < (n : Int) := by omega
      go_wp2_with fail
      obtain ⟨kb, ko, rfl, ckj⟩ := HK.out.cell j hjn
      have HKB := hide (show kb < w.heap.size from cell_lt ckj)
      have ckj := (KW.out.cell (cell_lt ckj)).trans ckj
      obtain ⟨x, hx⟩ : ∃ x, x = ks.getD j 0 := ⟨_, rfl⟩
      rw [← hx] at ckj
      have HX := hide hx
      clear hx
      go_loopw [12, 13] (fun fi kk wr' => ∃ h dn : Nat, h ≤ j ∧ kk = .int .i64 (h : Int) ∧ fi = .bool (decide (x ∉ ks.take h)) ∧ wr' = wr.drewN dn) (fun _ kk _ => j - (intOf kk).toNat)
      case atStart => exact ⟨0, 0, Nat.zero_le _, rfl, by simp, rfl⟩
      case round =>
        obtain ⟨h, dn, hh, rfl, rfl, rfl⟩ := hrel
        rcases Nat.lt_or_ge h j with hhj | hhj
        rotate_left
        · have fh : ¬ (h : Int) < (j : Int) := by omega
          have eh : h = j := by omega
          subst eh
          go_wp2_with fail
          have e32 : IntKind.u32.wrap (h : Int) = (h : Int) := by rw [IntKind.wrap_u32]; omega
          have e8 : IntKind.u8.wrap (h : Int) = ((h % 256 : Nat) : Int) := by rw [IntKind.wrap_u8]; omega
          refine heldT_top (fun W' : World => W'.cell? ⟨kb, ko + h, none⟩ = some (.int .u64 (x : Int))) 15 #[false, false, false, false, false, false, false, false, false, false, false, false, false, false, false] (by kernel_rfl) (by kernel_rfl) (by kernel_rfl) ?_
          change wpAnyH _ _ _ _ _ _ _ _ (wr.drewN (dn + 1))
          have hHeld : (fun W' : World => W'.cell? ⟨kb, ko + h, none⟩ = some (.int .u64 (x : Int))) (wr.drewN (dn + 1)) := ckj
          have VU := hide (V.out.below (below_drewN (Below.refl _ _) (dn + 1)))
          have KU := hide (below_drewN KW.out (dn + 1))
          generalize wr.drewN (dn + 1) = U at *
          clear V KW
          refine' wpAnyH_take (i := 0) (oi := ⟨_, _, _, _, _, _⟩) (v := _) rfl (by kernel_rfl) (by kernel_rfl) (by kernel_rfl) (fun _ _ _ h => h) (Or.inl ⟨rfl, ?_⟩) hHeld ?_
          rotate_left
          · (intro W' hW; (try dsimp only at hW); go_simp; (try with_reducible rfl))
          try simp only [Act.put, List.setIfInBounds_toArray, List.set_cons_zero, List.set_cons_succ]
          refine' wpAnyH_take (i := 1) (oi := ⟨_, _, _, _, _, _⟩) (v := _) rfl (by kernel_rfl) (by kernel_rfl) (by kernel_rfl) (fun _ _ _ h => h) (Or.inl ⟨rfl, ?_⟩) hHeld ?_
          rotate_left
          · (intro W' hW; (try dsimp only at hW); go_simp; (try with_reducible rfl))
          try simp only [Act.put, List.setIfInBounds_toArray, List.set_cons_zero, List.set_cons_succ]
          refine' wpAnyH_take (i := 2) (oi := ⟨_, _, _, _, _, _⟩) (v := _) rfl (by kernel_rfl) (by kernel_rfl) (by kernel_rfl) (fun _ _ _ h => h) (Or.inl ⟨rfl, ?_⟩) hHeld ?_
          rotate_left
          · (intro W' hW; (try dsimp only at hW); go_simp; (try with_reducible rfl))
          try simp only [Act.put, List.setIfInBounds_toArray, List.set_cons_zero, List.set_cons_succ]
          refine' wpAnyH_take (i := 3) (oi := ⟨_, _, _, _, _, _⟩) (v := _) rfl (by kernel_rfl) (by kernel_rfl) (by kernel_rfl) (fun _ _ _ h => h) (Or.inl ⟨rfl, ?_⟩) hHeld ?_
          rotate_left
          · (intro W' hW; (try dsimp only at hW); go_simp; (try with_reducible rfl))
          try simp only [Act.put, List.setIfInBounds_toArray, List.set_cons_zero, List.set_cons_succ]
          refine' wpAnyH_take (i := 4) (oi := ⟨_, _, _, _, _, _⟩) (v := _) rfl (by kernel_rfl) (by kernel_rfl) (by kernel_rfl) (fun _ _ _ h => h) (Or.inl ⟨rfl, ?_⟩) hHeld ?_
          rotate_left
          · (intro W' hW; (try dsimp only at hW); go_simp; (try with_reducible rfl))
          try simp only [Act.put, List.setIfInBounds_toArray, List.set_cons_zero, List.set_cons_succ]
          refine' wpAnyH_take (i := 5) (oi := ⟨_, _, _, _, _, _⟩) (v := _) rfl (by kernel_rfl) (by kernel_rfl) (by kernel_rfl) (fun _ _ _ h => h) (Or.inl ⟨rfl, ?_⟩) hHeld ?_
          rotate_left
          · (intro W' hW; (try dsimp only at hW); go_simp; (try with_reducible rfl))
          try simp only [Act.put, List.setIfInBounds_toArray, List.set_cons_zero, List.set_cons_succ]
          refine' wpAnyH_take (i := 6) (oi := ⟨_, _, _, _, _, _⟩) (v := _) rfl (by kernel_rfl) (by kernel_rfl) (by kernel_rfl) (fun _ _ _ h => h) (Or.inl ⟨rfl, ?_⟩) hHeld ?_
          rotate_left
          · (intro W' hW; (try dsimp only at hW); go_simp; (try with_reducible rfl))
          try simp only [Act.put, List.setIfInBounds_toArray, List.set_cons_zero, List.set_cons_succ]
          refine' wpAnyH_take (i := 7) (oi := ⟨_, _, _, _, _, _⟩) (v := _) rfl (by kernel_rfl) (by kernel_rfl) (by kernel_rfl) (fun _ _ _ h => h) (Or.inl ⟨rfl, ?_⟩) hHeld ?_
          rotate_left
          · (intro W' hW; (try dsimp only at hW); go_simp; (try with_reducible rfl))
          try simp only [Act.put, List.setIfInBounds_toArray, List.set_cons_zero, List.set_cons_succ]
          refine' wpAnyH_take (i := 8) (oi := ⟨_, _, _, _, _, _⟩) (v := _) rfl (by kernel_rfl) (by kernel_rfl) (by kernel_rfl) (fun _ _ _ h => h) (Or.inl ⟨rfl, ?_⟩) hHeld ?_
          rotate_left
          · (intro W' hW; (try dsimp only at hW); go_simp; (try with_reducible rfl))
          try simp only [Act.put, List.setIfInBounds_toArray, List.set_cons_zero, List.set_cons_succ]
          refine' wpAnyH_take (i := 10) (oi := ⟨_, _, _, _, _, _⟩) (v := _) rfl (by kernel_rfl) (by kernel_rfl) (by kernel_rfl) (fun _ _ _ h => h) (Or.inl ⟨rfl, ?_⟩) hHeld ?_
          rotate_left
          · (intro W' hW; (try dsimp only at hW); go_simp; (try with_reducible rfl))
          try simp only [Act.put, List.setIfInBounds_toArray, List.set_cons_zero, List.set_cons_succ]
          have ckU : U.cell? ⟨kb, ko + h, none⟩ = some (.int .u64 (x : Int)) := hHeld
          clear hHeld
          refine heldT_one (i := 9) (by kernel_rfl) rfl (fun K' hK => ?_)
          go_simp
          have ka := below_alloc U (.cells #[.int .u8 ((h : Int) % 256)] 5)
          have o9 : Own (U.alloc (.cells #[.int .u8 ((h : Int) % 256)] 5)) U.heap.size (.slice (some ⟨U.heap.size, 0, none⟩) 1 1) [h % 256] := ⟨rfl, .inr ⟨U.heap.size, 1, _, rfl, Nat.le_refl _, World.alloc_heap_new U _, Nat.le_refl _, by decide, rfl, rfl⟩⟩
          have x9 := (ka.cell (cell_lt ckU)).trans ckU
          have I9 := hide ((HD.out.keep KU.out).keep ka)
          have S9 := hide ka.size
          have KA := hide ka
          obtain ⟨U9, hU9⟩ : ∃ U9, U9 = U.alloc (.cells #[.int .u8 ((h : Int) % 256)] 5) := ⟨_, rfl⟩
          rw [← hU9] at o9 x9 I9 S9 KA ⊢
          have O9 := hide o9
          clear ka o9 hU9
          refine hK.out _ _ x9 ?_
          clear hK
          try simp only [List.setIfInBounds_toArray, List.set_cons_zero, List.set_cons_succ]
          refine heldT_one (i := 11) (by kernel_rfl) rfl (fun K' hK => ?_)
          refine step_append_bytes rfl (.tmp 74) (.tmp 75) rfl U.heap.size _ _ rfl O9.out _ _ rfl I9.out (by rw [HM.out]; simp; omega) S9.out ?_
          intro v10 U10 o10 k10
          have kk := KA.out.trans k10
          have x10 := (kk.cell (cell_lt ckU)).trans ckU
          have hl10 : ([h % 256] ++ data).length = m + 1 := by simp [HM.out]
          obtain ⟨A10, c10, rfl, i10, l10, m10⟩ := o10.isB.form hl10
          have I10 := hide i10
          have V10 := hide (VU.out.below kk)
          have K10 := hide (KU.out.trans (kk.mono KU.out.size))
          have HL10 := hide hl10
          refine hK.out _ _ x10 ?_
          clear hK o10 k10 kk i10 l10 m10 hl10 VU KU I9 S9 KA O9 x9 ckU
          try simp only [Act.put, List.setIfInBounds_toArray, List.set_cons_zero, List.set_cons_succ]
          have hHeld : (fun W' : World => W'.cell? ⟨kb, ko + h, none⟩ = some (.int .u64 (x : Int))) U10 := x10
          refine' wpAnyH_take (i := 12) (oi := ⟨_, _, _, _, _, _⟩) (v := _) rfl (by kernel_rfl) (by kernel_rfl) (by kernel_rfl) (fun _ _ _ h => h) (Or.inl ⟨rfl, ?_⟩) hHeld ?_
          rotate_left
          · (intro W' hW; (try dsimp only at hW); go_simp; (try with_reducible rfl))
          try simp only [Act.put, List.setIfInBounds_toArray, List.set_cons_zero, List.set_cons_succ]
          clear hHeld
          have hks : h ≤ ks.length := by rw [HK.out.len]; omega
          have FR := hide (keepR_fresh (data := data) HK.out.big HB.out (by rw [HM.out]; exact hl) (by rw [HK.out.len]; exact hn) h hks)
          have hdb : ∀ y ∈ [h % 256] ++ data, y < 256 := by
            intro y hy
            rcases List.mem_append.1 hy with h1 | h1
            · rw [List.mem_singleton.1 h1]; exact Nat.mod_lt _ (by decide)
            · exact HB.out y h1
          have hxb : x < 18446744073709551616 := by
            rw [HX.out]
            have h9 : ks.getD h 0 = ks[h]'(by rw [HK.out.len]; omega) := by simp [show h < ks.length by rw [HK.out.len]; omega]
            rw [h9]
            exact HK.out.big _ (List.getElem_mem _)
          have hok : RecOk (keepN data x h) := ⟨hxb, by show h < 4294967296; omega, by show ((h % 256) :: data).length ≤ 65536; simp [HM.out]; omega, by simp [keepN], hdb⟩
          have OK := hide hok
          have h8 : 8 ≤ szV (nameV 3).data.toList (diskV (nameV 3).data.toList 3 (keepR data ks h)) := by rw [szV_one]; simp [fileV, headV_len]
          have hTl : (plsV 8 (keepR data ks h) []).length < 1099511627776 := by have h1 := plsV_len (keepR data ks h) 8 []; have h2 := keepR_len data ks h; simp only [List.length_nil] at h1; omega
          have PC := hide (And.intro hdb (And.intro hxb (And.intro h8 hTl)))
          clear hks hdb hxb hok h8 hTl
          refine heldT_one (i := 13) (by kernel_rfl) rfl (fun K' hK => ?_)
          go_simp
          go_at_call 9
          by_cases hm : x ∈ ks.take h
          · have em : decide (x ∈ ks.take h) = true := by simp [hm]
            obtain ⟨q, hq, eq⟩ := (keepR_keys data ks h (by rw [HK.out.len]; omega) x).2 hm
            have hP := putV_had 1048576 (nameV 3).data.toList 3 (keepR data ks h) (keepN data x h) q FR.out hq eq OK.out rfl
            have hR : keepR data ks (h + 1) = keepR data ks h := by
              show (if ks.getD h 0 ∈ ks.take h then _ else _) = _
              rw [← HX.out, if_pos hm]
            have HR := hide hR
            refine (vput_as (c0 := 8) V10.out (by rw [nameV_size]; decide) PC.out.2.2.1 PC.out.2.2.2 x h false A10 (m + 1) c10 ([h % 256] ++ data) PC.out.2.1 (by omega) I10.out HL10.out PC.out.1 hP rfl).mono ?_
            rintro e U11 ⟨rfl, F11, v11, t11, f11⟩
            have x11 := t11.cell x10 (by rintro (e | e); · have h1 := FF.out _ e; have h2 := HKB.out; simp only at h1; omega
                                         · have h1 := HBV.out; have h2 := HKB.out; simp only at e; omega)
            have V11 := hide v11
            have FF11 : Hid (∀ k, F11 k → w.heap.size ≤ k) := hide (fun k hk => (f11 k hk).elim (FF.out k) (fun e => Nat.le_trans K10.out.size e))
            have K11 := hide (K10.out.trans (t11.below K10.out.size (fun k e => e.elim (FF.out k) (fun e => by rw [e]; exact HBV.out))))
            refine hK.out _ _ x11 ?_
            clear hK v11 t11 f11 V10 K10 I10 FF hP hR hq eq hm FR OK PC HL10 x10
            try simp only [List.setIfInBounds_toArray, List.set_cons_zero, List.set_cons_succ]
            have hHeld : (fun W' : World => W'.cell? ⟨kb, ko + h, none⟩ = some (.int .u64 (x : Int))) U11 := x11
            refine' wpAnyH_take (i := 14) (oi := ⟨_, _, _, _, _, _⟩) (v := _) rfl (by kernel_rfl) (by kernel_rfl) (by kernel_rfl) (fun _ _ _ h => h) (Or.inl ⟨rfl, ?_⟩) hHeld ?_
            rotate_left
            · (intro W' hW; (try dsimp only at hW); go_simp; (try with_reducible rfl))
            try simp only [Act.put, List.setIfInBounds_toArray, List.set_cons_zero, List.set_cons_succ]
            refine wpAnyH_done (by kernel_rfl) ?_ _
            clear hHeld x11
            rw [em]
            go_wp2_with fail
            exact ⟨⟨h + 1, v, b, F11, by omega, rfl, rfl, by rw [HR.out]; exact V11, FF11, HBV, K11⟩, by simp [intOf]; omega⟩
          · have em : decide (x ∈ ks.take h) = false := by simp [hm]
            have hks : h ≤ ks.length := by rw [HK.out.len]; omega
            have hne : ∀ q ∈ keepR data ks h, q.1 ≠ x := fun q hq e => hm ((keepR_keys data ks h hks x).1 ⟨q, hq, e⟩)
            have hg : getP (keepN data x h).1 (plsV 8 (keepR data ks h) []) = none := (plsV_none x (keepR data ks h) 8 [] List.Pairwise.nil hne).trans rfl
            have hsz : (fileV 3 (keepR data ks h)).length ≤ 8 + 240 * h := by
              have h1 := keepR_size (data := data) (keys := ks) (by rw [HM.out]; exact hl) h
              simp only [fileV, List.length_append, headV_len]
              omega
            have hP := putV_one 1048576 (nameV 3).data.toList 3 (keepR data ks h) (keepN data x h) k3.2.2 FR.out.ok OK.out (by omega) (by omega) hg
            have hR : keepR data ks (h + 1) = keepR data ks h ++ [keepN data x h] := by
              show (if ks.getD h 0 ∈ ks.take h then _ else _) = _
              rw [← HX.out, if_neg hm]
            rw [← hR] at hP
            have HR := hide hR
            refine (vput_as (c0 := 0) V10.out (by rw [nameV_size]; decide) PC.out.2.2.1 PC.out.2.2.2 x h false A10 (m + 1) c10 ([h % 256] ++ data) PC.out.2.1 (by omega) I10.out HL10.out PC.out.1 hP rfl).mono ?_
            rintro e U11 ⟨rfl, F11, v11, t11, f11⟩
            have x11 := t11.cell x10 (by rintro (e | e); · have h1 := FF.out _ e; have h2 := HKB.out; simp only at h1; omega
                                         · have h1 := HBV.out; have h2 := HKB.out; simp only at e; omega)
            have V11 := hide v11
            have FF11 : Hid (∀ k, F11 k → w.heap.size ≤ k) := hide (fun k hk => (f11 k hk).elim (FF.out k) (fun e => Nat.le_trans K10.out.size e))
            have K11 := hide (K10.out.trans (t11.below K10.out.size (fun k e => e.elim (FF.out k) (fun e => by rw [e]; exact HBV.out))))
            have PX := hide PC.out.2.1
            refine hK.out _ _ x11 ?_
            clear hK v11 t11 f11 V10 K10 I10 FF hP hR hm OK PC HL10 x10 hks hne hg hsz
            try simp only [List.setIfInBounds_toArray, List.set_cons_zero, List.set_cons_succ]
            have hHeld : (fun W' : World => W'.cell? ⟨kb, ko + h, none⟩ = some (.int .u64 (x : Int))) U11 := x11
            refine' wpAnyH_take (i := 14) (oi := ⟨_, _, _, _, _, _⟩) (v := _) rfl (by kernel_rfl) (by kernel_rfl) (by kernel_rfl) (fun _ _ _ h => h) (Or.inl ⟨rfl, ?_⟩) hHeld ?_
            rotate_left
            · (intro W' hW; (try dsimp only at hW); go_simp; (try with_reducible rfl))
            try simp only [Act.put, List.setIfInBounds_toArray, List.set_cons_zero, List.set_cons_succ]
            refine wpAnyH_done (by kernel_rfl) ?_ _
            clear hHeld
            rw [em]
            go_wp2_with fail
            refine (crash_any F11 d 1048576 _ z U11 V11.out.disk).mono ?_
            rintro e U12 ⟨rfl, F12, d12, n12⟩
            rw [crash_one] at d12
            have x12 := n12.turn.cell x11 (by intro e; have h1 := FF11.out _ e; have h2 := HKB.out; simp only at h1; omega)
            have D12 := hide d12
            have FF12 := hide (n12.up K11.out.size FF11.out)
            have K12 := hide (K11.out.trans (n12.below K11.out.size FF11.out))
            clear d12 n12 V11 FF11 K11 x11
            go_wp2_with fail
            have hks1 : h + 1 ≤ ks.length := by rw [HK.out.len]; omega
            have FR1 := hide (keepR_fresh (data := data) HK.out.big HB.out (by rw [HM.out]; exact hl) (by rw [HK.out.len]; exact hn) (h + 1) hks1)
            refine (vopen_as D12.out (by decide) (openV_one (nameV 3).data.toList 3 (keepR data ks (h + 1)) FR1.out.ok)).mono ?_
            rintro e U13 ⟨v13, b13, F13, rfl, vv13, n13, hv13, hb13⟩
            have x13 := n13.turn.cell x12 (by intro e; have h1 := FF12.out _ e; have h2 := HKB.out; simp only at h1; omega)
            have V13 := hide vv13
            have FF13 := hide (n13.up K12.out.size FF12.out)
            have K13 := hide (K12.out.trans (n13.below K12.out.size FF12.out))
            have HB13 := hide (Nat.le_trans K12.out.size hb13)
            clear vv13 n13 hv13 hb13 D12 FF12 K12 x12 hks1
            go_wp2_with fail
            have fr : Fresh (keepR data ks h ++ keepN data x h :: []) := HR.out ▸ FR1.out
            have g1 : getV x h (plsV 8 (keepR data ks (h + 1)) []) (readL (nameV 3).data.toList (diskV (nameV 3).data.toList 3 (keepR data ks (h + 1)))).1 = ((h % 256) :: data, 0) := by
              rw [readL_one, HR.out]
              refine (getV_rec 3 (keepN data x h) (keepR data ks h) [] fr h).trans ?_
              simp [keepN]
            have g2 : getV x (h + 1) (plsV 8 (keepR data ks (h + 1)) []) (readL (nameV 3).data.toList (diskV (nameV 3).data.toList 3 (keepR data ks (h + 1)))).1 = ([], 10) := by
              rw [readL_one, HR.out]
              refine (getV_rec 3 (keepN data x h) (keepR data ks h) [] fr (h + 1)).trans ?_
              simp [keepN]
            have G2 := hide g2
            have hl14 : ((h % 256) :: data).length = m + 1 := by simp [HM.out]
            have HL14 := hide hl14
            refine (vget_as V13.out (by rw [nameV_size]; decide) x h PX.out g1).mono ?_
            rintro e U14 ⟨u14, rfl, o14, k14⟩
            obtain ⟨A14, c14, rfl, i14, l14, m14⟩ := o14.isB.form hl14
            have x14 := (k14.cell (cell_lt x13)).trans x13
            have V14 := hide (V13.out.below k14)
            have I14 := hide i14
            have K14 := hide (K13.out.trans (k14.mono K13.out.size))
            have e33 : IntKind.u32.wrap ((h : Int) + 1) = ((h + 1 : Nat) : Int) := by rw [IntKind.wrap_u32]; omega
            clear o14 k14 i14 l14 m14 V13 K13 x13 fr g1 g2 hl14 FR1
            dsimp only
            go_wp2_with fail
            refine (vget_as V14.out (by rw [nameV_size]; decide) x (h + 1) PX.out G2.out).mono ?_
            rintro e U15 ⟨u15', rfl, o15, k15⟩
            have x15 := (k15.cell (cell_lt x14)).trans x14
            have V15 := hide (V14.out.below k15)
            have I15 := hide (I14.out.keep k15)
            have K15 := hide (K14.out.trans (k15.mono K14.out.size))
            clear o15 k15 V14 I14 K14 x14 G2
            dsimp only
            go_wp2_with (at_builtin; refine halt ?_)
            refine ⟨?_⟩
            have ka := below_alloc U15 (.cells #[.int .u8 ((h : Int) % 256)] 5)
            have o16 : Own (U15.alloc (.cells #[.int .u8 ((h : Int) % 256)] 5)) U15.heap.size (.slice (some ⟨U15.heap.size, 0, none⟩) 1 1) [h % 256] := ⟨rfl, .inr ⟨U15.heap.size, 1, _, rfl, Nat.le_refl _, World.alloc_heap_new U15 _, Nat.le_refl _, by decide, rfl, rfl⟩⟩
            refine wpList_step fun K' hK => ?_
            refine step_append_w (by kernel_rfl) (.tmp 136) (.tmp 137) rfl U15.heap.size _ _ rfl o16 _ _ rfl ((HD.out.keep K15.out).keep ka) (by rw [HM.out]; simp; omega) ka.size ?_
            intro v17 U17 o17 k17
            have kk := ka.trans k17
            obtain ⟨A17, c17, rfl, i17, l17, m17⟩ := o17.isB.form (n := m + 1) (by simp [HM.out])
            have I17 := hide i17
            have I15 := hide (I15.out.keep kk)
            have V17 := hide (V15.out.below kk)
            have K17 := hide (K15.out.trans (kk.mono K15.out.size))
            refine hK _ _ ?_
            clear hK o17 k17 kk i17 l17 m17 ka o16 V15 K15 x15
            go_wp2_with fail
            refine (same_any A14 A17 (m + 1) (m + 1) c14 c17 ((h % 256) :: data) ((h % 256) :: data) _ I15.out.rd I17.out.rd HL14.out.symm HL14.out.symm (by omega) (by omega)).mono ?_
            rintro e w18 ⟨rfl, d18, rfl⟩
            rw [decide_eq_true rfl]
            go_wp2_with fail
            exact ⟨⟨h + 1, v13, b13, F13, by omega, rfl, rfl, hide (V17.out.below (below_drewN (Below.refl _ _) d18)), FF13, HB13, hide (below_drewN K17.out d18)⟩, by simp [intOf]; omega⟩
        · have fh : (h : Int) < (j : Int) := by omega
          obtain ⟨kb', ko', ek, ckh⟩ := HK.out.cell h (by omega)
          cases ek
          have ckh := (KW.out.cell (cell_lt ckh)).trans ckh
          have hxh : ks.take (h + 1) = ks.take h ++ [ks.getD h 0] := take_snoc (by rw [HK.out.len]; omega)
          obtain ⟨y, hy⟩ : ∃ y, y = ks.getD h 0 := ⟨_, rfl⟩
          rw [← hy] at ckh hxh
          have HXH := hide hxh
          clear hxh hy
          by_cases hm : x ∈ ks.take h
          · have em : decide (x ∉ ks.take h) = false := by simp [hm]
            have HMM := hide hm
            rw [em]
            clear em hm
            go_wp2_with fail
            go_quiet (fail)
            go_wp2_with fail
            refine ⟨⟨h + 1, dn + nq, by omega, rfl, ?_, rfl⟩, by simp [intOf]; omega⟩
            rw [HXH.out]
            simp [HMM.out]
          · have em : decide (x ∉ ks.take h) = true := by simp [hm]
            have HMM := hide hm
            rw [em]
            clear em hm
            by_cases hxy : y = x
            · have en : ((y : Int) != (x : Int)) = false := by simp [hxy]
              have HXY := hide hxy
              clear hxy
              go_wp2_with fail
              go_quiet (fail)
              go_wp2_with fail
              refine ⟨⟨h + 1, dn + nq, by omega, rfl, ?_, rfl⟩, by simp [intOf]; omega⟩
              rw [HXH.out]
              simp [HXY.out]
            · have en : ((y : Int) != (x : Int)) = true := by simp; omega
              have HXY := hide hxy
              clear hxy
              go_wp2_with fail
              go_quiet (fail)
              go_wp2_with fail
              refine ⟨⟨h + 1, dn + nq, by omega, rfl, ?_, rfl⟩, by simp [intOf]; omega⟩
              rw [HXH.out]
              simp [HMM.out, Ne.symm HXY.out]
set_option maxRecDepth 100000 in
theorem volumeKeeps_long (KA DA : Option Addr) (n kc m dc : Nat) (z : Int) (w : World) (h : 60 < n ∨ 200 < m) (hm : m ≤ 9223372036854775807) :
    Calls Try.prog 3 #[.slice KA n kc, .slice DA m dc, .int .i64 z] w fun e w' => e = .returned (.bool true) ∧ Below w.heap.size w w' := by
  by_cases f1 : (60 : Int) < (n : Int)
  · go_enter Try.func3, Try.ntmps3
    go_wp2_with fail
    go_ret
    exact ⟨rfl, Below.refl _ _⟩
  · have f2 : (200 : Int) < (m : Int) := by omega
    go_enter Try.func3, Try.ntmps3
    go_wp2_with fail
    go_ret
    exact ⟨rfl, Below.refl _ _⟩
theorem volumeKeeps_all (KA DA : Option Addr) (n kc m dc : Nat) (ks data : List Nat) (z : Int) (w : World) (hK : IsU w KA n kc ks) (hD : IsB w (.slice DA m dc) data) (hm : data.length = m) (hb : ∀ x ∈ data, x < 256) (hml : m ≤ 9223372036854775807) :
    Calls Try.prog 3 #[.slice KA n kc, .slice DA m dc, .int .i64 z] w fun e w' => e = .returned (.bool true) ∧ Below w.heap.size w w' := by
  by_cases h : n ≤ 60 ∧ m ≤ 200
  · exact volumeKeeps_core KA DA n kc m dc ks data z w hK hD hm hb h.1 h.2
  · exact volumeKeeps_long KA DA n kc m dc z w (by omega) hml
theorem IsRow.isU {w : World} {a : Option Addr} {len cap : Nat} {zs : List Int} (h : IsRow .u64 w a len cap zs) : ∃ ks, IsU w a len cap ks := by
  rcases h with ⟨rfl, rfl, rfl, rfl⟩ | ⟨x, rfl, h1, h2, h3, hc, hw⟩
  · exact ⟨[], rfl, (fun x hx => by cases hx), Nat.zero_le _, fun i hi => absurd hi (Nat.not_lt_zero i)⟩
  · have hb : ∀ z ∈ zs, 0 ≤ z ∧ z < 18446744073709551616 := fun z hz => by
      have h9 := hw z hz
      simp [Lit.wf, IntKind.min, IntKind.max, IntKind.signed, IntKind.bits] at h9
      omega
    refine ⟨(zs.take len).map Int.toNat, by simp; omega, ?_, by unfold maxLen at h2; omega, ?_⟩
    · intro y hy
      obtain ⟨z, hz, rfl⟩ := List.mem_map.1 hy
      have := hb z (List.mem_of_mem_take hz)
      omega
    · intro i hi
      have h9 := hc i (by omega)
      obtain ⟨xb, xo, xp⟩ := x
      have hs0 := hc 0 (by omega)
      have hsp : xp = none := by simpa [Addr.add] using World.cell?_spot hs0
      subst hsp
      rw [add_off] at h9
      refine ⟨xb, xo, rfl, ?_⟩
      have hlt : i < zs.length := by omega
      have hz0 : ((zs.getD i 0).toNat : Int) = zs.getD i 0 := by
        have h8 : zs.getD i 0 = zs[i] := by simp [hlt]
        rw [h8]
        have := hb zs[i] (List.getElem_mem _)
        omega
      have he : ((zs.take len).map Int.toNat).getD i 0 = (zs.getD i 0).toNat := by
        simp [hi, hlt]
      rw [he, hz0]
      exact h9
theorem volumeKeeps_walk (a0 : Option Addr) (len0 cap0 : Nat) (z0 : List Int) (a1 : Option Addr) (len1 cap1 : Nat) (z1 : List Int) (z : Int) (W : World) (w0 : IsRow .u64 W a0 len0 cap0 z0) (w1 : IsRow .u8 W a1 len1 cap1 z1) (_ : (Lit.int .i64 z).wf = true) :
    Calls Try.prog 3 #[.slice a0 len0 cap0, .slice a1 len1 cap1, .int .i64 z] W fun e w' => e = .returned (.bool true) ∧ Below W.heap.size W w' := by
  obtain ⟨ks, h0⟩ := w0.isU
  obtain ⟨xs, h1, h2, h3, h4⟩ := w1.isB
  exact volumeKeeps_all a0 a1 len0 cap0 len1 cap1 ks xs z W h0 h3 h1 h2 h4
end Go.Proofs.Ytbmhfnhfhdgdgaa
