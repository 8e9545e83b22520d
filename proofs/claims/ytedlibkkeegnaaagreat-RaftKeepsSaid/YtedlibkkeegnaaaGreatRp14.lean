/- The contract of the program's number. Condition: a prefix of at most 64 bytes. Rows that are laid one behind the other in a log of its own, as lists: never more -/
import Derived.Test.YtedlibkkeegnaaaGreatRp13
namespace Go.Proofs.YtedlibkkeegnaaaGreat
open Go.RowKit Go.Maps
variable {L : DiskL} {M : LogL} {room : Nat}
def numR (k s : Str) : Value := .tuple #[.int .i64 (((numL k s).getD 0 : Nat) : Int), .bool (numL k s).isSome]
theorem dot_list (k : ByteArray) : (k ++ ({ data := #[46] } : ByteArray)).data.toList = k.data.toList ++ [46] := by
 rw [ByteArray.data_append];simp
theorem dot_size (k : ByteArray) : (k ++ ({ data := #[46] } : ByteArray)).size = k.size + 1 := by
 rw [ByteArray.size_append]
 rfl
theorem conv_bytes (w : World) (u : ByteArray) : ∃ c W, (convert 9 32 (.string u)).run Tryz.prog w = .ok (.slice (some ⟨w.heap.size, 0, none⟩) u.size c) W /\ u.size <= c /\ Below w.heap.size w W /\ ∀ j, j < u.size -> W.cell? ⟨w.heap.size, j, none⟩ = some (.int .u8 (((u.data.toList.getD j 0).toNat : Nat) : Int)) := by
 refine ⟨_, _, run_bytes_of_string (P := Tryz.prog) w 9 32 5 u Tryz.underlying9 Tryz.underlying32 Tryz.underlying5, grownCap_ge _ _ _ _, ⟨rfl, rfl, rfl, by simp, fun k hk => heap_alloc_old w.drew _ hk⟩, fun j hj => ?_⟩;have hz : w.heap.size = w.drew.heap.size := rfl;rw [cell_of_row (w.drew.alloc _) w.heap.size j _ _ _ (by rw [hz]; exact heap_alloc_new w.drew _)];have hj2 : j < u.data.size := hj;unfold bytesRow;rw [Array.getElem?_append_left (by simpa using hj2)];simp only [Array.getElem?_map, Array.getElem?_eq_getElem hj2, Option.map_some];rw [List.getD_eq_getElem?_getD, List.getElem?_eq_getElem (by simpa using hj2)];simp
set_option maxRecDepth 100000 in
set_option maxHeartbeats 3200000 in
theorem pnumber_any (l : Nat) (k t : ByteArray) (w : World) (c1 : w.cell? ⟨l, 1, none⟩ = some (.string k)) (hk : k.size <= 64) :
  Calls Tryz.prog 87 #[.pointer (some ⟨l, 0, none⟩), .string t] w fun e w' => e = .returned (numR k.data.toList t.data.toList) /\ Below w.heap.size w w' := by
 have hll := cell_lt c1;obtain ⟨kd, hkd⟩ : ∃ kd : ByteArray, kd = k ++ ({ data := #[46] } : ByteArray) := ⟨_, rfl⟩;have hkl : kd.data.toList = k.data.toList ++ [46] := by rw [hkd]; exact dot_list k
 have hks : kd.size = k.size + 1 := by rw [hkd]; exact dot_size k
 have hk40 : k.size <= 1099511627776 := by omega
 have hk0 : k.data.toList.length = k.size := rfl;by_cases h : t.data.toList.take kd.size = kd.data.toList
 ·have HC := hide (fun W => cutpre_yes t kd W h);have HN := numL_yes (k := k.data.toList) (s := t.data.toList) (by rw [hk0, <- hks, <- hkl]; exact h);rw [hk0, <- hks] at HN;have HN := hide HN;clear h hkl hks hk0;go_enter Tryz.func87, Tryz.ntmps87;go_wp2_with fail
  rw [<- hkd];refine (HC.out _).mono ?_;rintro e w1 ⟨u, rfl, hu, k1⟩;obtain ⟨n, hn⟩ : ∃ n, u.size = n := ⟨_, rfl⟩;have hul : u.data.toList.length = n := hn;have K1 := hide k1;rw [<- hu] at HN;have HU := hide hu;by_cases h8 : n = 8
  ·have hz : ((n : Int) != 8) = false := by simp; omega
   have HV : Hid (numL k.data.toList t.data.toList = valD 0 u.data.toList) := hide (by rw [HN.out, if_neg (by rw [hul]; omega)]);have HUL := hide hul;clear hul hu k1 HN HC;obtain ⟨cu, w2, hcv, hcu, hk2, hcell⟩ := conv_bytes w1 u;rw [hn] at hcv hcu hcell;have hnc : (n : Int) <= (cu : Int) := by omega
   obtain ⟨g, hg⟩ : ∃ g, g = w1.heap.size := ⟨_, rfl⟩;rw [<- hg] at hcv hcell;have HCE := hide hcell;have KK2 := hide (below_step K1.out hk2);have HN8 := hide h8;clear hcell hk2 hg hcu;go_wp2_with fail
   go_loopw [8, 31] (fun nn ix wr => ∃ j v : Nat, j <= 8 /\ nn = .int .i64 (v : Int) /\ v < 10 ^ j /\ ix = .int .i64 (j : Int) /\ w2 = wr /\ Hid (numL k.data.toList t.data.toList = valD v (u.data.toList.drop j))) (fun _ ix _ => 8 - (intOf ix).toNat)
   case atStart => exact ⟨0, 0, Nat.zero_le _, rfl, by decide, rfl, rfl, by simpa [Hid] using HV.out⟩
   case round =>
    obtain ⟨j, v, hj, rfl, hvj, rfl, rfl, hV⟩ := hrel;have HVJ := hide hvj;by_cases hlt : j < 8
    ·have hln : (j : Int) < (n : Int) := by have := HN8.out; omega
     have hln2 : j < n := by have := HN8.out; omega
     obtain ⟨x, hx⟩ : ∃ x, x = (u.data.toList.getD j 0).toNat := ⟨_, rfl⟩;have q := HCE.out j hln2;rw [<- hx] at q;have hxs : x < 256 := by rw [hx]; exact UInt8.toNat_lt _
     have HDR : Hid (valD v (u.data.toList.drop j) = if x < 48 \/ 57 < x then none else valD (v * 10 + (x - 48)) (u.data.toList.drop (j + 1))) := hide (by
      rw [drop_byteP _ j (by rw [HUL.out]; exact hln2), valD_step];have e1 : (u.data.toList.getD j 0 < 48 \/ 57 < u.data.toList.getD j 0) ↔ (x < 48 \/ 57 < x) := by
       rw [UInt8.lt_iff_toNat_lt, UInt8.lt_iff_toNat_lt, <- hx];exact Iff.rfl
      simp only [e1, <- hx])
     clear hx hvj;by_cases hlo : x < 48
     ·have hlz : (x : Int) < 48 := by omega
      have HF : Hid (numL k.data.toList t.data.toList = none) := hide (by rw [hV.out, HDR.out, if_pos (.inl hlo)]);go_wp2_with fail
      refine bodyPost_ret (v := .tuple #[.int .i64 0, .bool false]) (by simp [results, Tryz.results87, go_sem]) rfl ?_;unfold numR;rw [HF.out];exact ⟨rfl, KK2.out⟩
     ·have hlz : 48 <= (x : Int) := by omega
      by_cases hhi : 57 < x
      ·have hhz : 57 < (x : Int) := by omega
       have HF : Hid (numL k.data.toList t.data.toList = none) := hide (by rw [hV.out, HDR.out, if_pos (.inr hhi)]);go_wp2_with fail
       refine bodyPost_ret (v := .tuple #[.int .i64 0, .bool false]) (by simp [results, Tryz.results87, go_sem]) rfl ?_;unfold numR;rw [HF.out];exact ⟨rfl, KK2.out⟩
      ·have hhz : (x : Int) <= 57 := by omega
       have HV2 : Hid (numL k.data.toList t.data.toList = valD (v * 10 + (x - 48)) (u.data.toList.drop (j + 1))) := hide (by rw [hV.out, HDR.out, if_neg (by omega)]);have hpw : 10 ^ (j + 1) = 10 * 10 ^ j := by rw [Nat.pow_succ, Nat.mul_comm]
       have hpl : 10 ^ (j + 1) <= 100000000 := Nat.pow_le_pow_right (n := 10) (by decide) (show j + 1 <= 8 by omega);have hnew : v * 10 + (x - 48) < 10 ^ (j + 1) := by have := HVJ.out; omega
       have HNEW := hide hnew;have hv1 : v < 100000000 := by have := HVJ.out; omega
       have hw0 : IntKind.u8.wrap ((x : Int) - 48) = (x : Int) - 48 := by rw [IntKind.wrap_u8]; omega
       have hw1 : IntKind.i64.wrap ((x : Int) - 48) = (x : Int) - 48 := by rw [IntKind.wrap_i64]; omega
       have hw2 : IntKind.i64.wrap (10 * (v : Int)) = 10 * (v : Int) := by rw [IntKind.wrap_i64]; omega
       have hw3 : IntKind.i64.wrap (10 * (v : Int) + ((x : Int) - 48)) = 10 * (v : Int) + ((x : Int) - 48) := by rw [IntKind.wrap_i64]; omega
       clear hpw hpl hnew hlo hhi;go_wp2_with fail
       go_roundw
       case rel => exact ⟨j + 1, v * 10 + (x - 48), by omega, by congr 1; omega, HNEW.out, by go_num, trivial, HV2.out⟩
       case measure => simp [intOf]; omega
    ·have hje : j = 8 := by omega
     have hln : (n : Int) <= (j : Int) := by have := HN8.out; omega
     have HF : Hid (numL k.data.toList t.data.toList = some v) := hide (by
      rw [hV.out, List.drop_of_length_le (by rw [HUL.out, HN8.out]; omega)]
      rfl)
     clear hvj;go_wp2_with fail
     refine bodyPost_ret (v := .tuple #[.int .i64 (v : Int), .bool true]) (by simp [results, Tryz.results87, go_sem]) rfl ?_;unfold numR;rw [HF.out];exact ⟨rfl, KK2.out⟩
  ·have hz : ((n : Int) != 8) = true := by simp; omega
   have HV : Hid (numL k.data.toList t.data.toList = none) := hide (by rw [HN.out, if_pos (by rw [hul]; exact h8)]);clear hul hu k1 HN HC;go_wp2_with fail
   refine bodyPost_ret (v := .tuple #[.int .i64 0, .bool false]) (by simp [results, Tryz.results87, go_sem]) rfl ?_;unfold numR;rw [HV.out];exact ⟨rfl, K1.out⟩
 ·have HC := hide (fun W => cutpre_no t kd W h);have HN := hide (numL_no (k := k.data.toList) (s := t.data.toList) (by rw [hk0, <- hks, <- hkl]; exact h));clear h hkl hks hk0;go_enter Tryz.func87, Tryz.ntmps87;go_wp2_with fail
  rw [<- hkd];refine (HC.out _).mono ?_;rintro e w1 ⟨rfl, k1⟩;have K1 := hide k1;clear k1 HC;go_wp2_with fail
  refine bodyPost_ret (v := .tuple #[.int .i64 0, .bool false]) (by simp [results, Tryz.results87, go_sem]) rfl ?_;unfold numR;rw [HN.out];exact ⟨rfl, K1.out⟩
def totR (xss : List (List Nat)) : Nat := (xss.map fun r => 10 + r.length).sum
theorem totR_len (xss : List (List Nat)) : 10 * xss.length <= totR xss := by
 unfold totR
 induction xss with
 | nil => exact Nat.le_refl _
 | cons x xs ih =>
  rw [List.map_cons, List.sum_cons, List.length_cons];omega
theorem totR_take (xss : List (List Nat)) (j : Nat) : totR (xss.take j) <= totR xss := by
 have e : totR xss = totR (xss.take j) + totR (xss.drop j) := by
  unfold totR;rw [<- List.sum_append, <- List.map_append, List.take_append_drop]
 omega
def Big (S : List Sg) : Prop := ∀ s ∈ S.dropLast, 1024 <= (recsL s.1 s.2).length
theorem big_few : ∀ (T : List Tl), Big (T.map segT) -> 1024 * T.length <= bytesT T + 1024 := by
 intro T h;rcases List.eq_nil_or_concat T with rfl | ⟨T0, t, rfl⟩
 ·simp [bytesT]
 ·rw [List.concat_eq_append] at *;have h2 : ∀ t ∈ T0, 1024 <= (recsL t.1 t.2.1).length := fun x hx => by
   refine h (segT x) ?_;rw [List.map_append]
   show segT x ∈ (T0.map segT ++ [segT t]).dropLast
   rw [List.dropLast_concat];exact List.mem_map.2 ⟨x, hx, rfl⟩
  have h3 : ∀ (T0 : List Tl), (∀ t ∈ T0, 1024 <= (recsL t.1 t.2.1).length) -> 1024 * T0.length <= bytesT T0 := by
   intro T0
   induction T0 with
   | nil => intro _; exact Nat.zero_le _
   | cons x r ih =>
    intro h;have h4 := h x List.mem_cons_self;have h5 := ih (fun y hy => h y (List.mem_cons_of_mem _ hy));unfold bytesT at h5 ⊢;rw [List.map_cons, List.sum_cons, List.length_cons];omega
  have h6 := h3 T0 h2;have h7 : bytesT (T0 ++ [t]) = bytesT T0 + (recsL t.1 t.2.1).length := by
   unfold bytesT;rw [List.map_append, List.sum_append];simp
  rw [h7, List.length_append, List.length_singleton];omega
theorem fit_size {k : Str} {T : List Tl} (h : FitL k T M L) (hn : M.next <= 100000000) : ∀ s ∈ M.segs, sizeL (nameL k s.1) L = (recsL s.1 s.2).length := fun s hs => by
 rw [h.segs] at hs;obtain ⟨t, ht, rfl⟩ := List.mem_map.1 hs;have hr := good_rises h.good (Nat.le_refl _) hn;obtain ⟨A, B, e⟩ := List.append_of_mem ht;rw [h.disk];unfold sizeL;rw [e, List.map_append, List.map_cons];rw [e, List.map_append, List.map_cons] at hr;have := getW_mid (k := k) (n := t.1) (a := (recsL t.1 t.2.1, t.2.2)) hr
 show ((getK (nameL k t.1) (filesL k (A.map fileT ++ (t.1, (recsL t.1 t.2.1, t.2.2)) :: B.map fileT))).map (·.1.length)).getD 0 = _
 rw [this]
 rfl
theorem big_add {k : Str} {T : List Tl} {p : List Nat} (h : FitL k T M L) (hn : M.next <= 100000000) (hb : Big M.segs) : Big (addL room k p M L).1.1.segs := by
 unfold addL;split
 ·exact hb
 ·split
  ·exact hb
  ·split
   ·exact hb
   ·show Big (laidL (if freshL k M L = true then M.segs ++ [(M.next, [])] else M.segs) p)
    by_cases hf : freshL k M L = true
    ·rw [if_pos hf];unfold laidL;rw [List.getLast?_concat];dsimp only;rw [List.dropLast_concat];intro s hs;rw [List.dropLast_concat] at hs;rcases List.eq_nil_or_concat M.segs with e | ⟨S0, t, e⟩
     ·rw [e] at hs;cases hs
     ·rw [List.concat_eq_append] at e;unfold Big at hb;rw [e, List.dropLast_concat] at hb;have hs' := hs;rw [e] at hs';rcases List.mem_append.1 hs' with hs' | hs'
      ·exact hb s hs'
      ·have est : s = t := by simpa using hs'
       subst est;unfold freshL at hf;rw [e, List.getLast?_concat] at hf;have := fit_size h hn s hs;dsimp only at hf;rw [this] at hf;simpa using hf
    ·rw [if_neg hf];unfold laidL;rcases List.eq_nil_or_concat M.segs with e | ⟨S0, t, e⟩
     ·rw [e];intro s hs;cases hs
     ·rw [List.concat_eq_append] at e;unfold Big at hb;rw [e, List.dropLast_concat] at hb;rw [e, List.getLast?_concat];dsimp only;rw [List.dropLast_concat];intro s hs;rw [List.dropLast_concat] at hs;exact hb s hs
structure LogI (k : Str) (es : List (List Nat)) (T : List Tl) (M : LogL) (L : DiskL) : Prop where
 fit : FitL k T M L
 flat : flatT T = es
 bytes : bytesT T <= totR es
 big : Big M.segs
theorem LogI.next {k : Str} {es : List (List Nat)} {T : List Tl} (h : LogI k es T M L) : M.next = es.length + 1 := by
 have h1 := chain_len h.fit.good.chain;have h2 : flatS (T.map segT) = flatT T := by
  unfold flatS flatT;rw [List.flatMap_map]
  rfl
 rw [h2, h.flat] at h1;omega
theorem LogI.few {k : Str} {es : List (List Nat)} {T : List Tl} (h : LogI k es T M L) (ht : totR es <= 20000) : T.length < 256 /\ es.length <= 2000 := by
 have h1 := big_few T (by rw [<- h.fit.segs]; exact h.big);have h2 := h.bytes;have h3 := totR_len es;omega
theorem LogI.start (k : Str) : LogI k [] [] ⟨[], 1, []⟩ [] := ⟨fit_empty k, rfl, Nat.le_refl _, fun s hs => (by cases hs)⟩
theorem logI_add {k : Str} {es : List (List Nat)} {T : List Tl} (h : LogI k es T M L) (hk : 1 <= k.length /\ k.length <= 55) (p : List Nat) (ht : totR (es ++ [p]) <= 20000) :
  ∃ T' M' L', addL 1048576 k p M L = ((M', L'), es.length + 1, 0) /\ LogI k (es ++ [p]) T' M' L' /\ ∀ c, c <= es.length -> Synced c T -> Synced c T' := by
 have e1 : totR (es ++ [p]) = totR es + (10 + p.length) := by
  unfold totR;rw [List.map_append, List.sum_append];simp
 have hte : totR es <= 20000 := by omega
 obtain ⟨hf, hl⟩ := h.few hte;have hn := h.next;have hu : (uvl M.next).length <= 2 := uvl_len 1 _ (by rw [hn]; omega);have hrl := rec_len M.next p;have hb := h.bytes;obtain ⟨T', M', L', a1, a2, a3, a4, _, _, a7⟩ := add_fit (room := 1048576) (p := p) h.fit hk (by omega) (by omega) (by omega) hf;refine ⟨T', M', L', by rw [a1, hn], ⟨a2, by rw [a3, h.flat], by rw [a4, e1]; omega, ?_⟩, fun c hc => a7 c (by rw [h.flat]; exact hc)⟩;have hbig := big_add (room := 1048576) (p := p) h.fit (by omega) h.big;rw [a1] at hbig;exact hbig
theorem logI_sync {k : Str} {es : List (List Nat)} {T : List Tl} (h : LogI k es T M L) (hn : M.next <= 100000000) : LogI k es (T.map fullT) ⟨M.segs, M.next, []⟩ (syncsL k M.dirty L) :=
 ⟨sync_fit h.fit hn, by rw [flat_full]; exact h.flat, by rw [bytes_full]; exact h.bytes, h.big⟩
section
variable {α : Type}
def Ahead (y : Str) (L : List (Str × α)) : Prop := ∀ p ∈ L, bytesBefore p.1 y = true
theorem get_beside {n y : Str} {a : α} {L : List (Str × α)} (h : n ≠ y) : getK n (L ++ [(y, a)]) = getK n L := by
 unfold getK;rw [List.find?_append];have e : List.find? (fun p : Str × α => p.1 == n) [(y, a)] = none := by
  simp only [List.find?_cons, List.find?_nil];have : (y == n) = false := by simp; exact fun e => h e.symm
  rw [this]
 rw [e];simp
theorem del_beside {n y : Str} {a : α} {L : List (Str × α)} (h : n ≠ y) : delK n (L ++ [(y, a)]) = delK n L ++ [(y, a)] := by
 unfold delK;rw [List.filter_append];have : (y == n) = false := by simp; exact fun e => h e.symm
 simp [this]
theorem ins_beside {x : Str × α} {y : Str} {a : α} (h : bytesBefore x.1 y = true) : ∀ L : List (Str × α), insK x (L ++ [(y, a)]) = insK x L ++ [(y, a)]
 | [] => by simp [insK, h]
 | z :: r => by
  show insK x (z :: (r ++ [(y, a)])) = _
  unfold insK;split
  ·rfl
  ·rw [ins_beside h r]; rfl
theorem put_beside {n y : Str} {a b : α} {L : List (Str × α)} (h : bytesBefore n y = true) : putK n b (L ++ [(y, a)]) = putK n b L ++ [(y, a)] := by
 unfold putK;rw [del_beside (before_ne h), ins_beside h]
theorem own_beside {y : Str} {a : α} {L : List (Str × α)} (h : Ahead y L) : getK y (L ++ [(y, a)]) = some a := by
 unfold getK;rw [List.find?_append];have e : List.find? (fun p : Str × α => p.1 == y) L = none := by
  rw [List.find?_eq_none];intro p hp;simp;exact before_ne (h p hp)
 rw [e];simp
end
variable {y : Str} {fl : List Nat × Nat}
theorem oldB_beside {n : Str} (h : n ≠ y) : oldB n (L ++ [(y, fl)]) = oldB n L := by unfold oldB; rw [get_beside h]
theorem oldN_beside {n : Str} (h : n ≠ y) : oldN n (L ++ [(y, fl)]) = oldN n L := by unfold oldN; rw [get_beside h]
theorem used_beside : usedL (L ++ [(y, fl)]) = usedL L + fl.1.length := by
 unfold usedL sumK;rw [List.map_append, List.sum_append];simp
theorem app_beside {n : Str} {p : List Nat} (h : bytesBefore n y = true) (hl : L.length < 255) (hu : usedL L + p.length + fl.1.length <= room) (hn : 1 <= n.length /\ n.length <= 64) :
  appL room n p (L ++ [(y, fl)]) = ((appL room n p L).1 ++ [(y, fl)], 0) /\ (appL room n p L).2 = 0 := by
 have hne := before_ne h;have e1 : appL room n p L = (putK n (oldB n L ++ p, oldN n L) L, 0) := by
  unfold appL;rw [if_neg (fun h => h hn), if_neg];rintro (⟨_, h⟩ | h) <;> omega
 have e2 : appL room n p (L ++ [(y, fl)]) = (putK n (oldB n L ++ p, oldN n L) (L ++ [(y, fl)]), 0) := by
  unfold appL;rw [if_neg (fun h => h hn), if_neg, oldB_beside hne, oldN_beside hne];rw [used_beside];rintro (⟨_, h⟩ | h)
  ·simp at h; omega
  ·omega
 rw [e2, e1, put_beside h];exact ⟨rfl, rfl⟩
theorem sync_beside {n : Str} (h : bytesBefore n y = true) : (syncL n (L ++ [(y, fl)])).1 = (syncL n L).1 ++ [(y, fl)] := by
 unfold syncL;rw [get_beside (before_ne h)];cases getK n L with
 | none => rfl
 | some a => exact put_beside h
theorem syncs_beside {k : Str} (h : ∀ n, bytesBefore (nameL k n) y = true) : ∀ (l : List Nat) (L : DiskL), syncsL k l (L ++ [(y, fl)]) = syncsL k l L ++ [(y, fl)]
 | [], _ => rfl
 | n :: l, L => by
  show syncsL k l (syncL (nameL k n) (L ++ [(y, fl)])).1 = syncsL k l (syncL (nameL k n) L).1 ++ [(y, fl)]
  rw [sync_beside (h n)];exact syncs_beside h l _
theorem read_beside {n : Str} (h : n ≠ y) : readL n (L ++ [(y, fl)]) = readL n L := by unfold readL; rw [get_beside h]
theorem rem_beside {n : Str} (h : n ≠ y) : (remL n (L ++ [(y, fl)])).1 = (remL n L).1 ++ [(y, fl)] := by
 unfold remL;rw [get_beside h];cases getK n L with
 | none => rfl
 | some a => exact del_beside h
theorem cut_beside {n : Str} {z : Int} (h : bytesBefore n y = true) : (cutL n z (L ++ [(y, fl)])).1 = (cutL n z L).1 ++ [(y, fl)] := by
 unfold cutL;rw [get_beside (before_ne h)];cases getK n L with
 | none => rfl
 | some a =>
  dsimp only;split
  ·rfl
  ·exact put_beside h
theorem step_beside {k n : Str} {b : Bool} {D : DiskL} (h : bytesBefore n y = true) :
  openStep k ⟨b, M, D ++ [(y, fl)]⟩ n = ⟨(openStep k ⟨b, M, D⟩ n).bad, (openStep k ⟨b, M, D⟩ n).log, (openStep k ⟨b, M, D⟩ n).disk ++ [(y, fl)]⟩ := by
 have hne := before_ne h;unfold openStep;cases numL k n with
 | none => rfl
 | some i =>
  dsimp only;rw [read_beside hne, rem_beside hne, cut_beside h];split
  ·rfl
  ·split
   ·rfl
   ·split
    ·rfl
    ·rfl
theorem steps_beside {k : Str} : ∀ (ns : List Str) (b : Bool) (M : LogL) (D : DiskL), (∀ n ∈ ns, bytesBefore n y = true) ->
  ns.foldl (openStep k) ⟨b, M, D ++ [(y, fl)]⟩ = ⟨(ns.foldl (openStep k) ⟨b, M, D⟩).bad, (ns.foldl (openStep k) ⟨b, M, D⟩).log, (ns.foldl (openStep k) ⟨b, M, D⟩).disk ++ [(y, fl)]⟩
 | [], _, _, _, _ => rfl
 | n :: ns, b, M, D, h => by
  rw [List.foldl_cons, List.foldl_cons, step_beside (h n (by simp))];exact steps_beside ns _ _ _ (fun m hm => h m (by simp [hm]))
theorem open_beside {k : Str} {D : DiskL} (h : Ahead y D) (hy : numL k y = none) :
  openR k (D ++ [(y, fl)]) = ⟨(openR k D).bad, (openR k D).log, (openR k D).disk ++ [(y, fl)]⟩ := by
 unfold openR;rw [List.map_append, List.foldl_append, steps_beside (D.map (·.1)) false ⟨[], 1, []⟩ D (fun n hn => by
  obtain ⟨p, hp, rfl⟩ := List.mem_map.1 hn;exact h p hp)]
 show openStep k _ y = _
 unfold openStep;rw [hy]
theorem crash_beside {z : Nat} {D : DiskL} {b : List Nat} : crashD z (D ++ [(y, (b, b.length))]) = crashD z D ++ [(y, (b, b.length))] := by
 unfold crashD;rw [List.mapIdx_append];simp [crash1, Nat.mod_one]
theorem size_beside {k : Str} (h : k ≠ y) : sizeL k (L ++ [(y, fl)]) = sizeL k L := by unfold sizeL; rw [get_beside h]
theorem fresh_beside {k : Str} (h : ∀ n, bytesBefore (nameL k n) y = true) : freshL k M (L ++ [(y, fl)]) = freshL k M L := by
 unfold freshL;cases M.segs.getLast? with
 | none => rfl
 | some s =>
  dsimp only;rw [size_beside (before_ne (h _))]
theorem where_beside {k : Str} (h : ∀ n, bytesBefore (nameL k n) y = true) : whereL k M (L ++ [(y, fl)]) = whereL k M L := by
 unfold whereL;rw [fresh_beside h]
theorem add_beside {k : Str} {p : List Nat} (h : ∀ n, bytesBefore (nameL k n) y = true) (hk : 1 <= k.length /\ k.length <= 55) (hp : p.length <= 1048566) (hn : M.next < 99999999) (hl : L.length < 255) (hu : usedL L + (recL M.next p).length + fl.1.length <= room) :
  addL room k p M (L ++ [(y, fl)]) = (((addL room k p M L).1.1, (addL room k p M L).1.2 ++ [(y, fl)]), (addL room k p M L).2) := by
 obtain ⟨e1, e2⟩ := app_beside (room := room) (n := nameL k (whereL k M L)) (p := recL M.next p) (fl := fl) (h _) hl hu (by rw [name_len]; omega);have a1 : addL room k p M (L ++ [(y, fl)]) = ((⟨laidL (if freshL k M L = true then M.segs ++ [(M.next, [])] else M.segs) p, M.next + 1, M.dirty ++ [whereL k M L]⟩, (appL room (nameL k (whereL k M L)) (recL M.next p) L).1 ++ [(y, fl)]), M.next, 0) := by
  unfold addL;rw [where_beside h, fresh_beside h, e1, if_neg (by omega), if_neg (by omega), if_neg (by simp)]
 have a2 : addL room k p M L = ((⟨laidL (if freshL k M L = true then M.segs ++ [(M.next, [])] else M.segs) p, M.next + 1, M.dirty ++ [whereL k M L]⟩, (appL room (nameL k (whereL k M L)) (recL M.next p) L).1), M.next, 0) := by
  unfold addL;rw [if_neg (by omega), if_neg (by omega), if_neg (by rw [e2]; simp)]
 rw [a1, a2]
end Go.Proofs.YtedlibkkeegnaaaGreat
