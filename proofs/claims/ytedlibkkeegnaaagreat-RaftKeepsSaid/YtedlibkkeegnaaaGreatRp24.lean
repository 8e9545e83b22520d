/- What a save and a load do to a disk, as lists. No condition but the widths. The four functions of keep.steps, each called. No condition but the widths. The cont -/
import Derived.Test.YtedlibkkeegnaaaGreatRp23
import Derived.Test.YtedlibkkeegnaaaGreatRp9
namespace Go.Proofs.YtedlibkkeegnaaaGreat
open Go.RowKit Go.Maps
variable {w : World} {F : Nat -> Prop} {L : DiskL} {s : ByteArray} {room d : Nat}
def tildeL (k : Str) : Str := k ++ [126]
theorem tilde_len (k : Str) : (tildeL k).length = k.length + 1 := by unfold tildeL; simp
theorem tilde_str (s : ByteArray) : (s ++ ⟨#[126]⟩ : ByteArray).data.toList = tildeL s.data.toList := by
 unfold tildeL;rw [ByteArray.data_append, Array.toList_append]
theorem tilde_size (s : ByteArray) : (s ++ ⟨#[126]⟩ : ByteArray).size = s.size + 1 := by
 rw [ByteArray.size_append]
 rfl
def draftL (room : Nat) (k : Str) (p : List Nat) (L : DiskL) : DiskL × Nat := appL room (tildeL k) (frameL p) (remL (tildeL k) L).1
def saveL (room : Nat) (k : Str) (p : List Nat) (L : DiskL) : DiskL × Nat :=
 if ¬ (1 <= k.length /\ k.length <= 63) then (L, 1)
 else if 1048576 < p.length then (L, 5)
 else if (draftL room k p L).2 ≠ 0 then ((remL (tildeL k) (draftL room k p L).1).1, (draftL room k p L).2)
 else ((renL (tildeL k) k (syncL (tildeL k) (draftL room k p L).1).1).1, 0)
def loadL (k : Str) (L : DiskL) : List Nat × Nat :=
 if (readL k L).2 ≠ 0 then ([], (readL k L).2)
 else if (decL (readL k L).1).2.2 ≠ 0 then ([], (decL (readL k L).1).2.2)
 else if (decL (readL k L).1).2.1 < (readL k L).1.length then ([], 3)
 else ((decL (readL k L).1).1, 0)
theorem saveL_bad {k : Str} {p : List Nat} (h : ¬ (1 <= k.length /\ k.length <= 63)) : saveL room k p L = (L, 1) := by unfold saveL; rw [if_pos h]
theorem saveL_long {k : Str} {p : List Nat} (h : 1 <= k.length /\ k.length <= 63) (hp : 1048576 < p.length) : saveL room k p L = (L, 5) := by unfold saveL; rw [if_neg (fun h' => h' h), if_pos hp]
theorem saveL_err {k : Str} {p : List Nat} (h : 1 <= k.length /\ k.length <= 63) (hp : p.length <= 1048576) (hd : (draftL room k p L).2 ≠ 0) : saveL room k p L = ((remL (tildeL k) (draftL room k p L).1).1, (draftL room k p L).2) := by unfold saveL; rw [if_neg (fun h' => h' h), if_neg (by omega), if_pos hd]
theorem saveL_ok {k : Str} {p : List Nat} (h : 1 <= k.length /\ k.length <= 63) (hp : p.length <= 1048576) (hd : (draftL room k p L).2 = 0) : saveL room k p L = ((renL (tildeL k) k (syncL (tildeL k) (draftL room k p L).1).1).1, 0) := by unfold saveL; rw [if_neg (fun h' => h' h), if_neg (by omega), if_neg (by simp [hd])]
theorem remL_one (k : Str) (L : DiskL) : (remL k L).1 = delK k L := by
 unfold remL;rcases h : getK k L with _ | a
 ·exact (delK_of_none h).symm
 ·rfl
theorem del_twice (k : Str) (L : DiskL) : delK k (delK k L) = delK k L := delK_of_none getK_del_same
theorem del_put (k : Str) (a : List Nat × Nat) (L : DiskL) : delK k (putK k a L) = delK k L := by
 have h : ∀ l : DiskL, delK k (insK (k, a) l) = delK k l := by
  intro l
  induction l with
  | nil => simp [insK, delK]
  | cons x xs ih =>
   unfold insK;split
   ·simp [delK]
   ·have e : ∀ l : DiskL, delK k (x :: l) = if x.1 == k then delK k l else x :: delK k l := by
     intro l;unfold delK;rw [List.filter_cons];by_cases hx : (x.1 == k) = true <;> simp [hx]
    rw [e, e, ih]
 unfold putK;rw [h, del_twice]
theorem appL_done {k : Str} {p : List Nat} (h : (appL room k p L).2 = 0) : (appL room k p L).1 = putK k (oldB k L ++ p, oldN k L) L := by
 unfold appL at h ⊢;split
 ·rename_i h1
  rw [if_pos h1] at h;exact absurd h (by simp)
 ·rename_i h1
  rw [if_neg h1] at h;split
  ·rename_i h2
   rw [if_pos h2] at h;exact absurd h (by simp)
  ·rfl
theorem draft_done {k : Str} {p : List Nat} (h : (draftL room k p L).2 = 0) : (draftL room k p L).1 = putK (tildeL k) (frameL p, 0) (delK (tildeL k) L) := by
 unfold draftL at h ⊢;rw [appL_done h, remL_one];unfold oldB oldN;rw [getK_del_same]
 rfl
theorem draft_get {k : Str} {p : List Nat} (hr : Rise L) (h : (draftL room k p L).2 = 0) : getK (tildeL k) (draftL room k p L).1 = some (frameL p, 0) := by
 rw [draft_done h];exact getK_put_same (delK_rise hr)
theorem sync_there {k : Str} {a : List Nat × Nat} (h : getK k L = some a) : syncL k L = (putK k (a.1, a.1.length) L, 0) := by unfold syncL; rw [h]
theorem ren_there {k t : Str} {a : List Nat × Nat} (ht : 1 <= t.length /\ t.length <= 64) (h : getK k L = some a) : renL k t L = (putK t a (delK k L), 0) := by unfold renL; rw [if_neg (fun h' => h' ht), h]
theorem keep_sync_zero {k : Str} {p : List Nat} (hr : Rise L) (h : (draftL room k p L).2 = 0) : syncL (tildeL k) (draftL room k p L).1 = (putK (tildeL k) (frameL p, (frameL p).length) (delK (tildeL k) L), 0) := by
 rw [sync_there (draft_get hr h), draft_done h, putK_put _ _ _ (delK_rise hr)]
theorem ren_zero {k : Str} {p : List Nat} (hr : Rise L) (hk : 1 <= k.length /\ k.length <= 64) (h : (draftL room k p L).2 = 0) : renL (tildeL k) k (syncL (tildeL k) (draftL room k p L).1).1 = (putK k (frameL p, (frameL p).length) (delK (tildeL k) L), 0) := by
 rw [keep_sync_zero hr h, ren_there hk (getK_put_same (delK_rise hr)), del_put, del_twice]
theorem saved {k : Str} {p : List Nat} (hr : Rise L) (hk : 1 <= k.length /\ k.length <= 63) (hp : p.length <= 1048576) (h : (draftL room k p L).2 = 0) : saveL room k p L = (putK k (frameL p, (frameL p).length) (delK (tildeL k) L), 0) := by
 rw [saveL_ok hk hp h, ren_zero hr ⟨hk.1, by omega⟩ h]
section
variable (F : Nat -> Prop) (d room : Nat) (L : DiskL) (t : ByteArray) (w : World) (hD : DiskAt w F d room L) (ht : t.size <= 1099511627776) (a b : Nat) (c0 : w.cell? ⟨a, 0, none⟩ = some (.pointer (some ⟨d, 0, none⟩))) (c1 : w.cell? ⟨b, 0, none⟩ = some (.string t))
include hD ht c0 c1
theorem step0_any : Calls Tryz.prog 116 #[.pointer (some ⟨a, 0, none⟩), .pointer (some ⟨b, 0, none⟩)] w fun e w' => e = .returned (.int .i64 0) /\ ∃ F', DiskAt w' F' d room (remL t.data.toList L).1 /\ Next F w F' w' := by
 have HD := hide hD;have HT := hide ht;clear hD ht;go_enter Tryz.func116, Tryz.ntmps116;go_wp2_with fail
 refine (remove_any F d room L t w HD.out HT.out).mono ?_;rintro e w1 ⟨rfl, h1⟩;have H1 := hide h1;clear h1;go_wp2_with fail
 go_ret;exact ⟨rfl, H1.out⟩
theorem step1_any (c : Nat) (P : Option Addr) (m cp : Nat) (p : List Nat) (c2 : w.cell? ⟨c, 0, none⟩ = some (.slice P m cp)) (hP : IsB w (.slice P m cp) p) (hm : p.length = m) (hb : ∀ x ∈ p, x < 256) (hmr : m <= 1099511627776) :
  Calls Tryz.prog 117 #[.pointer (some ⟨a, 0, none⟩), .pointer (some ⟨b, 0, none⟩), .pointer (some ⟨c, 0, none⟩)] w fun e w' => e = .returned (.int .i64 ((appL room t.data.toList p L).2 : Nat)) /\ ∃ F', DiskAt w' F' d room (appL room t.data.toList p L).1 /\ Next F w F' w' := by
 have HC := hide (append_any F d room L t P m cp p w hD ht hP hm hb hmr);clear hD ht hP hm hb hmr;go_enter Tryz.func117, Tryz.ntmps117;go_wp2_with fail
 refine HC.out.mono ?_;rintro e w1 ⟨rfl, h1⟩;have H1 := hide h1;clear h1;go_wp2_with fail
 go_ret;exact ⟨rfl, H1.out⟩
theorem step2_any : Calls Tryz.prog 119 #[.pointer (some ⟨a, 0, none⟩), .pointer (some ⟨b, 0, none⟩)] w fun e w' => e = .returned (.int .i64 ((syncL t.data.toList L).2 : Nat)) /\ ∃ F', DiskAt w' F' d room (syncL t.data.toList L).1 /\ Next F w F' w' := by
 have HC := hide (sync_any F d room L t w hD ht);clear hD ht;go_enter Tryz.func119, Tryz.ntmps119;go_wp2_with fail
 refine HC.out.mono ?_;rintro e w1 ⟨rfl, h1⟩;have H1 := hide h1;clear h1;go_wp2_with fail
 go_ret;exact ⟨rfl, H1.out⟩
theorem step3_any (c : Nat) (s : ByteArray) (hs : s.size <= 1099511627776) (c2 : w.cell? ⟨c, 0, none⟩ = some (.string s)) : Calls Tryz.prog 120 #[.pointer (some ⟨a, 0, none⟩), .pointer (some ⟨b, 0, none⟩), .pointer (some ⟨c, 0, none⟩)] w fun e w' => e = .returned (.int .i64 ((renL t.data.toList s.data.toList L).2 : Nat)) /\ ∃ F', DiskAt w' F' d room (renL t.data.toList s.data.toList L).1 /\ Next F w F' w' := by
 have HC := hide (rename_any F d room L t w hD ht s hs);clear hD ht hs;go_enter Tryz.func120, Tryz.ntmps120;go_wp2_with fail
 refine HC.out.mono ?_;rintro e w1 ⟨rfl, h1⟩;have H1 := hide h1;clear h1;go_wp2_with fail
 go_ret;exact ⟨rfl, H1.out⟩
end
def stL (room : Nat) (k : Str) (p : List Nat) (L : DiskL) : Nat -> DiskL
 | 0 => L
 | 1 => (remL (tildeL k) L).1
 | 2 => (draftL room k p L).1
 | 3 => (syncL (tildeL k) (draftL room k p L).1).1
 | _ => (renL (tildeL k) k (syncL (tildeL k) (draftL room k p L).1).1).1
theorem str_empty (h : s.size = 0) : s = ⟨#[]⟩ := by
 obtain ⟨⟨l⟩⟩ := s;have : l = [] := List.length_eq_zero_iff.1 h;rw [this]
theorem str_some (h : 1 <= s.size) : s.toList.isEmpty = false := by
 rw [ByteArray.toList_eq];rcases e : s.data.toList with _ | ⟨x, xs⟩
 ·have h2 : s.data.toList.length = s.size := rfl;rw [e] at h2;simp at h2;omega
 ·rfl
theorem save_bad (d : Nat) (s : ByteArray) (v : Value) (w : World) (hs : ¬ (1 <= s.size /\ s.size <= 63)) (hb : s.size <= 1099511627776) :
  Calls Tryz.prog 73 #[.pointer (some ⟨d, 0, none⟩), .string s, v] w fun e w' => e = .returned (.int .i64 1) /\ w = w' := by
 by_cases h0 : s.size = 0
 ·obtain rfl := str_empty h0;go_enter Tryz.func73, Tryz.ntmps73;go_wp2_with fail
  go_ret;exact ⟨rfl, rfl⟩
 ·have h1 : 63 < s.size := by omega
  have he := str_some (s := s) (by omega);clear hs h0;go_enter Tryz.func73, Tryz.ntmps73;go_wp2_with fail
  go_ret;exact ⟨rfl, rfl⟩
theorem save_long (d : Nat) (s : ByteArray) (P : Option Addr) (m cp : Nat) (w : World) (hs : 1 <= s.size /\ s.size <= 63) (hm : 1048576 < m) (hl : m <= 1099511627776) :
  Calls Tryz.prog 73 #[.pointer (some ⟨d, 0, none⟩), .string s, .slice P m cp] w fun e w' => e = .returned (.int .i64 5) /\ w = w' := by
 obtain ⟨h1, h2⟩ := hs;have he := str_some h1;go_enter Tryz.func73, Tryz.ntmps73;go_wp2_with fail
 refine (encode_long P m cp w hm (by omega)).mono ?_;rintro e w1 ⟨rfl, rfl⟩;go_wp2_with fail
 go_ret;exact ⟨rfl, rfl⟩
set_option maxRecDepth 100000 in
set_option maxHeartbeats 3200000 in
theorem save_core (F : Nat -> Prop) (d room : Nat) (L : DiskL) (s : ByteArray) (P : Option Addr) (m cp : Nat) (p : List Nat) (w : World) (hD : DiskAt w F d room L) (hs : 1 <= s.size /\ s.size <= 63) (hP : IsB w (.slice P m cp) p) (hm : p.length = m) (hb : ∀ x ∈ p, x < 256) (hmr : m <= 1048576) :
  Calls Tryz.prog 73 #[.pointer (some ⟨d, 0, none⟩), .string s, .slice P m cp] w fun e w' => e = .returned (.int .i64 ((saveL room s.data.toList p L).2 : Nat)) /\ ∃ F', DiskAt w' F' d room (saveL room s.data.toList p L).1 /\ Next F w F' w' := by
 obtain ⟨h1, h2⟩ := hs;have he := str_some h1;have HD := hide hD;have HP := hide hP;have HM := hide hm;have HB := hide hb;have HK : Hid (1 <= s.data.toList.length /\ s.data.toList.length <= 63) := hide ⟨h1, h2⟩;have hRise := hide (hD.facts).1;clear hD hP hm hb;go_enter Tryz.func73, Tryz.ntmps73;go_wp2_with fail
 refine (encode_any P m cp p w HP.out HM.out HB.out hmr).mono ?_;rintro e w1 ⟨r, rfl, o1, k1⟩;obtain ⟨A, c, rfl, i1, l1, m1⟩ := o1.isB.form (n := 8 + m) (by rw [frame_len, HM.out]);have I1 := hide i1;have K1 := hide k1;have OF1 := hide (off_new o1 HD.out.low);clear o1 i1 k1 he;go_wp2_with fail
 refine (steps_any d s A (8 + m) c w1 (by omega)).mono ?_;rintro e w2 ⟨g, a, b, cc, ee, rfl, hBx, hFn, hlow, k2⟩;obtain ⟨t, ht⟩ : ∃ t, t = s ++ ⟨#[126]⟩ := ⟨_, rfl⟩;have ts : t.size = s.size + 1 := by rw [ht]; exact tilde_size s
 have tl : t.data.toList = tildeL s.data.toList := by rw [ht]; exact tilde_str s
 rw [<- ht] at hBx;have I2 := hide (I1.out.keep k2);have D2 := hide ((HD.out.below K1.out).below k2);have K2 := hide (below_step K1.out k2);have FO : ∀ k, w1.heap.size <= k -> ¬ F k := fun k hk hf => by have := HD.out.low k hf; have := K1.out.size; omega
 obtain ⟨ua, ub, uc, ue, ug⟩ := hlow;have na := hide (FO a ua);have nb := hide (FO b ub);have nc := hide (FO cc uc);have ne := hide (FO ee ue);have ng := hide (FO g ug);have HBX := hide hBx;have HFN := hide hFn;have TL := hide tl;have HT := hide ht;have OI : Hid (∀ (Z : World) (G : Nat -> Prop), Next F w2 G Z -> IsB Z (.slice A (8 + m) c) (frameL p)) := hide (fun Z G n => I2.out.turn n.turn OF1.out);have LF : Hid ((frameL p).length = 8 + m /\ ∀ x ∈ frameL p, x < 256) := hide ⟨by rw [frame_len, HM.out], frameL_byte HB.out⟩;clear k2 ua ub uc ue ug FO hBx hFn ht tl;go_wp2_with fail
 go_loopw [36] (fun i wr => ∃ (j : Nat) (G : Nat -> Prop), j <= 4 /\ i = .int .i64 (j : Int) /\ (2 <= j -> (draftL room s.data.toList p L).2 = 0) /\ Hid (DiskAt wr G d room (stL room s.data.toList p L j)) /\ Hid (Next F w2 G wr)) (fun i _ => 4 - (intOf i).toNat)
 case atStart => exact ⟨0, F, by omega, rfl, fun h => by omega, D2.out, Next.refl _ _⟩
 case round =>
  obtain ⟨j, G, hj, rfl, hok, hDG, hN⟩ := hrel;have hj' : j = 0 \/ j = 1 \/ j = 2 \/ j = 3 \/ j = 4 := by omega
  rcases hj' with rfl | rfl | rfl | rfl | rfl
  ·have e0 := (hN.out.far (cell_lt HBX.out.disk) na.out).trans HBX.out.disk;have e1 := (hN.out.far (cell_lt HBX.out.draft) nb.out).trans HBX.out.draft;have f0 := (hN.out.far (cell_lt HFN.out.f0) ng.out).trans HFN.out.f0;have hc := step0_any G d room _ t wr hDG.out (by omega) a b e0 e1;rw [TL.out] at hc;have HC := hide hc;clear e0 e1 hc;go_wp2_with fail
   refine HC.out.mono ?_;rintro e w3 ⟨rfl, F3, d3, n3⟩;have D3 := hide d3;have N3 := hide (hN.out.trans n3);clear d3 n3 f0;go_wp2_with fail
   go_roundw
   case rel => exact ⟨1, F3, by omega, by go_num, fun h => by omega, D3.out, N3.out⟩
   case measure => simp [intOf]
  ·have e0 := (hN.out.far (cell_lt HBX.out.disk) na.out).trans HBX.out.disk;have e1 := (hN.out.far (cell_lt HBX.out.draft) nb.out).trans HBX.out.draft;have e2 := (hN.out.far (cell_lt HBX.out.record) nc.out).trans HBX.out.record;have f0 := (hN.out.far (cell_lt HFN.out.f1) ng.out).trans HFN.out.f1;have hc := step1_any G d room _ t wr hDG.out (by omega) a b e0 e1 cc A (8 + m) c (frameL p) e2 (OI.out wr G hN.out) LF.out.1 LF.out.2 (by omega);rw [TL.out] at hc;have HC := hide hc;clear e0 e1 e2 hc;have hc2 : Calls Tryz.prog 117 #[.pointer (some ⟨a, 0, none⟩), .pointer (some ⟨b, 0, none⟩), .pointer (some ⟨cc, 0, none⟩)] wr fun e w' => e = .returned (.int .i64 ((draftL room s.data.toList p L).2 : Nat)) /\ ∃ F', DiskAt w' F' d room (draftL room s.data.toList p L).1 /\ Next G wr F' w' := HC.out
   have H2 := hide hc2;clear hc2 HC;by_cases h0 : (draftL room s.data.toList p L).2 = 0
   ·rw [h0] at H2;have H0 := hide h0;clear h0;go_wp2_with fail
    refine H2.out.mono ?_;rintro e w3 ⟨rfl, F3, d3, n3⟩;have D3 := hide d3;have N3 := hide (hN.out.trans n3);clear d3 n3 f0;go_wp2_with fail
    go_roundw
    case rel => exact ⟨2, F3, by omega, by go_num, fun _ => H0.out, D3.out, N3.out⟩
    case measure => simp [intOf]
   ·have HE := hide (saveL_err (room := room) (L := L) HK.out (by rw [HM.out]; exact hmr) h0);obtain ⟨q, hq⟩ : ∃ q, q = (draftL room s.data.toList p L).2 := ⟨_, rfl⟩;rw [<- hq] at h0 H2 HE;have hq0 : ((q : Int) == 0) = false := by simp; omega
    clear hq h0;go_wp2_with fail
    refine H2.out.mono ?_;rintro e w3 ⟨rfl, F3, d3, n3⟩;have D3 := hide d3;have N3 := hide (hN.out.trans n3);clear d3 n3 f0;go_wp2_with fail
    rw [<- HT.out];refine (remove_any F3 d room _ t w3 D3.out (by omega)).mono ?_;rintro e w4 ⟨rfl, F4, d4, n4⟩;rw [TL.out] at d4;have D4 := hide d4;have N4 := hide (N3.out.trans n4);clear d4 n4;go_wp2_with fail
    go_ret;rw [HE.out];exact ⟨rfl, F4, D4.out, (Next.of_below F K2.out).trans N4.out⟩
  ·have e0 := (hN.out.far (cell_lt HBX.out.disk) na.out).trans HBX.out.disk;have e1 := (hN.out.far (cell_lt HBX.out.draft) nb.out).trans HBX.out.draft;have f0 := (hN.out.far (cell_lt HFN.out.f2) ng.out).trans HFN.out.f2;have hc := step2_any G d room _ t wr hDG.out (by omega) a b e0 e1;rw [TL.out] at hc;have HC := hide hc;clear e0 e1 hc;have hc2 : Calls Tryz.prog 119 #[.pointer (some ⟨a, 0, none⟩), .pointer (some ⟨b, 0, none⟩)] wr fun e w' => e = .returned (.int .i64 ((syncL (tildeL s.data.toList) (draftL room s.data.toList p L).1).2 : Nat)) /\ ∃ F', DiskAt w' F' d room (syncL (tildeL s.data.toList) (draftL room s.data.toList p L).1).1 /\ Next G wr F' w' := HC.out
   have HO := hide (hok (by omega));rw [show (syncL (tildeL s.data.toList) (draftL room s.data.toList p L).1).2 = 0 by rw [keep_sync_zero hRise.out HO.out]] at hc2;have HC := hide hc2;clear hc2;go_wp2_with fail
   refine HC.out.mono ?_;rintro e w3 ⟨rfl, F3, d3, n3⟩;have D3 := hide d3;have N3 := hide (hN.out.trans n3);clear d3 n3 f0;go_wp2_with fail
   go_roundw
   case rel => exact ⟨3, F3, by omega, by go_num, fun _ => HO.out, D3.out, N3.out⟩
   case measure => simp [intOf]
  ·have e0 := (hN.out.far (cell_lt HBX.out.disk) na.out).trans HBX.out.disk;have e1 := (hN.out.far (cell_lt HBX.out.draft) nb.out).trans HBX.out.draft;have e2 := (hN.out.far (cell_lt HBX.out.name) ne.out).trans HBX.out.name;have f0 := (hN.out.far (cell_lt HFN.out.f3) ng.out).trans HFN.out.f3;have hc := step3_any G d room _ t wr hDG.out (by omega) a b e0 e1 ee s (by omega) e2;rw [TL.out] at hc;have HC := hide hc;clear e0 e1 e2 hc;have hc2 : Calls Tryz.prog 120 #[.pointer (some ⟨a, 0, none⟩), .pointer (some ⟨b, 0, none⟩), .pointer (some ⟨ee, 0, none⟩)] wr fun e w' => e = .returned (.int .i64 ((renL (tildeL s.data.toList) s.data.toList (syncL (tildeL s.data.toList) (draftL room s.data.toList p L).1).1).2 : Nat)) /\ ∃ F', DiskAt w' F' d room (renL (tildeL s.data.toList) s.data.toList (syncL (tildeL s.data.toList) (draftL room s.data.toList p L).1).1).1 /\ Next G wr F' w' := HC.out
   have HO := hide (hok (by omega));rw [show (renL (tildeL s.data.toList) s.data.toList (syncL (tildeL s.data.toList) (draftL room s.data.toList p L).1).1).2 = 0 by rw [ren_zero hRise.out ⟨HK.out.1, Nat.le_trans HK.out.2 (by decide)⟩ HO.out]] at hc2;have HC := hide hc2;clear hc2;go_wp2_with fail
   refine HC.out.mono ?_;rintro e w3 ⟨rfl, F3, d3, n3⟩;have D3 := hide d3;have N3 := hide (hN.out.trans n3);clear d3 n3 f0;go_wp2_with fail
   go_roundw
   case rel => exact ⟨4, F3, by omega, by go_num, fun _ => HO.out, D3.out, N3.out⟩
   case measure => simp [intOf]
  ·go_wp2_with fail
   go_ret;rw [saveL_ok HK.out (by rw [HM.out]; exact hmr) (hok (by omega))];exact ⟨rfl, G, hDG.out, (Next.of_below F K2.out).trans hN.out⟩
theorem save_any (F : Nat -> Prop) (d room : Nat) (L : DiskL) (s : ByteArray) (P : Option Addr) (m cp : Nat) (p : List Nat) (w : World) (hD : DiskAt w F d room L) (hs : s.size <= 1099511627776) (hP : IsB w (.slice P m cp) p) (hm : p.length = m) (hb : ∀ x ∈ p, x < 256) (hmr : m <= 1099511627776) :
  Calls Tryz.prog 73 #[.pointer (some ⟨d, 0, none⟩), .string s, .slice P m cp] w fun e w' => e = .returned (.int .i64 ((saveL room s.data.toList p L).2 : Nat)) /\ ∃ F', DiskAt w' F' d room (saveL room s.data.toList p L).1 /\ Next F w F' w' := by
 by_cases h1 : 1 <= s.size /\ s.size <= 63
 ·by_cases h2 : m <= 1048576
  ·exact save_core F d room L s P m cp p w hD h1 hP hm hb h2
  ·rw [saveL_long (k := s.data.toList) h1 (by rw [hm]; omega)];refine (save_long d s P m cp w h1 (by omega) hmr).mono ?_;rintro e w' ⟨rfl, rfl⟩;exact ⟨rfl, F, hD, Next.refl _ _⟩
 ·rw [saveL_bad (k := s.data.toList) h1];refine (save_bad d s _ w h1 hs).mono ?_;rintro e w' ⟨rfl, rfl⟩;exact ⟨rfl, F, hD, Next.refl _ _⟩
theorem loadL_none {k : Str} (h : getK k L = none) : loadL k L = ([], 7) := by unfold loadL readL; rw [h]; rfl
theorem readL_some {k : Str} {a : List Nat × Nat} (h : getK k L = some a) : readL k L = (a.1, 0) := by unfold readL; rw [h]
theorem loadL_err {k : Str} {a : List Nat × Nat} (h : getK k L = some a) (he : (decL a.1).2.2 ≠ 0) : loadL k L = ([], (decL a.1).2.2) := by unfold loadL; rw [readL_some h, if_neg (by simp), if_pos he]
theorem loadL_form {k : Str} {a : List Nat × Nat} (h : getK k L = some a) (he : (decL a.1).2.2 = 0) (hn : (decL a.1).2.1 < a.1.length) : loadL k L = ([], 3) := by unfold loadL; rw [readL_some h, if_neg (by simp), if_neg (by simp [he]), if_pos hn]
theorem loadL_ok {k : Str} {a : List Nat × Nat} (h : getK k L = some a) (he : (decL a.1).2.2 = 0) (hn : ¬ (decL a.1).2.1 < a.1.length) : loadL k L = ((decL a.1).1, 0) := by unfold loadL; rw [readL_some h, if_neg (by simp), if_neg (by simp [he]), if_neg hn]
theorem file_byte (h : DiskAt w F d room L) {k : Str} {a : List Nat × Nat} (hg : getK k L = some a) : (∀ x ∈ a.1, x < 256) /\ a.1.length <= 1073741824 :=
 ⟨(h.facts.2.2.2.2.1 (k, a) (getK_mem hg)).2, h.sane.len hg⟩
set_option maxRecDepth 100000 in
set_option maxHeartbeats 1600000 in
theorem load_any (F : Nat -> Prop) (d room : Nat) (L : DiskL) (s : ByteArray) (w : World) (hD : DiskAt w F d room L) (hs : s.size <= 1099511627776) :
  Calls Tryz.prog 35 #[.pointer (some ⟨d, 0, none⟩), .string s] w fun e w' => ∃ v, e = .returned (.tuple #[v, .int .i64 ((loadL s.data.toList L).2 : Nat)]) /\ Own w' w.heap.size v (loadL s.data.toList L).1 /\ Below w.heap.size w w' := by
 have RD := hide (read_any F d room L s w hD hs);rcases hg : getK s.data.toList L with _ | a
 ·rw [loadL_none hg];rw [show readL s.data.toList L = ([], 7) by unfold readL; rw [hg]] at RD;clear hD hs hg;go_enter Tryz.func35, Tryz.ntmps35;go_wp2_with fail
  refine RD.out.mono ?_;rintro e w1 ⟨v, rfl, o1, k1⟩;have K1 := hide k1;clear o1 k1;go_wp2_with fail
  go_ret2;exact ⟨_, rfl, World.ownsRow_nil _ _ _ _, K1.out⟩
 ·obtain ⟨hb, hl⟩ := file_byte hD hg;rw [readL_some hg] at RD;obtain ⟨n, hn⟩ : ∃ n, n = a.1.length := ⟨_, rfl⟩;rw [<- hn] at hl;have HB := hide hb;have HN := hide hn;have HG := hide hg;clear hD hs hg hb hn;by_cases he : (decL a.1).2.2 = 0
  ·by_cases hm : (decL a.1).2.1 < a.1.length
   ·rw [loadL_form HG.out he hm];rw [<- HN.out] at hm;obtain ⟨q, hq⟩ : ∃ q, q = (decL a.1).2.1 := ⟨_, rfl⟩;rw [<- hq] at hm;have HQ := hide hq;have HE := hide he;have hmz : (q : Int) < (n : Int) := by omega
    clear hq he;go_enter Tryz.func35, Tryz.ntmps35;go_wp2_with fail
    refine RD.out.mono ?_;rintro e w1 ⟨v, rfl, o1, k1⟩;obtain ⟨A, c, rfl, i1, l1, m1⟩ := o1.isB.form (n := n) HN.out.symm;have I1 := hide i1;have K1 := hide k1;clear o1 i1 k1;go_wp2_with fail
    refine (decode_any A n c a.1 w1 I1.out HN.out.symm HB.out (by omega) l1 m1).mono ?_;rintro e w2 ⟨v2, rfl, o2, k2⟩;rw [HE.out, <- HQ.out];have K2 := hide (below_step K1.out k2);clear o2 k2;go_wp2_with fail
    go_ret2;exact ⟨_, rfl, World.ownsRow_nil _ _ _ _, K2.out⟩
   ·rw [loadL_ok HG.out he hm];rw [<- HN.out] at hm;obtain ⟨q, hq⟩ : ∃ q, q = (decL a.1).2.1 := ⟨_, rfl⟩;rw [<- hq] at hm;have HQ := hide hq;have HE := hide he;have hmz : ¬ (q : Int) < (n : Int) := by omega
    clear hq he;go_enter Tryz.func35, Tryz.ntmps35;go_wp2_with fail
    refine RD.out.mono ?_;rintro e w1 ⟨v, rfl, o1, k1⟩;obtain ⟨A, c, rfl, i1, l1, m1⟩ := o1.isB.form (n := n) HN.out.symm;have I1 := hide i1;have K1 := hide k1;clear o1 i1 k1;go_wp2_with fail
    refine (decode_any A n c a.1 w1 I1.out HN.out.symm HB.out (by omega) l1 m1).mono ?_;rintro e w2 ⟨v2, rfl, o2, k2⟩;rw [HE.out, <- HQ.out];have K2 := hide (below_step K1.out k2);have O2 := hide (o2.down K1.out.size);clear o2 k2;go_wp2_with fail
    go_ret2;exact ⟨_, rfl, O2.out, K2.out⟩
  ·rw [loadL_err HG.out he];obtain ⟨q, hq⟩ : ∃ q, q = (decL a.1).2.2 := ⟨_, rfl⟩;rw [<- hq] at he ⊢;have HQ := hide hq;have hq0 : ((q : Int) == 0) = false := by simp; omega
   clear hq he;go_enter Tryz.func35, Tryz.ntmps35;go_wp2_with fail
   refine RD.out.mono ?_;rintro e w1 ⟨v, rfl, o1, k1⟩;obtain ⟨A, c, rfl, i1, l1, m1⟩ := o1.isB.form (n := n) HN.out.symm;have I1 := hide i1;have K1 := hide k1;clear o1 i1 k1;go_wp2_with fail
   refine (decode_any A n c a.1 w1 I1.out HN.out.symm HB.out (by omega) l1 m1).mono ?_;rintro e w2 ⟨v2, rfl, o2, k2⟩;rw [<- HQ.out];have K2 := hide (below_step K1.out k2);clear o2 k2;go_wp2_with fail
   go_ret2;exact ⟨_, rfl, World.ownsRow_nil _ _ _ _, K2.out⟩
theorem tilde_ok {k : Str} (hk : 1 <= k.length /\ k.length <= 63) : 1 <= (tildeL k).length /\ (tildeL k).length <= 64 := by
 rw [tilde_len];omega
theorem draft_fit {k : Str} {p : List Nat} (hk : 1 <= k.length /\ k.length <= 63) (hl : (delK (tildeL k) L).length < 256) (hu : usedL (delK (tildeL k) L) + (8 + p.length) <= room) : (draftL room k p L).2 = 0 := by
 unfold draftL appL;rw [remL_one, if_neg (fun h => h (tilde_ok hk)), if_neg];rw [frame_len];rintro (⟨_, h⟩ | h) <;> omega
section
variable {room : Nat} {k : Str} {p : List Nat} (hk : 1 <= k.length /\ k.length <= 63) (hp : p.length <= 1048576)
include hk hp
end
theorem load_one {k : Str} {p : List Nat} (l : Nat) (hp : p.length <= 1048576) : loadL k [(k, (frameL p, l))] = (p, 0) := by
 have h := dec_back p [] hp;rw [List.append_nil] at h;rw [loadL_ok (getK_one k _) (by rw [h]) (by rw [h]; show ¬ 8 + p.length < (frameL p).length; rw [frame_len]; omega), h]
end Go.Proofs.YtedlibkkeegnaaaGreat
