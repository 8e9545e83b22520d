/- The walk of the law FrameBack: it returns true for any record, any bytes behind it, any place and any byte that is exchanged into it, and writes nothing that was there. No conditions but the widths. -/
import Derived.Test.YtopcjiilcbjimaaWalkDec
namespace Go.Proofs.Ytopcjiilcbjimaa
open Go.RowKit
theorem frame_len (p : List Nat) : (frameL p).length = 8 + p.length := by
  unfold frameL
  rw [List.length_append, List.length_append, be32_len, be32_len]
theorem frameL_byte {p : List Nat} (hp : ∀ x ∈ p, x < 256) : ∀ x ∈ frameL p, x < 256 := by
  unfold frameL
  exact byte_app (byte_app (be32_byte _) (be32_byte _)) hp
/-- What was written is read, whatever stands behind. -/
theorem dec_back (p more : List Nat) (hp : p.length ≤ 1048576) : decL (frameL p ++ more) = (p, 8 + p.length, 0) := by
  have e1 : frameL p ++ more = be32 p.length ++ (be32 (sumS (be32 p.length ++ p)) ++ (p ++ more)) := by unfold frameL; simp
  have hv : val32 (frameL p ++ more) = p.length := by rw [e1]; exact val32_be _ (by omega) _
  have h4 : (frameL p ++ more).drop 4 = be32 (sumS (be32 p.length ++ p)) ++ (p ++ more) := by rw [e1, List.drop_left' (be32_len _)]
  have h4v : val32 ((frameL p ++ more).drop 4) = sumS (be32 p.length ++ p) := by rw [h4]; exact val32_be _ (sumS_lt _) _
  have hT : (frameL p ++ more).take 4 = be32 p.length := by rw [e1, List.take_left' (be32_len _)]
  have h8 : (frameL p ++ more).drop 8 = p ++ more := by
    have : (frameL p ++ more).drop 8 = ((frameL p ++ more).drop 4).drop 4 := by rw [List.drop_drop]
    rw [this, h4, List.drop_left' (be32_len _)]
  have hl : (frameL p ++ more).length = 8 + p.length + more.length := by rw [List.length_append, frame_len]
  unfold decL
  rw [hv, h4v, hT, h8, List.take_left' rfl, if_neg (by omega), if_neg (by omega), if_neg (by omega), if_neg (by simp)]
theorem getD_lt {xs : List Nat} (h : ∀ x ∈ xs, x < 256) (i : Nat) : xs.getD i 0 < 256 := by
  by_cases hi : i < xs.length
  · have e : xs.getD i 0 = xs[i] := by simp [hi]
    rw [e]; exact h _ (List.getElem_mem hi)
  · have e : xs.getD i 0 = 0 := by simp; rw [List.getElem?_eq_none (by omega)]; rfl
    rw [e]; decide
/-- One byte changed behind the length is refused. -/
theorem dec_wrong (p : List Nat) (hb : ∀ x ∈ p, x < 256) (hp : p.length ≤ 1048576) (i y : Nat) (hi : i < p.length + 4) (hy : y < 256) (hy0 : y ≠ 0) :
    (decL ((frameL p).set (4 + i) ((frameL p).getD (4 + i) 0 ^^^ y))).2.2 = 4 := by
  obtain ⟨n, hn⟩ : ∃ n, n = p.length := ⟨_, rfl⟩
  obtain ⟨t, ht⟩ : ∃ t, t = sumS (be32 n ++ p) := ⟨_, rfl⟩
  have htl : t < 4294967296 := by rw [ht]; exact sumS_lt _
  have ef : frameL p = be32 n ++ (be32 t ++ p) := by unfold frameL; rw [← hn, ← ht, List.append_assoc]
  by_cases h4 : i < 4
  · -- a byte of the sum
    have e1 : (frameL p).getD (4 + i) 0 = (be32 t).getD i 0 := by
      rw [ef]
      simp only [List.getD_eq_getElem?_getD]
      rw [List.getElem?_append_right (by rw [be32_len]; omega), be32_len, List.getElem?_append_left (by rw [be32_len]; omega)]
      congr 2
      omega
    have e2 : (frameL p).set (4 + i) ((frameL p).getD (4 + i) 0 ^^^ y) = be32 n ++ ((be32 t).set i ((be32 t).getD i 0 ^^^ y) ++ p) := by
      rw [e1, ef, List.set_append_right _ _ (by rw [be32_len]; omega), be32_len, Nat.add_sub_cancel_left, List.set_append_left _ _ (by rw [be32_len]; omega)]
    obtain ⟨q, hq⟩ : ∃ q, q = (be32 t).set i ((be32 t).getD i 0 ^^^ y) := ⟨_, rfl⟩
    have hql : q.length = 4 := by rw [hq, List.length_set, be32_len]
    have hb4 : ∀ x ∈ be32 t, x < 256 := be32_byte t
    have hqv : val32 q ≠ t := by
      have h0 := getD_lt hb4 0; have h1 := getD_lt hb4 1; have h2 := getD_lt hb4 2; have h3 := getD_lt hb4 3
      have hx : ∀ a, a < 256 → a ^^^ y < 256 := fun a ha => Nat.xor_lt_two_pow (n := 8) ha hy
      have hne : ∀ a, a ^^^ y ≠ a := fun a e => hy0 (xor_lc (a := a) (by rw [e, Nat.xor_zero]))
      have hv := val32_be t htl []
      rw [List.append_nil] at hv
      have hs : ∀ j, ((be32 t).set i ((be32 t).getD i 0 ^^^ y)).getD j 0 = if i = j then (be32 t).getD i 0 ^^^ y else (be32 t).getD j 0 := by
        intro j
        simp only [List.getD_eq_getElem?_getD, List.getElem?_set]
        by_cases hij : i = j
        · subst hij
          rw [if_pos rfl, if_pos (by rw [be32_len]; exact h4), if_pos rfl]
          rfl
        · rw [if_neg hij, if_neg hij]
      intro e
      rw [hq] at e
      unfold val32 at e hv
      rw [hs 0, hs 1, hs 2, hs 3] at e
      have c0 := hx _ h0; have c1 := hx _ h1; have c2 := hx _ h2; have c3 := hx _ h3
      have n0 := hne ((be32 t).getD 0 0); have n1 := hne ((be32 t).getD 1 0); have n2 := hne ((be32 t).getD 2 0); have n3 := hne ((be32 t).getD 3 0)
      have hi4 : i = 0 ∨ i = 1 ∨ i = 2 ∨ i = 3 := by omega
      rcases hi4 with rfl | rfl | rfl | rfl
      · rw [if_pos rfl, if_neg (by decide), if_neg (by decide), if_neg (by decide)] at e; omega
      · rw [if_neg (by decide), if_pos rfl, if_neg (by decide), if_neg (by decide)] at e; omega
      · rw [if_neg (by decide), if_neg (by decide), if_pos rfl, if_neg (by decide)] at e; omega
      · rw [if_neg (by decide), if_neg (by decide), if_neg (by decide), if_pos rfl] at e; omega
    rw [e2, ← hq]
    have hv : val32 (be32 n ++ (q ++ p)) = n := val32_be _ (by omega) _
    have h4d : (be32 n ++ (q ++ p)).drop 4 = q ++ p := List.drop_left' (be32_len _)
    have hT : (be32 n ++ (q ++ p)).take 4 = be32 n := List.take_left' (be32_len _)
    have h8 : (be32 n ++ (q ++ p)).drop 8 = p := by
      have : (be32 n ++ (q ++ p)).drop 8 = ((be32 n ++ (q ++ p)).drop 4).drop 4 := by rw [List.drop_drop]
      rw [this, h4d, List.drop_left' hql]
    have hqp : val32 (q ++ p) = val32 q := by
      unfold val32
      simp only [List.getD_eq_getElem?_getD]
      rw [List.getElem?_append_left (by omega), List.getElem?_append_left (by omega), List.getElem?_append_left (by omega), List.getElem?_append_left (by omega)]
    have hl : (be32 n ++ (q ++ p)).length = 8 + n := by rw [List.length_append, List.length_append, be32_len, hql, ← hn]; omega
    unfold decL
    rw [hv, h4d, hT, h8, hqp, List.take_of_length_le (by omega), if_neg (by omega), if_neg (by omega), if_neg (by omega), ← ht, if_pos hqv]
  · -- a byte of what it holds
    obtain ⟨k, rfl⟩ : ∃ k, i = 4 + k := ⟨i - 4, by omega⟩
    have e1 : (frameL p).getD (4 + (4 + k)) 0 = p.getD k 0 := by
      rw [ef]
      simp only [List.getD_eq_getElem?_getD]
      rw [List.getElem?_append_right (by rw [be32_len]; omega), be32_len, List.getElem?_append_right (by rw [be32_len]; omega), be32_len]
      congr 2
      omega
    have e2 : (frameL p).set (4 + (4 + k)) ((frameL p).getD (4 + (4 + k)) 0 ^^^ y) = be32 n ++ (be32 t ++ p.set k (p.getD k 0 ^^^ y)) := by
      rw [e1, ef, List.set_append_right _ _ (by rw [be32_len]; omega), be32_len, Nat.add_sub_cancel_left, List.set_append_right _ _ (by rw [be32_len]; omega), be32_len, Nat.add_sub_cancel_left]
    have hbn : ∀ x ∈ be32 n ++ p, x < 256 := byte_app (be32_byte n) hb
    have hw := sum_wrong hbn (4 + k) y (by rw [List.length_append, be32_len]; omega) hy hy0
    have e3 : (be32 n ++ p).getD (4 + k) 0 = p.getD k 0 := by
      simp only [List.getD_eq_getElem?_getD]
      rw [List.getElem?_append_right (by rw [be32_len]; omega), be32_len]
      congr 2
      omega
    rw [e3, List.set_append_right _ _ (by rw [be32_len]; omega), be32_len, Nat.add_sub_cancel_left, ← ht] at hw
    obtain ⟨q, hq⟩ : ∃ q, q = p.set k (p.getD k 0 ^^^ y) := ⟨_, rfl⟩
    rw [e2, ← hq]
    rw [← hq] at hw
    have hql : q.length = n := by rw [hq, List.length_set, hn]
    have hv : val32 (be32 n ++ (be32 t ++ q)) = n := val32_be _ (by omega) _
    have h4d : (be32 n ++ (be32 t ++ q)).drop 4 = be32 t ++ q := List.drop_left' (be32_len _)
    have hT : (be32 n ++ (be32 t ++ q)).take 4 = be32 n := List.take_left' (be32_len _)
    have h8 : (be32 n ++ (be32 t ++ q)).drop 8 = q := by
      have : (be32 n ++ (be32 t ++ q)).drop 8 = ((be32 n ++ (be32 t ++ q)).drop 4).drop 4 := by rw [List.drop_drop]
      rw [this, h4d, List.drop_left' (be32_len _)]
    have hl : (be32 n ++ (be32 t ++ q)).length = 8 + n := by rw [List.length_append, List.length_append, be32_len, be32_len, hql]; omega
    unfold decL
    rw [hv, h4d, hT, h8, val32_be t htl, List.take_of_length_le (by omega), if_neg (by omega), if_neg (by omega), if_neg (by omega), if_pos (fun e => hw e.symm)]
set_option maxHeartbeats 3200000 in
theorem frameBack_core (len cap len1 cap1 k y : Nat) (b3 at_ : Int) (A M : Option Addr) (p more : List Nat) (w : World) (hA : IsB w (.slice A len cap) p) (hl : p.length = len) (hby : ∀ x ∈ p, x < 256)
    (hM : IsB w (.slice M len1 cap1) more) (hl1 : more.length = len1) (hby1 : ∀ x ∈ more, x < 256) (h3 : len + len1 ≤ 4000)
    (hk : k < 4 + len) (hat : at_.tmod ((4 + len : Nat) : Int) = (k : Int) ∨ at_.tmod ((4 + len : Nat) : Int) = (k : Int) - ((4 + len : Nat) : Int)) (hy : y < 256) (hb3 : b3 = 0 ∧ y = 1 ∨ b3 = (y : Int) ∧ 1 ≤ y) :
    Calls Try.prog 5 #[.slice A len cap, .slice M len1 cap1, .int .i64 at_, .int .u8 b3] w fun e w' => e = .returned (.bool true) ∧ Below w.heap.size w w' := by
  have HA := hide hA
  have HL := hide hl
  have HB := hide hby
  have HM := hide hM
  have HL1 := hide hl1
  have HB1 := hide hby1
  have HF : Hid ((frameL p).length = 8 + len) := by unfold Hid; rw [frame_len, hl]
  have HFB := hide (frameL_byte hby)
  have hy0 : y ≠ 0 := by omega
  have HW := hide (dec_wrong p hby (by omega) k y (by omega) hy hy0)
  have hx256 := getD_lt HFB.out (4 + k)
  obtain ⟨x, hx⟩ : ∃ x, x = (frameL p).getD (4 + k) 0 := ⟨_, rfl⟩
  rw [← hx] at HW hx256
  have hxy := xor8 x y hx256 hy
  have hz256 : x ^^^ y < 256 := Nat.xor_lt_two_pow (n := 8) hx256 hy
  obtain ⟨z, hz⟩ : ∃ z, z = x ^^^ y := ⟨_, rfl⟩
  rw [← hz] at HW hxy hz256
  have HX := hide hx
  have HSB : Hid (∀ u ∈ (frameL p).set (4 + k) z, u < 256) := by
    intro u hu
    rcases List.mem_or_eq_of_mem_set hu with h | h
    · exact HFB.out u h
    · rw [h]; exact hz256
  have HBK := hide (dec_back p more (by omega))
  rw [hl] at HBK
  obtain ⟨N, hN⟩ : ∃ N, N = 8 + len := ⟨_, rfl⟩
  obtain ⟨m, hm⟩ : ∃ m, m = 4 + len := ⟨_, rfl⟩
  rw [← hN] at HF HBK
  rw [← hm] at hat
  have q1 : (N : Int) - 4 = (m : Int) := by omega
  have q2 : (k : Int) - (m : Int) + (N : Int) = (k : Int) + 4 := by omega
  have q3 : ((N : Int) != (N : Int)) = false := by simp
  have q4 : 8 ≤ N := by omega
  have q5 : N ≤ 4008 := by omega
  have q6 : 4 + k < N := by omega
  have q7 : ¬ ((N : Int) < 8) := by omega
  have q8 : 4 ≤ m := by omega
  have q9 : (m : Int) ≠ 0 := by omega
  have q10 : k < m := by omega
  have hN2 := hide hN
  clear hA hl hby hM hl1 hby1 hx hz hy0 hN hm hk
  rcases hat with hat | hat <;> rcases hb3 with ⟨rfl, rfl⟩ | ⟨rfl, hy1⟩
  all_goals
    first
      | (have hxy1 : bits .xor .u8 (x : Int) 1 = (z : Int) := hxy
         clear hxy)
      | (have g2 : ((y : Int) == 0) = false := by simp; omega)
    go_enter Try.func5, Try.ntmps5
    go_wp2_with fail
    refine (encode_any A len cap p w HA.out HL.out HB.out (by omega)).mono ?_
    rintro e w1 ⟨s1, rfl, o1, k1⟩
    obtain ⟨g, c1, rfl, hg, hc1, hc2, _, _⟩ := o1.at_ (n := N) HF.out (by omega)
    have O1 := hide o1
    have K1 := hide k1
    clear o1 k1
    go_wp2_with (at_builtin; refine halt ?_)
    refine ⟨?_⟩
    have nb : Below w1.heap.size w1 (w1.alloc (.cells #[] 5)) := (Below.refl _ _).alloc (Nat.le_refl _) _
    refine wpList_append_bytes rfl (.tmp 40) (.tmp 41) rfl w1.heap.size _ [] rfl (own_lit w1 #[] [] rfl (by decide)) _ (frameL p) rfl (O1.out.isB.keep nb) (by rw [HF.out, List.length_nil]; omega) nb.size ?_
    intro s2 w2 o2 k2
    rw [List.nil_append] at o2
    have nb2 := nb.trans k2
    go_wp2_with (at_builtin; refine halt ?_)
    refine ⟨?_⟩
    refine wpList_append_bytes rfl (.tmp 42) (.tmp 43) rfl w1.heap.size _ (frameL p) rfl o2 _ more rfl (HM.out.keep (below_step K1.out nb2)) (by rw [HF.out, HL1.out]; omega) nb2.size ?_
    intro s3 w3 o3 k3
    have nb3 := nb2.trans k3
    obtain ⟨A3, c3, rfl, i3, l3, m3⟩ := o3.isB.form (n := N + len1) (by rw [List.length_append, HF.out, HL1.out])
    have I3 := hide i3
    have O1 := hide (O1.out.keep nb3)
    have K3 := hide (below_step K1.out nb3)
    clear nb nb2 nb3 o2 o3 k2 k3 i3 K1
    go_wp2_with fail
    refine (decode_any A3 (N + len1) c3 (frameL p ++ more) w3 I3.out (by rw [List.length_append, HF.out, HL1.out]) (byte_app HFB.out HB1.out) (by omega) l3 m3).mono ?_
    rintro e w4 ⟨s4, rfl, o4, k4⟩
    rw [HBK.out] at o4
    rw [HBK.out]
    obtain ⟨A4, c4, rfl, i4, _, _⟩ := o4.isB.form (n := len) HL.out
    have I4 := hide i4
    have O1 := hide (O1.out.keep k4)
    have K4 := hide (below_step K3.out k4)
    clear o4 i4 k4 K3 I3
    go_wp2_with fail
    refine (same_any A A4 len len cap c4 p p _ (HA.out.keep K4.out).rd I4.out.rd HL.out.symm HL.out.symm (by omega) (by omega)).mono ?_
    rintro e w5 ⟨rfl, d, rfl⟩
    rw [decide_eq_true rfl]
    have O1 := hide (O1.out.drewN d)
    have K4 := hide (below_draw K4.out d)
    clear I4
    obtain ⟨W, hW⟩ : ∃ W, W = w4.drewN d := ⟨_, rfl⟩
    rw [← hW] at O1 K4 ⊢
    clear hW
    obtain ⟨g', c', e', _, _, _, cells, hfr⟩ := O1.out.at_ (n := N) HF.out (by omega)
    cases e'
    have ck := cells (4 + k) q6
    rw [← HX.out] at ck
    have fk := hfr (4 + k)
    have O2 := hide (O1.out.stored HF.out (4 + k) z)
    have K5 := hide (show Below w.heap.size w (W.setCell ⟨g, 4 + k, none⟩ (.int .u8 (z : Int))) from K4.out.setCell hg _)
    clear cells hfr O1
    go_wp2_with fail
    obtain ⟨A5, c5, e5, r5, _, h5, h6⟩ := O2.out.isB
    have HL5 : Hid (((frameL p).set (4 + k) z).length = N) := by unfold Hid; rw [List.length_set, HF.out]
    have I5 : Hid (IsB (W.setCell ⟨g, 4 + k, none⟩ (.int .u8 (z : Int))) (.slice (some ⟨g, 0, none⟩) N c1) ((frameL p).set (4 + k) z)) := O2.out.isB
    clear e5 r5 h5 h6
    refine (decode_any _ N c1 ((frameL p).set (4 + k) z) _ I5.out HL5.out HSB.out (by omega) (by omega) (by omega)).mono ?_
    rintro e w6 ⟨s6, rfl, o6, k6⟩
    rw [HW.out]
    obtain ⟨dn, hdn⟩ : ∃ dn, dn = (decL ((frameL p).set (4 + k) z)).2.1 := ⟨_, rfl⟩
    rw [← hdn]
    have K6 := hide (below_step K5.out k6)
    clear o6 k6 hdn O2 I5
    go_wp2_with fail
    refine (known_any _).mono ?_
    rintro e w7 ⟨rfl, k7⟩
    go_wp2_with fail
    go_ret
    exact ⟨rfl, below_step K6.out k7⟩
set_option maxHeartbeats 400000 in
theorem frameBack_long (len cap len1 cap1 : Nat) (b3 at_ : Int) (A M : Option Addr) (w : World) (h3 : ¬ len + len1 ≤ 4000) (_h : len ≤ 140737488351232) (_h1 : len1 ≤ 140737488351232) :
    Calls Try.prog 5 #[.slice A len cap, .slice M len1 cap1, .int .i64 at_, .int .u8 b3] w fun e w' => e = .returned (.bool true) ∧ Below w.heap.size w w' := by
  have q : ¬ ((len : Int) + (len1 : Int) ≤ 4000) := by omega
  go_enter Try.func5, Try.ntmps5
  go_wp2_with fail
  go_ret
  exact ⟨rfl, Below.refl _ _⟩
theorem frameBack_walk (a0 : Option Addr) (len0 cap0 : Nat) (z0 : List Int) (a1 : Option Addr) (len1 cap1 : Nat) (z1 : List Int) (a2 : Int) (a3 : Int) (w : World) (w0 : IsRow .u8 w a0 len0 cap0 z0) (w1 : IsRow .u8 w a1 len1 cap1 z1) (_w2 : (Lit.int .i64 a2).wf = true) (w3 : (Lit.int .u8 a3).wf = true)
    (b0 : len0 ≤ 140737488351232) (b1 : len1 ≤ 140737488351232) :
    Calls Try.prog 5 #[.slice a0 len0 cap0, .slice a1 len1 cap1, .int .i64 a2, .int .u8 a3] w fun e w' => e = .returned (.bool true) ∧ Below w.heap.size w w' := by
  obtain ⟨xs, hl, hby, hM, hm⟩ := w0.isB
  obtain ⟨ys, hl1, hby1, hM1, hm1⟩ := w1.isB
  have g3 := bounds_u8 w3
  by_cases h : len0 + len1 ≤ 4000
  · obtain ⟨k, hk, hat⟩ := place a2 (4 + len0) (by omega)
    obtain ⟨b, rfl⟩ := Int.eq_ofNat_of_zero_le g3.1
    by_cases h0 : b = 0
    · subst h0
      exact frameBack_core len0 cap0 len1 cap1 k 1 0 a2 a0 a1 xs ys w hM hl hby hM1 hl1 hby1 h hk hat (by decide) (.inl ⟨rfl, rfl⟩)
    · exact frameBack_core len0 cap0 len1 cap1 k b (b : Int) a2 a0 a1 xs ys w hM hl hby hM1 hl1 hby1 h hk hat (by omega) (.inr ⟨rfl, by omega⟩)
  · exact frameBack_long len0 cap0 len1 cap1 a3 a2 a0 a1 w h b0 b1
end Go.Proofs.Ytopcjiilcbjimaa
