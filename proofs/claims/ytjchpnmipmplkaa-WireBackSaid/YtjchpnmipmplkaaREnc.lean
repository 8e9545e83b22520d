/- The contracts of the document's own Encode of messages, and of wire.Encode and the document's own where a message is refused. Condition: what the document asks of a message, or that it is not so. -/
import Derived.Test.YtjchpnmipmplkaaEnc
import Derived.Test.YtjchpnmipmplkaaRFrame
namespace Go.Proofs.Ytjchpnmipmplkaa
open Go.RowKit
/-- Why a message is refused as an argument. -/
def BadM (f t k : Int) (n : Nat) : Prop := (f < 0 ∨ 2147483647 < f) ∨ (t < 0 ∨ 2147483647 < t) ∨ (k < 0 ∨ 2147483647 < k) ∨ 64 < n
theorem goodM {f t k : Int} {n : Nat} (h : ¬ BadM f t k n) : ∃ f' t' k' : Nat, f = f' ∧ t = t' ∧ k = k' ∧ f' ≤ 2147483647 ∧ t' ≤ 2147483647 ∧ k' ≤ 2147483647 ∧ n ≤ 64 := by
  unfold BadM at h
  exact ⟨f.toNat, t.toNat, k.toNat, by omega, by omega, by omega, by omega, by omega, by omega, by omega⟩
theorem box_below (w : World) (o : Obj) : Below w.heap.size w (w.alloc o) := (Below.refl _ _).alloc (Nat.le_refl _) _
set_option maxHeartbeats 1600000 in
theorem wenc_bad (f t k : Int) (A M : Option Addr) (n c len cap : Nat) (w : World) (h : BadM f t k n) :
    Calls Try.prog 9 #[.agg #[.int .i64 f, .int .i64 t, .int .i64 k, .slice A n c, .slice M len cap]] w fun e w' => e = .returned (.tuple #[.slice none 0 0, .int .i64 1]) ∧ Below w.heap.size w w' := by
  by_cases h1 : f < 0 ∨ 2147483647 < f
  · clear h
    go_enter Try.func9, Try.ntmps9
    go_wp2_with fail
    refine (isNumber_no f _ h1).mono ?_
    rintro e w2 ⟨rfl, rfl⟩
    go_wp2_with fail
    go_ret2
    exact ⟨rfl, box_below _ _⟩
  · by_cases h2 : t < 0 ∨ 2147483647 < t
    · have h10 : 0 ≤ f := by omega
      have h11 : f ≤ 2147483647 := by omega
      clear h h1
      go_enter Try.func9, Try.ntmps9
      go_wp2_with fail
      refine (isNumber_yes f _ h10 h11).mono ?_
      rintro e w2 ⟨rfl, rfl⟩
      go_wp2_with fail
      refine (isNumber_no t _ h2).mono ?_
      rintro e w2 ⟨rfl, rfl⟩
      go_wp2_with fail
      go_ret2
      exact ⟨rfl, box_below _ _⟩
    · by_cases h3 : k < 0 ∨ 2147483647 < k
      · have h10 : 0 ≤ f := by omega
        have h11 : f ≤ 2147483647 := by omega
        have h20 : 0 ≤ t := by omega
        have h21 : t ≤ 2147483647 := by omega
        clear h h1 h2
        go_enter Try.func9, Try.ntmps9
        go_wp2_with fail
        refine (isNumber_yes f _ h10 h11).mono ?_
        rintro e w2 ⟨rfl, rfl⟩
        go_wp2_with fail
        refine (isNumber_yes t _ h20 h21).mono ?_
        rintro e w2 ⟨rfl, rfl⟩
        go_wp2_with fail
        refine (isNumber_no k _ h3).mono ?_
        rintro e w2 ⟨rfl, rfl⟩
        go_wp2_with fail
        go_ret2
        exact ⟨rfl, box_below _ _⟩
      · have h10 : 0 ≤ f := by omega
        have h11 : f ≤ 2147483647 := by omega
        have h20 : 0 ≤ t := by omega
        have h21 : t ≤ 2147483647 := by omega
        have h30 : 0 ≤ k := by omega
        have h31 : k ≤ 2147483647 := by omega
        have h4 : 64 < n := by unfold BadM at h; omega
        clear h h1 h2 h3
        go_enter Try.func9, Try.ntmps9
        go_wp2_with fail
        refine (isNumber_yes f _ h10 h11).mono ?_
        rintro e w2 ⟨rfl, rfl⟩
        go_wp2_with fail
        refine (isNumber_yes t _ h20 h21).mono ?_
        rintro e w2 ⟨rfl, rfl⟩
        go_wp2_with fail
        refine (isNumber_yes k _ h30 h31).mono ?_
        rintro e w2 ⟨rfl, rfl⟩
        go_wp2_with fail
        go_ret2
        exact ⟨rfl, box_below _ _⟩
set_option maxHeartbeats 800000 in
theorem renc_bad (f t k : Int) (A M : Option Addr) (n c len cap : Nat) (w : World) (h : BadM f t k n) :
    Calls Try.prog 10 #[.agg #[.int .i64 f, .int .i64 t, .int .i64 k, .slice A n c, .slice M len cap]] w fun e w' => e = .returned (.tuple #[.slice none 0 0, .int .i64 1]) ∧ Below w.heap.size w w' := by
  have hall : f < 0 ∨ ¬ f < 0 ∧ (2147483647 < f ∨ f ≤ 2147483647 ∧ (t < 0 ∨ ¬ t < 0 ∧ (2147483647 < t ∨ t ≤ 2147483647 ∧ (k < 0 ∨ ¬ k < 0 ∧ (2147483647 < k ∨ k ≤ 2147483647 ∧ 64 < n))))) := by unfold BadM at h; omega
  clear h
  rcases hall with h | ⟨h0, h | ⟨h1, h | ⟨h2, h | ⟨h3, h | ⟨h4, h | ⟨h5, h⟩⟩⟩⟩⟩⟩
  all_goals
    go_enter Try.func10, Try.ntmps10
    go_wp2_with fail
    go_ret2
    exact ⟨rfl, box_below _ _⟩
set_option maxHeartbeats 800000 in
theorem wenc_long (f t k : Nat) (A M : Option Addr) (n c len cap : Nat) (w : World) (hf : f ≤ 2147483647) (ht : t ≤ 2147483647) (hk : k ≤ 2147483647) (hn : n ≤ 64) (h : 1047552 < len) (_lc : len ≤ 9223372036854775807) :
    Calls Try.prog 9 #[.agg #[.int .i64 f, .int .i64 t, .int .i64 k, .slice A n c, .slice M len cap]] w fun e w' => e = .returned (.tuple #[.slice none 0 0, .int .i64 5]) ∧ Below w.heap.size w w' := by
  go_enter Try.func9, Try.ntmps9
  go_wp2_with fail
  refine (isNumber_yes f _ (by omega) (by omega)).mono ?_
  rintro e w2 ⟨rfl, rfl⟩
  go_wp2_with fail
  refine (isNumber_yes t _ (by omega) (by omega)).mono ?_
  rintro e w2 ⟨rfl, rfl⟩
  go_wp2_with fail
  refine (isNumber_yes k _ (by omega) (by omega)).mono ?_
  rintro e w2 ⟨rfl, rfl⟩
  go_wp2_with fail
  go_ret2
  exact ⟨rfl, box_below _ _⟩
set_option maxHeartbeats 800000 in
theorem renc_long (f t k : Nat) (A M : Option Addr) (n c len cap : Nat) (w : World) (hf : f ≤ 2147483647) (ht : t ≤ 2147483647) (hk : k ≤ 2147483647) (hn : n ≤ 64) (h : 1047552 < len) (_lc : len ≤ 9223372036854775807) :
    Calls Try.prog 10 #[.agg #[.int .i64 f, .int .i64 t, .int .i64 k, .slice A n c, .slice M len cap]] w fun e w' => e = .returned (.tuple #[.slice none 0 0, .int .i64 5]) ∧ Below w.heap.size w w' := by
  go_enter Try.func10, Try.ntmps10
  go_wp2_with fail
  go_ret2
  exact ⟨rfl, box_below _ _⟩
set_option maxHeartbeats 3200000 in
set_option maxRecDepth 100000 in
theorem rbody_any (f t k : Nat) (A M : Option Addr) (n c len cap : Nat) (zs : List Int) (d : List Nat) (w : World) (hN : IsI w (.slice A n c) zs) (hD : IsB w (.slice M len cap) d) (hl : d.length = len) (hv : ValidM (f, t, k, zs, d)) :
    Calls Try.prog 23 #[.agg #[.int .i64 f, .int .i64 t, .int .i64 k, .slice A n c, .slice M len cap]] w fun e w' => ∃ s, e = .returned s ∧ Own w' w.heap.size s (bodyL (f, t, k, zs, d)) ∧ Below w.heap.size w w' := by
  have hf : f ≤ 2147483647 := hv.f
  have ht : t ≤ 2147483647 := hv.t
  have hk : k ≤ 2147483647 := hv.k
  have hn : zs.length = n := hN.len
  have hn64 : n ≤ 64 := by have : zs.length ≤ 64 := hv.n; omega
  have hlen : len ≤ 1047552 := by have : d.length ≤ 1047552 := hv.d; omega
  have HZ : Hid (∀ z ∈ zs, -9223372036854775808 ≤ z ∧ z < 9223372036854775808) := hv.z
  have uf := uvl_len64 f (by omega)
  have ut := uvl_len64 t (by omega)
  have uk := uvl_len64 k (by omega)
  have un := uvl_len64 n (by omega)
  have ul := uvl_len64 len (by omega)
  obtain ⟨p, hp⟩ : ∃ p, p = bodyL (f, t, k, zs, d) := ⟨_, rfl⟩
  rw [← hp]
  have HP := hide hp
  have HN := hide hN
  have HD := hide hD
  have HL := hide hl
  have HNN := hide hn
  clear hN hD hl hn hv hp
  have nb : Below w.heap.size w (w.alloc (.cells #[.int .i64 f, .int .i64 t, .int .i64 k, .slice A n c, .slice M len cap] 25)) := (Below.refl _ _).alloc (Nat.le_refl _) _
  have ma := msgAt_new w 25 f t k (.slice A n c) (.slice M len cap)
  obtain ⟨w1, hw1⟩ : ∃ w1, w1 = w.alloc (.cells #[.int .i64 f, .int .i64 t, .int .i64 k, .slice A n c, .slice M len cap] 25) := ⟨_, rfl⟩
  rw [← hw1] at nb ma
  have HW := hide hw1
  have IN := hide (HN.out.keep nb)
  have ID := hide (HD.out.keep nb)
  have NB := hide nb
  have MA := hide ma
  clear hw1 nb HN HD ma
  go_enter Try.func23, Try.ntmps23
  go_wp2_with fail
  rw [← HW.out]
  refine (ruvarint_any f _ (by omega)).mono ?_
  rintro e w2 ⟨s2, rfl, o2, k2⟩
  have O2 := hide o2
  have K2 := hide k2
  have c1 := (MA.out.keep K2.out).c1
  clear o2 k2
  go_wp2_with fail
  refine (ruvarint_any t _ (by omega)).mono ?_
  rintro e w3 ⟨s3, rfl, o3, k3⟩
  have I3 := hide o3.isB
  have O2 := hide (O2.out.keep k3)
  have K3 := hide (K2.out.trans (k3.mono K2.out.size))
  clear o3 k3 c1 K2
  go_wp2_with (at_builtin; refine halt ?_)
  refine ⟨?_⟩
  refine wpList_append_bytes rfl (.tmp 9) (.tmp 13) rfl w1.heap.size _ _ rfl O2.out _ _ rfl I3.out (by omega) K3.out.size ?_
  intro s4 w4 o4 k4
  have O4 := hide o4
  have K4 := hide (K3.out.trans k4)
  have c2 := (MA.out.keep K4.out).c2
  clear o4 k4 O2 K3 I3
  go_wp2_with fail
  refine (ruvarint_any k _ (by omega)).mono ?_
  rintro e w3 ⟨s3, rfl, o3, k3⟩
  have I3 := hide o3.isB
  have O2 := hide (O4.out.keep k3)
  have K3 := hide (K4.out.trans (k3.mono K4.out.size))
  clear o3 k3 c2 K4 O4
  go_wp2_with (at_builtin; refine halt ?_)
  refine ⟨?_⟩
  refine wpList_append_bytes rfl (.tmp 15) (.tmp 19) rfl w1.heap.size _ _ rfl O2.out _ _ rfl I3.out (by rw [List.length_append]; omega) K3.out.size ?_
  intro s4 w4 o4 k4
  have O4 := hide o4
  have K4 := hide (K3.out.trans k4)
  have c3 := (MA.out.keep K4.out).c3
  clear o4 k4 O2 K3 I3
  go_wp2_with fail
  refine (ruvarint_any n _ (by omega)).mono ?_
  rintro e w3 ⟨s3, rfl, o3, k3⟩
  have I3 := hide o3.isB
  have O2 := hide (O4.out.keep k3)
  have K3 := hide (K4.out.trans (k3.mono K4.out.size))
  clear o3 k3 c3 K4 O4
  go_wp2_with (at_builtin; refine halt ?_)
  refine ⟨?_⟩
  refine wpList_append_bytes rfl (.tmp 21) (.tmp 26) rfl w1.heap.size _ _ rfl O2.out _ _ rfl I3.out (by rw [List.length_append, List.length_append]; omega) K3.out.size ?_
  intro s4 w4 o4 k4
  obtain ⟨acc, ha⟩ : ∃ acc, acc = uvl f ++ uvl t ++ uvl k ++ uvl n := ⟨_, rfl⟩
  have hal : acc.length ≤ 40 := by rw [ha]; simp only [List.length_append]; omega
  rw [← ha] at o4
  have HA4 := hide ha
  have HL0 := hide hal
  have O4 := hide o4
  have K4 := hide (K3.out.trans k4)
  clear o4 k4 O2 K3 I3 ha hal
  go_wp2_with fail
  go_loopw [3, 4] (fun s i w5 => ∃ (j : Nat) (ac : List Nat), j ≤ n ∧ i = .int .i64 (j : Int) ∧ ac.length ≤ 40 + 10 * j ∧ Hid (ac = acc ++ ((zs.take j).map fun z => uvl (zigS z).toNat).flatten) ∧ Hid (Own w5 w1.heap.size s ac) ∧ Hid (Below w1.heap.size w1 w5)) (fun _ i _ => n - (intOf i).toNat)
  case atStart => exact ⟨0, acc, by omega, rfl, by have := HL0.out; omega, (by unfold Hid; simp), O4, K4⟩
  case round =>
    obtain ⟨j, ac, hj, rfl, hacc, hs2, hown, hbel⟩ := hrel
    have c3 := (MA.out.keep hbel.out).c3
    by_cases hlt : j < n
    · obtain ⟨b, off, rfl, hc⟩ := (IN.out.keep hbel.out).rd (by intro e; have := HNN.out; rw [e] at this; simp at this; omega)
      have cj := hc j (by rw [HNN.out]; exact hlt)
      have hst := flat_take (fun z : Int => uvl (zigS z).toNat) zs 0 j (by rw [HNN.out]; exact hlt)
      have hzm : zs.getD j 0 ∈ zs := by
        have hj2 : j < zs.length := by rw [HNN.out]; exact hlt
        have e : zs.getD j 0 = zs[j] := by simp [hj2]
        rw [e]; exact List.getElem_mem hj2
      have hzb := HZ.out _ hzm
      obtain ⟨z, hz⟩ : ∃ z, z = zs.getD j 0 := ⟨_, rfl⟩
      rw [← hz] at cj hst hzb
      obtain ⟨q, hq⟩ : ∃ q : Nat, zigS z = (q : Int) := ⟨(zigS z).toNat, by have := (zig_wf z hzb).1; omega⟩
      have hqb : q < 18446744073709551616 := by have := (zig_wf z hzb).2; omega
      have hqq : (zigS z).toNat = q := by omega
      simp only [hqq] at hst
      have HQ := hide hq
      have HST : Hid (ac ++ uvl q = acc ++ ((zs.take (j + 1)).map fun z => uvl (zigS z).toNat).flatten) := by unfold Hid; rw [hs2.out, hst, List.append_assoc]
      have hul := uvl_len64 q hqb
      obtain ⟨hz0, hz1⟩ := hzb
      clear hst hz hq hqq hc hzm
      go_wp2_with fail
      refine (rzig_any z _ hz0 hz1).mono ?_
      rintro e w6 ⟨rfl, rfl⟩
      rw [HQ.out]
      go_wp2_with fail
      refine (ruvarint_any q _ hqb).mono ?_
      rintro e w3 ⟨s3, rfl, o3, k3⟩
      have I3 := hide o3.isB
      have O3 := hide (hown.out.keep k3)
      have K3 := hide (hbel.out.trans (k3.mono hbel.out.size))
      clear o3 k3
      go_wp2_with (at_builtin; refine halt ?_)
      refine ⟨?_⟩
      refine wpList_append_bytes rfl (.tmp 35) (.tmp 42) rfl w1.heap.size _ _ rfl O3.out _ _ rfl I3.out (by omega) K3.out.size ?_
      intro s4 w4 o4 k4
      have O4 := hide o4
      have K4 := hide (K3.out.trans k4)
      have H4 : Hid ((ac ++ uvl q).length ≤ 40 + 10 * (j + 1)) := by unfold Hid; rw [List.length_append]; omega
      clear o4 k4 O3 K3 I3
      go_wp2_with fail
      go_roundw
      case rel => first | exact ⟨j + 1, ac ++ uvl q, by omega, by go_num, H4.out, HST, O4, K4⟩
      case measure => simp [intOf]; omega
    · obtain rfl : j = n := by omega
      have hac : ac = acc ++ (zs.map fun z => uvl (zigS z).toNat).flatten := by
        have e := hs2.out
        rw [List.take_of_length_le (by rw [HNN.out]; exact Nat.le_refl _)] at e
        exact e
      have HBE : Hid (ac ++ uvl len ++ d = p) := by
        unfold Hid
        rw [HP.out]
        unfold bodyL
        simp only [hac, HA4.out, HNN.out, HL.out]
      have c4 := (MA.out.keep hbel.out).c4
      clear hac hlt hs2
      go_wp2_with fail
      refine (ruvarint_any len _ (by omega)).mono ?_
      rintro e w3 ⟨s3, rfl, o3, k3⟩
      have I3 := hide o3.isB
      have O3 := hide (hown.out.keep k3)
      have K3 := hide (hbel.out.trans (k3.mono hbel.out.size))
      clear o3 k3
      go_wp2_with (at_builtin; refine halt ?_)
      refine ⟨?_⟩
      refine wpList_append_bytes rfl (.tmp 44) (.tmp 49) rfl w1.heap.size _ _ rfl O3.out _ _ rfl I3.out (by omega) K3.out.size ?_
      intro s4 w4 o4 k4
      have O4 := hide o4
      have K4 := hide (K3.out.trans k4)
      have c4 := (MA.out.keep K4.out).c4
      have H4 : Hid ((ac ++ uvl len).length ≤ 50 + 10 * 64) := by unfold Hid; rw [List.length_append]; omega
      clear o4 k4 O3 K3 I3
      go_wp2_with (at_builtin; refine halt ?_)
      refine ⟨?_⟩
      refine wpList_append_bytes rfl (.tmp 51) (.tmp 53) rfl w1.heap.size _ _ rfl O4.out _ d rfl (ID.out.keep K4.out) (by have := H4.out; rw [HL.out]; omega) K4.out.size ?_
      intro s5 w5 o5 k5
      rw [HBE.out] at o5
      have O5 := hide (o5.more NB.out.size)
      have K5 := hide (below_step NB.out (K4.out.trans k5))
      clear o5 k5 O4 K4 c4 HBE
      go_wp2_with fail
      go_ret
      exact ⟨_, rfl, O5.out, K5.out⟩
set_option maxHeartbeats 800000 in
theorem renc_ok (f t k : Nat) (A M : Option Addr) (n c len cap : Nat) (zs : List Int) (d : List Nat) (w : World) (hN : IsI w (.slice A n c) zs) (hD : IsB w (.slice M len cap) d) (hl : d.length = len) (hb : ∀ x ∈ d, x < 256) (hv : ValidM (f, t, k, zs, d)) :
    Calls Try.prog 10 #[.agg #[.int .i64 f, .int .i64 t, .int .i64 k, .slice A n c, .slice M len cap]] w fun e w' => ∃ s, e = .returned (.tuple #[s, .int .i64 0]) ∧ Own w' w.heap.size s (frameL (bodyL (f, t, k, zs, d))) ∧ Below w.heap.size w w' := by
  have hf : f ≤ 2147483647 := hv.f
  have ht : t ≤ 2147483647 := hv.t
  have hk : k ≤ 2147483647 := hv.k
  have hn64 : n ≤ 64 := by have : zs.length ≤ 64 := hv.n; have := hN.len; omega
  have hlen : len ≤ 1047552 := by have : d.length ≤ 1047552 := hv.d; omega
  have nb : Below w.heap.size w (w.alloc (.cells #[.int .i64 f, .int .i64 t, .int .i64 k, .slice A n c, .slice M len cap] 25)) := (Below.refl _ _).alloc (Nat.le_refl _) _
  have IN := hide (hN.keep nb)
  have ID := hide (hD.keep nb)
  have NB := hide nb
  have HL := hide hl
  have HV := hide hv
  have HBL := hide (bodyL_len _ hv)
  have HBB := hide (bodyL_byte (f, t, k, zs, d) hb)
  clear nb hN hD hl hb hv
  go_enter Try.func10, Try.ntmps10
  go_wp2_with fail
  refine (rbody_any f t k A M n c len cap zs d _ IN.out ID.out HL.out HV.out).mono ?_
  rintro e w2 ⟨s2, rfl, o2, k2⟩
  obtain ⟨p, hp⟩ : ∃ p, p = bodyL (f, t, k, zs, d) := ⟨_, rfl⟩
  rw [← hp] at o2 HBL HBB
  obtain ⟨m, hm⟩ : ∃ m, m = p.length := ⟨_, rfl⟩
  obtain ⟨A5, c5, rfl, i5, _, _⟩ := o2.isB.form (n := m) hm.symm
  have I5 := hide i5
  have HM := hide hm
  have HP := hide hp
  have HM2 : Hid (m ≤ 1048576) := by unfold Hid; rw [hm]; exact HBL.out
  have K2 := hide (below_step NB.out k2)
  clear o2 k2 hm hp i5
  go_wp2_with fail
  refine (rencode_any A5 m c5 p _ I5.out HM.out.symm HBB.out HM2.out).mono ?_
  rintro e w6 ⟨s6, rfl, o6, k6⟩
  rw [HP.out] at o6
  have O6 := hide (o6.more K2.out.size)
  have K6 := hide (below_step K2.out k6)
  clear o6 k6
  go_wp2_with fail
  go_ret2
  exact ⟨_, rfl, O6.out, K6.out⟩
end Go.Proofs.Ytjchpnmipmplkaa
