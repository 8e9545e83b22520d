/- The contracts of the document's own Encode and Decode of records. Condition: rows below 2 to the 39. -/
import Derived.Test.YtjchpnmipmplkaaDecode
import Derived.Test.YtjchpnmipmplkaaRSum
import Derived.Test.YtjchpnmipmplkaaRFixA
import Derived.Test.YtjchpnmipmplkaaRGetA
import Derived.Deep.RegionLaw
namespace Go.Proofs.Ytjchpnmipmplkaa
open Go.RowKit
set_option maxHeartbeats 800000 in
theorem rencode_any (A : Option Addr) (n c : Nat) (p : List Nat) (w : World) (hA : IsB w (.slice A n c) p) (hn : p.length = n) (hb : ∀ x ∈ p, x < 256) (h : n ≤ 1048576) :
    Calls Try.prog 22 #[.slice A n c] w fun e w' => ∃ s, e = .returned (.tuple #[s, .int .i64 0]) ∧ Own w' w.heap.size s (frameL p) ∧ Below w.heap.size w w' := by
  have HA := hide hA
  have HN := hide hn
  have HB := hide hb
  clear hA hn hb
  go_enter Try.func22, Try.ntmps22
  go_wp2_with fail
  refine (rput32_any _ n (by omega) _ (by omega)).mono ?_
  rintro e w1 ⟨s1, rfl, o1, k1⟩
  have O1 := hide o1
  have I1 := hide o1.isB
  have K1 := hide k1
  clear o1 k1
  go_wp2_with (at_builtin; refine halt ?_)
  refine ⟨?_⟩
  have nb : Below w1.heap.size w1 (w1.alloc (.cells #[] 5)) := (Below.refl _ _).alloc (Nat.le_refl _) _
  refine wpList_append_bytes rfl (.tmp 13) (.tmp 14) rfl w1.heap.size _ [] rfl (own_lit w1 #[] [] rfl (by decide)) _ (be32 n) rfl (I1.out.keep nb) (by rw [be32_len]; decide) nb.size ?_
  intro s2 w2 o2 k2
  rw [List.nil_append] at o2
  have nb2 := nb.trans k2
  go_wp2_with (at_builtin; refine halt ?_)
  refine ⟨?_⟩
  refine wpList_append_bytes rfl (.tmp 15) (.tmp 16) rfl w1.heap.size _ (be32 n) rfl o2 _ p rfl (HA.out.keep (below_step K1.out nb2)) (by rw [be32_len, HN.out]; omega) nb2.size ?_
  intro s3 w3 o3 k3
  obtain ⟨A3, c3, rfl, i3, l3, m3⟩ := o3.isB.form (n := 4 + n) (by rw [List.length_append, be32_len, HN.out])
  have I3 := hide i3
  have nb3 := nb2.trans k3
  have O1 := hide (O1.out.keep nb3)
  have K3 := hide (below_step K1.out nb3)
  clear nb nb2 o2 k2 o3 k3 i3 nb3 I1 K1
  go_wp2_with fail
  refine (rsum_any A3 (4 + n) c3 (be32 n ++ p) _ I3.out.rd (by rw [List.length_append, be32_len, HN.out]) (byte_app (be32_byte n) HB.out) (by omega)).mono ?_
  rintro e w4 ⟨rfl, k4⟩
  have O1 := hide (O1.out.keep k4)
  have K4 := hide (below_step K3.out k4)
  clear k4 K3 I3
  have HS := hide (sumS_lt (be32 n ++ p))
  have HF : Hid (frameL p = be32 n ++ be32 (sumS (be32 n ++ p)) ++ p) := by unfold Hid frameL; rw [HN.out]
  obtain ⟨t, ht⟩ : ∃ t, t = sumS (be32 n ++ p) := ⟨_, rfl⟩
  rw [← ht] at HS HF ⊢
  clear ht
  go_wp2_with fail
  refine (rput32_any _ t rfl _ HS.out).mono ?_
  rintro e w5 ⟨s5, rfl, o5, k5⟩
  have O1 := hide (O1.out.keep k5)
  have I5 := hide o5.isB
  have K5 := hide (below_step K4.out k5)
  clear o5 k5 K4
  go_wp2_with (at_builtin; refine halt ?_)
  refine ⟨?_⟩
  refine wpList_append_bytes rfl (.tmp 20) (.tmp 21) rfl w.heap.size _ (be32 n) rfl O1.out _ (be32 t) rfl I5.out (by rw [be32_len, be32_len]; decide) K5.out.size ?_
  intro s6 w6 o6 k6
  have O6 := hide o6
  have K6 := hide (K5.out.trans k6)
  clear o6 k6 O1 I5 K5
  go_wp2_with (at_builtin; refine halt ?_)
  refine ⟨?_⟩
  refine wpList_append_bytes rfl (.tmp 22) (.tmp 23) rfl w.heap.size _ (be32 n ++ be32 t) rfl O6.out _ p rfl (HA.out.keep K6.out) (by rw [List.length_append, be32_len, be32_len, HN.out]; omega) K6.out.size ?_
  intro s7 w7 o7 k7
  rw [← HF.out] at o7
  have O7 := hide o7
  have K7 := hide (K6.out.trans k7)
  clear o7 k7 O6 K6
  go_wp2_with fail
  go_ret2
  exact ⟨_, rfl, O7.out, K7.out⟩
theorem step_append_bytes {w : World} {ops : Array Oper} {o : Oper} {a : Act} {K : Act → World → Prop} {Q : Exit → Act → World → Prop} {E : Prop} (hgd : o.guard = none) (s x : Operand)
    (ho : o.op = .call { callee := .builtin .append, args := #[s, x], argTypes := #[23, 23] })
    (B : Nat) (v : Value) (xs : List Nat) (hs : a.eval s = v) (hown : Own w B v xs)
    (u : Value) (ys : List Nat) (hx : a.eval x = u) (hr : IsB w u ys)
    (hlen : xs.length + ys.length ≤ 140737488355328) (hbase : B ≤ w.heap.size)
    (h : ∀ v' w', Own w' B v' (xs ++ ys) → Below B w w' → K (a.put o.dst v') w') : if Region.wanted o (yielded ops a.tmps) = true then Oper.wp Try.prog o a w K Q else E := by
  have hw : Region.wanted o (yielded ops a.tmps) = true := by simp [Region.wanted, hgd]
  rw [if_pos hw]
  obtain ⟨i0, hi, hz0, hz1, hz2⟩ := info_parts Try.info_u8'
  obtain ⟨A, c, rfl, hr, hn, _⟩ := hr
  have fin : ∀ v' w', w'.ownsRow B 5 1 v' (xs.length + ys.length) ((xs.map fun x : Nat => Value.int .u8 (x : Int)) ++ (ys.map fun x : Nat => Value.int .u8 (x : Int))) → w.grownBy w' v.ownBlock → K (a.put o.dst v') w' := by
    intro v' w' hown' hg
    refine h v' w' (by unfold Own; simpa using hown') ((Below.refl _ _).grown hg hbase fun k hk => (hown.lt k hk).1)
  rcases A with _ | ad
  · have h0 := hn rfl
    subst h0
    have hys : ys = [] := by
      rcases ys with _ | ⟨y, ys⟩
      · rfl
      · obtain ⟨_, _, e, _⟩ := hr (by simp)
        cases e
    subst hys
    have hrun := run_append_owned_none (P := Try.prog) (w := w) B 23 o.type 5 i0 1 Try.underlying23 hi v _ _ hown
    unfold Oper.wp
    simp [execOp, ho, resolve, invoke, builtin, hs, hx, hrun, Result.andThen]
    exact fin v w (by simpa [Own] using hown) (World.grownBy.refl w _)
  · refine wp_append_own w s x _ ho B 5 i0 (.int .u8 0) 1 1 Try.underlying23 hi hz0 hz1 hz2 rfl (by decide) v _ _ hs hown ad ys.length c (ys.map fun x : Nat => Value.int .u8 (x : Int)) hx (by simp) ?_ ?_ (by unfold maxLen; omega) (by omega) hbase (fun v' w' h1 h2 _ => fin v' w' h1 h2)
    · intro j u hu
      have hj : j < ys.length := by
        rcases Nat.lt_or_ge j ys.length with h | h
        · exact h
        · simp [h] at hu
      obtain ⟨b, off, e, hc⟩ := hr (by intro e; rw [e] at hj; simp at hj)
      cases e
      have := hc j hj
      simp [hj] at hu
      subst hu
      simpa [add_off, hj] using this
    · intro u hu
      simp at hu
      obtain ⟨y, _, rfl⟩ := hu
      rfl
end Go.Proofs.Ytjchpnmipmplkaa
