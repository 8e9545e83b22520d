/- The document's Used and List. No condition but the widths. -/
import Derived.Test.YtndffjgneapmdaaRSome
import Derived.Test.YtndffjgneapmdaaDCrash
namespace Go.Proofs.Ytndffjgneapmdaa
open Go.RowKit Go.Maps
theorem sumK_take (X : List (Str × Fil)) (j : Nat) (hj : j < X.length) : sumK filL (X.take (j + 1)) = sumK filL (X.take j) + X[j].2.2.1.length := by
  unfold sumK
  rw [List.take_succ_eq_append_getElem hj, List.map_append, List.sum_append]
  simp [filL]
theorem sumK_le (X : List (Str × Fil)) (j : Nat) : sumK filL (X.take j) ≤ sumK filL X := by
  have h : sumK filL (X.take j) + sumK filL (X.drop j) = sumK filL X := by
    unfold sumK
    rw [← List.sum_append, ← List.map_append, List.take_append_drop]
  omega
set_option maxRecDepth 100000 in
set_option maxHeartbeats 1600000 in
theorem rused_any (G : Nat → Prop) (p room : Nat) (v : Value) (X : List (Str × Fil)) (w : World) (h : RShell w G p room v X) (hu : sumK filL X ≤ 1099511627776) :
    Calls Try.prog 41 #[.pointer (some ⟨p, 0, none⟩)] w fun e w' => e = .returned (.int .i64 ((sumK filL X : Nat) : Int)) ∧ w = w' := by
  obtain ⟨A, c, rfl, hlc, hc63, _, hcell⟩ := h.form
  have c1 : w.cell? ⟨p, 1, none⟩ = some (.slice A X.length c) := h.cells.cell 1
  obtain ⟨N, hN⟩ : ∃ N, N = X.length := ⟨_, rfl⟩
  rw [← hN] at c1 hlc
  have HE := hide (fun q hq => (h.each q hq).1 : ∀ q ∈ X, Own w 0 q.2.1 q.2.2.1)
  have HN := hide hN
  have HC := hide hcell
  have HU := hide hu
  clear h hcell hN hu
  go_enter Try.func41, Try.ntmps41
  go_wp2_with fail
  go_loopw [3, 4] (fun n i wr => ∃ j : Nat, j ≤ N ∧ n = .int .i64 ((sumK filL (X.take j) : Nat) : Int) ∧ i = .int .i64 (j : Int) ∧ wr = w) (fun _ i _ => N - (intOf i).toNat)
  case atStart => exact ⟨0, Nat.zero_le _, rfl, rfl, rfl⟩
  case round =>
    obtain ⟨j, hj, rfl, rfl, rfl⟩ := hrel
    by_cases hlt : j < N
    · have hjX : j < X.length := by rw [← HN.out]; exact hlt
      obtain ⟨g, rfl, _, hgl, q0, q1, q2, _⟩ := HC.out j hjX
      obtain ⟨A', cc, e, _, h7, h8⟩ := (HE.out X[j] (List.getElem_mem hjX)).isB.form rfl
      rw [e] at q1
      have ht := sumK_take X j hjX
      have hle := sumK_le X (j + 1)
      have hu := HU.out
      obtain ⟨m, hm⟩ : ∃ m, m = sumK filL (X.take j) := ⟨_, rfl⟩
      obtain ⟨n, hn⟩ : ∃ n, n = X[j].2.2.1.length := ⟨_, rfl⟩
      rw [← hn] at q1 h7
      rw [← hm, ← hn] at ht
      rw [← hm]
      have hb : m + n ≤ 1099511627776 := by omega
      have HT := hide ht
      clear ht hle hu hm hn e q0 q2
      go_wp2_with fail
      go_roundw
      case rel => exact ⟨j + 1, by omega, by rw [HT.out]; go_num, by go_num, trivial⟩
      case measure => simp [intOf]; omega
    · obtain rfl : j = N := by omega
      go_wp2_with fail
      go_ret
      refine ⟨?_, rfl⟩
      rw [HN.out, List.take_length]
      rfl
theorem Try.info_str : (Try.prog.info? 9).map (fun i => (i.zero, i.size, i.bytes)) = some (some (.string ⟨#[]⟩), 1, 16) := by kernel_rfl
theorem wpList_append_name {w : World} {ops : Array Oper} {rest : List Oper} {o : Oper} {a : Act} {Q : Exit → Act → World → Prop} (hgd : o.guard = none) (s x : Operand)
    (ho : o.op = .call { callee := .builtin .append, args := #[s, x], argTypes := #[61, 61] })
    (B : Nat) (v : Value) (ks : List Str) (hs : a.eval s = v) (hown : OwnS w B v ks)
    (b : Nat) (k : Str) (hx : a.eval x = .slice (some ⟨b, 0, none⟩) 1 1) (hr : w.cell? ⟨b, 0, none⟩ = some (encStr k))
    (hlen : ks.length ≤ 1099511627776) (hbase : B ≤ w.heap.size)
    (h : ∀ v' w', OwnS w' B v' (ks ++ [k]) → Below B w w' → wpList Try.prog ops Q rest (a.put o.dst v') w') : wpList Try.prog ops Q (o :: rest) a w := by
  obtain ⟨i0, hi, hz0, hz1, hz2⟩ := info_parts Try.info_str
  refine wpList_append_own_at w hgd s x _ ho B 9 i0 _ 1 16 Try.underlying61 hi hz0 hz1 hz2 rfl (by decide) v _ _ hs hown ⟨b, 0, none⟩ 1 1 [encStr k] hx rfl ?_ ?_ (by unfold maxLen; omega) (by omega) hbase (fun v' w' h1 h2 _ _ => ?_)
  · intro j u hu
    rcases j with _ | j
    · simp at hu
      subst hu
      exact hr
    · simp at hu
  · intro u hu
    simp at hu
    subst hu
    rfl
  · refine h v' w' ?_ ((Below.refl _ _).grown h2 hbase fun k hk => (hown.lt k hk).1)
    unfold OwnS
    rw [List.length_append, List.map_append]
    exact h1
set_option maxRecDepth 100000 in
set_option maxHeartbeats 1600000 in
theorem rlist_any (G : Nat → Prop) (p room : Nat) (v : Value) (X : List (Str × Fil)) (w : World) (h : RShell w G p room v X) (hlen : X.length ≤ 256) :
    Calls Try.prog 39 #[.pointer (some ⟨p, 0, none⟩)] w fun e w' => ∃ v, e = .returned v ∧ OwnS w' w.heap.size v (X.map (·.1)) ∧ Below w.heap.size w w' := by
  obtain ⟨A, c, rfl, hlc, hc63, _, hcell⟩ := h.form
  have c1 : w.cell? ⟨p, 1, none⟩ = some (.slice A X.length c) := h.cells.cell 1
  have hpl := h.low p h.own
  obtain ⟨N, hN⟩ : ∃ N, N = X.length := ⟨_, rfl⟩
  rw [← hN] at c1 hlc hlen
  have HN := hide hN
  have HC := hide hcell
  clear h hcell hN
  go_enter Try.func39, Try.ntmps39
  go_wp2_with fail
  go_loopw [3, 4] (fun u i wr => ∃ j : Nat, j ≤ N ∧ i = .int .i64 (j : Int) ∧ Hid (OwnS wr w.heap.size u ((X.take j).map (·.1))) ∧ Hid (Below w.heap.size w wr)) (fun _ i _ => N - (intOf i).toNat)
  case atStart => exact ⟨0, Nat.zero_le _, rfl, World.ownsRow_nil _ _ _ _, Below.refl _ _⟩
  case round =>
    obtain ⟨j, hj, rfl, ho, hb⟩ := hrel
    have c1' := (hb.out.cell (p := ⟨p, 1, none⟩) hpl).trans c1
    by_cases hlt : j < N
    · have hjX : j < X.length := by rw [← HN.out]; exact hlt
      obtain ⟨g, rfl, _, hgl, q0, _, _, _⟩ := HC.out j hjX
      have q0' := (hb.out.cell (p := ⟨g, j * 3, none⟩) hgl).trans q0
      obtain ⟨k, hk⟩ : ∃ k, k = X[j].1 := ⟨_, rfl⟩
      rw [← hk] at q0'
      have HK : Hid ((X.take (j + 1)).map (·.1) = (X.take j).map (·.1) ++ [k]) := by
        unfold Hid
        rw [List.take_succ_eq_append_getElem hjX, List.map_append, hk]
        rfl
      clear q0 hk
      go_wp2_with (at_builtin; refine halt ?_)
      refine ⟨?_⟩
      have nb := below_alloc wr (.cells #[encStr k] 9)
      have ks := hb.out.size
      refine wpList_append_name rfl (.tmp 14) (.tmp 23) rfl w.heap.size _ _ rfl (ho.out.turn (S := fun _ => False) (Turn.of_below _ nb) (fun _ _ => id)) wr.heap.size k rfl (by rw [cell_of_row _ _ _ _ _ (0, 0) (heap_alloc_new wr _)]; rfl) (by rw [List.length_map, List.length_take]; omega) (by have := nb.size; omega) ?_
      intro v2 w2 o2 k2
      have O2 : Hid (OwnS w2 w.heap.size v2 ((X.take (j + 1)).map (·.1))) := by rw [HK.out]; exact o2
      have K2 : Hid (Below w.heap.size w w2) := (below_step hb.out nb).trans k2
      clear nb o2 k2
      go_wp2_with fail
      go_roundw
      case rel => exact ⟨j + 1, by omega, by go_num, O2, K2⟩
      case measure => simp [intOf]; omega
    · obtain rfl : j = N := by omega
      go_wp2_with fail
      go_ret
      refine ⟨_, rfl, ?_, hb.out⟩
      have := ho.out
      rw [HN.out, List.take_length] at this
      exact this
end Go.Proofs.Ytndffjgneapmdaa
