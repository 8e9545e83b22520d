/- The contract of the disk's Copy. No condition. -/
import Derived.Test.YtndffjgneapmdaaDCrash
import Derived.Maps.RangeWalk
namespace Go.Proofs.Ytndffjgneapmdaa
open Go.RowKit Go.Maps Go.Sort
/-- The files that have come. -/
def camePast (left : Lit → Bool) (X : List (Str × Fil)) : DiskL := absX (X.filter fun p => !left (.string p.1))
theorem rise_filter {α : Type} {l : List (Str × α)} (h : Rise l) (f : Str × α → Bool) : Rise (l.filter f) := h.filter _
theorem came_start (X : List (Str × Fil)) : camePast (Maps.has (strP filV X)) X = [] := by
  unfold camePast
  rw [List.filter_eq_nil_iff.2]
  · rfl
  · intro p hp
    rw [strP_has]
    rcases hg : getK p.1 X with _ | a
    · exact absurd rfl (getK_none hg p hp)
    · simp
theorem came_end (left : Lit → Bool) (X : List (Str × Fil)) (h : ∀ kl, left kl = false) : camePast left X = absX X := by
  unfold camePast
  rw [List.filter_eq_self.2]
  intro p _
  simp [h]
theorem came_none {left : Lit → Bool} {X : List (Str × Fil)} {k : Str} (h : left (.string k) = true) : getK k (camePast left X) = none := by
  unfold camePast
  rw [absX_get]
  rcases hg : getK k (X.filter fun p => !left (.string p.1)) with _ | a
  · rfl
  · have := (List.mem_filter.1 (getK_mem hg)).2
    simp [h] at this
theorem came_step {left : Lit → Bool} {X : List (Str × Fil)} {k : Str} {a : Fil} (hr : Rise X) (hg : getK k X = some a) : putK k a.2 (camePast left X) = camePast (fun z => left z && !z.sameKey (.string k)) X := by
  unfold camePast
  rw [← absX_put]
  congr 1
  refine rise_ext (putK_rise (rise_filter hr _)) (rise_filter hr _) fun p => ?_
  rw [mem_putK, List.mem_filter, List.mem_filter]
  constructor
  · rintro (rfl | ⟨⟨h1, h2⟩, h3⟩)
    · exact ⟨getK_mem hg, by simp [Lit.sameKey]⟩
    · refine ⟨h1, ?_⟩
      simp only [Bool.not_eq_true'] at h2
      simp [h2]
  · rintro ⟨h1, h2⟩
    by_cases e : p.1 = k
    · exact .inl (rise_inj hr h1 (getK_mem hg) e)
    · refine .inr ⟨⟨h1, ?_⟩, e⟩
      have h3 : (Lit.string p.1).sameKey (.string k) = false := by simp [Lit.sameKey, e]
      simp only [h3, Bool.not_false, Bool.and_true] at h2
      exact h2
theorem sum_filter {α : Type} (g : α → Nat) (f : Str × α → Bool) (l : List (Str × α)) : sumK g (l.filter f) ≤ sumK g l := by
  induction l with
  | nil => exact Nat.le_refl _
  | cons y r ih =>
    unfold sumK at *
    rw [List.filter_cons]
    split
    · simp only [List.map_cons, List.sum_cons]; omega
    · simp only [List.map_cons, List.sum_cons]; omega
theorem came_room {left : Lit → Bool} {X : List (Str × Fil)} {k : Str} {a : Fil} (hr : Rise X) (h : left (.string k) = true) (hg : getK k X = some a) : usedL (camePast left X) + a.2.1.length ≤ sumK filL X ∧ (camePast left X).length < X.length := by
  unfold camePast
  rw [absX_used, absX_length]
  have h1 : X.filter (fun p => !left (.string p.1)) = (delK k X).filter (fun p => !left (.string p.1)) := by
    unfold delK
    rw [List.filter_filter]
    refine List.filter_congr fun p hp => ?_
    by_cases e : p.1 = k
    · rw [e, h]; simp
    · simp [e]
  rw [h1]
  have h2 := sum_filter filL (fun p => !left (.string p.1)) (delK k X)
  have h3 := sumK_del filL k hr
  rw [hg] at h3
  have h4 : ((some a).map filL).getD 0 = a.2.1.length := rfl
  rw [h4] at h3
  have h5 := length_del hr hg
  have h6 := List.length_filter_le (fun p => !left (.string p.1)) (delK k X)
  omega
theorem ranges_turn {S : Nat → Prop} {w w' : World} {P : Program} {k : TypeId} {R : Value → Option (DataW Value × List MemPlace)} {b r n : Nat} {D : DataW Value} {left : Lit → Bool} {cnt : Nat} (h : w.ranges P k R b r n D left cnt) (t : Turn S w w') (hb : ¬ S b) (hr : ¬ S r) : w'.ranges P k R b r n D left cnt := by
  have hlb := h.owns.lt
  have hlr := h.lt
  obtain ⟨es, clock, since, seen, c0, h1, h2, h3, h4, h5, rest⟩ := h
  exact ⟨es, clock, since, seen, c0, by rw [t.block b hlb hb]; exact h1, h2, h3, h4, by rw [t.block r hlr hr]; exact h5, rest⟩
theorem disk_new (w : World) (room : Nat) (hr : room ≤ 1073741824) : DiskAt (w.alloc (.cells #[.int .i64 (room : Int), .int .i64 0, .map none] 48)) (fun k => k = w.heap.size) w.heap.size room [] := by
  refine ⟨[], rfl, ⟨⟨none, Blk.new (B := 0) w _ _ (Nat.zero_le _), .inl ⟨rfl, rfl⟩⟩, rfl, ?_, hr, Nat.zero_le _, Nat.zero_le _, (fun p hp => by cases hp), List.Pairwise.nil, (fun p hp => by cases hp)⟩, ⟨(fun p hp => by cases hp), fun p hp => by cases hp⟩⟩
  rintro k rfl
  simp
theorem inv_tok {X : List (Str × Fil)} {k : Str} {c : Value} {yd : DataW Value} {yp : List MemPlace} (hv : tok c = some (yd, yp)) (hat : ∀ zd, (strP filV X).atKey (.string k) zd = yd) : ∃ a, getK k X = some a ∧ c = filV a := by
  unfold tok at hv
  simp only [Option.some.injEq, Prod.mk.injEq] at hv
  obtain ⟨rfl, _⟩ := hv
  have h1 := hat .nil
  rw [strP_at] at h1
  rcases hg : getK k X with _ | a
  · rw [hg] at h1
    simp at h1
  · rw [hg] at h1
    simp only [Option.map_some, Option.getD_some, DataW.held.injEq] at h1
    exact ⟨a, rfl, h1.symm⟩
set_option maxRecDepth 100000 in
set_option maxHeartbeats 1600000 in
theorem copy_none (d room : Nat) (w : World) (c0 : w.cell? ⟨d, 0, none⟩ = some (.int .i64 (room : Int))) (c2 : w.cell? ⟨d, 2, none⟩ = some (.map none)) (hd : d < w.heap.size) (hr : room ≤ 1073741824) :
    Calls Try.prog 8 #[.pointer (some ⟨d, 0, none⟩)] w fun e w' => ∃ d' F', e = .returned (.pointer (some ⟨d', 0, none⟩)) ∧ DiskAt w' F' d' room [] ∧ (∀ k, F' k → w.heap.size ≤ k) ∧ Below w.heap.size w w' := by
  have k1 := below_alloc w (.cells #[.int .i64 (room : Int), .int .i64 0, .map none] 48)
  have d1 := disk_new w room hr
  have k2 := below_alloc (w.alloc (.cells #[.int .i64 (room : Int), .int .i64 0, .map none] 48)) (.mapIter none 0 #[] 0)
  have qr := run_range_nilMap (P := Try.prog) (w.alloc (.cells #[.int .i64 (room : Int), .int .i64 0, .map none] 48)) 46 _ _ Try.underlying46
  have qn := fun ty => run_next_nilMap (P := Try.prog) (w.alloc (.cells #[.int .i64 (room : Int), .int .i64 0, .map none] 48)) ty 0 0 #[]
  have es : (w.alloc (.cells #[.int .i64 (room : Int), .int .i64 0, .map none] 48)).heap.size = w.heap.size + 1 := by simp
  rw [es] at qr qn
  have d2 := d1.below k2
  have k3 := below_step k1 k2
  obtain ⟨W2, hW2⟩ : ∃ W2, W2 = (w.alloc (.cells #[.int .i64 (room : Int), .int .i64 0, .map none] 48)).alloc (.mapIter none 0 #[] 0) := ⟨_, rfl⟩
  rw [← hW2] at d2 k3 qr qn
  have D2 := hide d2
  have K3 := hide k3
  have HW2 := hide hW2
  clear k1 d1 k2 d2 k3 es hW2
  go_enter Try.func8, Try.ntmps8
  go_wp2_with fail
  go_loopw [] (fun wr => wr = W2) (fun _ => 0)
  case atStart => rfl
  case round =>
    obtain rfl := hrel
    go_wp2_with fail
    go_ret
    exact ⟨w.heap.size, _, rfl, D2.out, fun k hk => by omega, K3.out⟩
set_option maxRecDepth 100000 in
set_option maxHeartbeats 3200000 in
theorem copy_some (F : Nat → Prop) (d room b : Nat) (X : List (Str × Fil)) (w : World) (hS : Shell w F d room X) (hf : Files w F X) (c0 : w.cell? ⟨d, 0, none⟩ = some (.int .i64 (room : Int))) (c2 : w.cell? ⟨d, 2, none⟩ = some (.map (some b))) (hFb : F b) (hm : w.ownsMap Try.prog 9 tok b X.length (strP filV X)) :
    Calls Try.prog 8 #[.pointer (some ⟨d, 0, none⟩)] w fun e w' => ∃ d' F', e = .returned (.pointer (some ⟨d', 0, none⟩)) ∧ DiskAt w' F' d' room (absX X) ∧ (∀ k, F' k → w.heap.size ≤ k) ∧ Below w.heap.size w w' := by
  have hd : d < w.heap.size := hS.low d hS.own
  have hbw : b < w.heap.size := hS.low b hFb
  have hr := hS.most
  have hfew := hS.few
  have k1 := below_alloc w (.cells #[.int .i64 (room : Int), .int .i64 0, .map none] 48)
  have D1 := hide (disk_new w room hr)
  have M1 := hide (ownsMap_turn (S := fun _ => False) hm (Turn.of_below _ k1) id)
  have es : (w.alloc (.cells #[.int .i64 (room : Int), .int .i64 0, .map none] 48)).heap.size = w.heap.size + 1 := by simp
  have K1 := hide k1
  have ES := hide es
  have HS := hide hS
  have HF := hide hf
  clear hS hf hm k1 es
  go_enter Try.func8, Try.ntmps8
  go_wp2_with (first | (at_range; refine wpList_range_own _ rfl _ 46 rfl 9 53 (string_keyed Try.underlying9) Try.underlying46 tok b X.length (strP filV X) rfl M1.out ?_; intro w0 hrg0 hg0 hs0))
  go_frame
  rw [ES.out] at hrg0 hs0 ⊢
  have k2 : Below w.heap.size w w0 := K1.out.trans ⟨hg0.os, hg0.tape, hg0.output, hg0.size, fun i hi => hg0.block i (by rw [ES.out]; omega) (by simp)⟩
  have d0 := D1.out.turn (Turn.of_grown hg0) (fun g hg e => by simp at e)
  have R0 := hide hrg0
  have D0 : Hid (DiskAt w0 (fun k => k = w.heap.size) w.heap.size room (camePast (Maps.has (strP filV X)) X)) := by unfold Hid; rw [came_start]; exact d0
  have F0 : Hid (∀ k, k = w.heap.size → w.heap.size ≤ k ∧ k ≠ w.heap.size + 1) := by unfold Hid; omega
  have K2 := hide k2
  clear hrg0 d0 k2 hg0 hs0
  go_loopw [] (fun wr => ∃ (left : Lit → Bool) (cnt : Nat) (F' : Nat → Prop), Hid (wr.ranges Try.prog 9 tok b (w.heap.size + 1) X.length (strP filV X) left cnt) ∧ Hid (DiskAt wr F' w.heap.size room (camePast left X)) ∧ Hid (∀ k, F' k → w.heap.size ≤ k ∧ k ≠ w.heap.size + 1) ∧ Hid (Below w.heap.size w wr)) (fun wr => wr.rangeLeft b (w.heap.size + 1))
  case atStart => exact ⟨_, _, _, R0, D0, F0, K2⟩
  case round =>
    obtain ⟨left, cnt, F', hrg, hDc, hFc, hk⟩ := hrel
    go_wp2_with (first | (at_next; refine wpList_next_ranges _ rfl _ rfl 9 (string_keyed Try.underlying9) tok encStr (fun v : Value => v) (fun key kl hk => by obtain ⟨x, hx, _⟩ := Maps.keyOf_str Try.underlying9 hk; exact ⟨x, hx⟩) (fun v y hv => ⟨v, rfl⟩) b (w.heap.size + 1) X.length (strP filV X) left cnt rfl hrg.out ?_ ?_))
    · intro hc0 hl0
      have d1 := hDc.out
      rw [came_end left X hl0] at d1
      have KE := hide d1
      clear d1
      go_wp2_with fail
      go_ret
      exact ⟨w.heap.size, F', rfl, KE.out, fun k hk' => (hFc.out k hk').1, hk.out⟩
    · intro x v kl yd yp w2 cnt2 hkey hlk hv hat hrg2 hlt hg2 hs2 hen
      obtain ⟨x', ex, rfl, hxl⟩ := Maps.keyOf_str Try.underlying9 hkey
      obtain rfl : x = x' := encStr_inj ex
      obtain ⟨a, hax, rfl⟩ := inv_tok hv hat
      obtain ⟨⟨A, cp, ea⟩, hla⟩ := HS.out.shape _ (getK_mem hax)
      obtain ⟨av, xs, l⟩ := a
      simp only at ea hla
      subst ea
      obtain ⟨n, hn⟩ : ∃ n, n = xs.length := ⟨_, rfl⟩
      rw [← hn] at hax hla hv hen
      have k2 : Below w.heap.size w w2 := hk.out.grown hg2 hk.out.size (fun j e => by cases e; omega)
      have hnF : ¬ F' (w.heap.size + 1) := fun h => (hFc.out _ h).2 rfl
      have dc2 := hDc.out.turn (Turn.of_grown hg2) (fun g hg e => hnF (by
        have e : g = w.heap.size + 1 := by simpa using e
        rw [← e]
        exact hg))
      have oa := (HF.out.each _ (getK_mem hax)).1.turn (S := fun _ => False) (Turn.of_below _ k2) (fun _ _ => id)
      have hen' : (Instr.entry (.pointer (some ⟨w.heap.size + 1, 0, none⟩))).run Try.prog w2 = .ok (.tuple #[encStr x, .agg #[.slice A n cp, .int .i64 (l : Int)]]) w2 := hen
      obtain ⟨hroom, hfew2⟩ := came_room HS.out.rise hlk hax
      have hgn := came_none (X := X) hlk
      have hst := came_step (left := left) HS.out.rise hax
      have hx64 : x.length ≤ 64 := HS.out.names _ (getK_mem hax)
      have hnb : n ≤ 1073741824 := by
        have h1 := HS.out.used
        have h2 := HS.out.most
        have h3 : ((Value.slice A n cp, xs, l) : Fil).2.1.length = n := hn.symm
        rw [h3] at hroom
        omega
      have hroom' : usedL (camePast left X) + n ≤ room := by
        have h1 := HS.out.used
        have h3 : ((Value.slice A n cp, xs, l) : Fil).2.1.length = n := hn.symm
        rw [h3] at hroom
        omega
      obtain ⟨Y, hY, hSY, hfY, hxY⟩ := disk_missing dc2 hgn
      rw [hY, absX_used] at hroom'
      have hYl : Y.length < 256 := by
        have h1 : (camePast left X).length = Y.length := by rw [hY, absX_length]
        omega
      have hdel := delK_of_none hxY
      have RG := hide hrg2
      have DC := hide dc2
      have K2 := hide k2
      have OA := hide oa.isB
      have HN := hide hn
      have SY := hide hSY
      have FY := hide hfY
      have HXY := hide hxY
      have HY := hide hY
      have HST := hide hst
      have HB := hide (HF.out.each _ (getK_mem hax)).2.2
      have LT := hide hlt
      have HDEL := hide hdel
      have RM := hide hroom'
      have hw2 : w.heap.size ≤ w2.heap.size := k2.size
      have OLD := hide hrg.out
      clear hrg2 dc2 k2 oa hen hn hSY hfY hxY hY hst hkey hlk hv hat hg2 hs2 hgn hax hdel hroom hroom' hfew2 hlt hDc hrg ex
      go_wp2_with fail
      have ka := below_alloc w2 (.cells #[.slice A n cp, .int .i64 (l : Int)] 53)
      have b2 := Blk.new (B := 0) w2 53 #[.slice A n cp, .int .i64 (l : Int)] (Nat.zero_le _)
      refine (clone_any A n cp xs _ (OA.out.keep ka) HN.out.symm (by omega)).mono ?_
      rintro e w3 ⟨v3, rfl, o3, k3⟩
      obtain ⟨A3, c3, rfl, _, _, _⟩ := o3.isB.form (n := n) HN.out.symm
      have b3 := b2.keep k3
      have x0 : w3.cell? ⟨w2.heap.size, 0, none⟩ = some (.slice A n cp) := b3.cell 0
      have x1 : w3.cell? ⟨w2.heap.size, 1, none⟩ = some (.int .i64 (l : Int)) := b3.cell 1
      have y0 := b3.frozen 0
      have es3 : (w2.alloc (.cells #[.slice A n cp, .int .i64 (l : Int)] 53)).heap.size = w2.heap.size + 1 := by simp
      have g4 := grown_set w3 w2.heap.size 0 (.slice A3 n c3)
      have k23 : Below w2.heap.size w2 w3 := below_step ka k3
      have k4 : Below w2.heap.size w2 (w3.setCell ⟨w2.heap.size, 0, none⟩ (.slice A3 n c3)) := k23.grown g4 k23.size (fun i e => by cases e; exact Nat.le_refl _)
      have o4 : Own (w3.setCell ⟨w2.heap.size, 0, none⟩ (.slice A3 n c3)) (w2.heap.size + 1) (.slice A3 n c3) xs := by
        rw [es3] at o3
        exact o3.turn (Turn.of_grown g4) (fun i hi e => by
          have e : i = w2.heap.size := by simpa using e
          have h1 := (o3.lt i hi).1
          omega)
      have o4' := o4.down (Nat.le_succ w2.heap.size)
      have OO := hide (off_others (k := x) FY.out SY.out.low o4')
      have S4 := hide ((SY.out.below k4).more (F' := fun g => F' g ∨ (Value.slice A3 n c3).ownBlock = some g) (fun g => .inl) (fun g hg => by
        rcases hg with h | h
        · exact Nat.lt_of_lt_of_le (SY.out.low g h) k4.size
        · exact (o4.lt g h).2))
      have F4 := hide (((FY.out.turn (S := fun _ => False) (Turn.of_below _ k4) (fun _ _ => id)).sub (fun p (hp : p ∈ delK x Y) => (mem_delK.1 hp).1)).u8 (U8.refl _) (F' := fun g => F' g ∨ (Value.slice A3 n c3).ownBlock = some g) (fun g => .inl))
      have HG : Hid (∀ g, (F' g ∨ (Value.slice A3 n c3).ownBlock = some g) → F' g ∨ w2.heap.size ≤ g) := fun g hg => by
        rcases hg with h | h
        · exact .inl h
        · exact .inr (o4'.lt g h).1
      have O4 := hide (o4.down (Nat.zero_le _))
      have K4 := hide k4
      clear ka b2 o3 k3 b3 es3 g4 k23 k4 o4 o4'
      go_wp2_with fail
      clear x0 x1 y0
      refine (lay_name _ w.heap.size room Y x A3 n c3 l xs _ S4.out F4.out hx64 HN.out.symm hla O4.out HB.out (fun g hg => ⟨.inr hg, OO.out g hg⟩) (by rw [HDEL.out]; exact RM.out) (.inr hYl)).mono ?_
      rintro e w9 ⟨rfl, F9, d9, n9⟩
      have n9' : Next F' w2 F9 w9 := Next.of_more (Turn.of_below F' K4.out) n9 HG.out
      rw [← HY.out] at d9
      have d9' : DiskAt w9 F9 w.heap.size room (camePast (fun z => left z && !z.sameKey (.string x)) X) := by
        rw [← HST.out]
        exact d9
      have rg9 := ranges_turn RG.out n9'.turn (fun h => by have := (hFc.out _ h).1; omega) hnF
      have D9 := hide d9'
      have R9 := hide rg9
      have F9' : Hid (∀ k, F9 k → w.heap.size ≤ k ∧ k ≠ w.heap.size + 1) := fun k hk' => by
        rcases n9'.foot k hk' with h | h
        · exact hFc.out k h
        · have := RG.out.lt
          exact ⟨by omega, by omega⟩
      have K9 := hide (K2.out.trans (n9'.below hw2 (fun k h => (hFc.out k h).1)))
      clear d9 n9 n9' d9' rg9
      go_wp2_with fail
      go_roundw
      case rel => exact ⟨_, cnt2, F9, R9, D9, F9', K9⟩
      case measure =>
        rw [R9.out.left_eq, OLD.out.left_eq]
        exact LT.out
theorem copy_any (F : Nat → Prop) (d room : Nat) (L : DiskL) (w : World) (hD : DiskAt w F d room L) :
    Calls Try.prog 8 #[.pointer (some ⟨d, 0, none⟩)] w fun e w' => ∃ d' F', e = .returned (.pointer (some ⟨d', 0, none⟩)) ∧ DiskAt w' F' d' room L ∧ (∀ k, F' k → w.heap.size ≤ k) ∧ Below w.heap.size w w' := by
  obtain ⟨X, rfl, hS, hf⟩ := hD
  obtain ⟨mv, hB, hm⟩ := hS.cells
  rcases hm with ⟨rfl, rfl⟩ | ⟨b, rfl, hFb, hm⟩
  · exact copy_none d room w (hB.cell 0) (hB.cell 2) hB.lt hS.most
  · exact copy_some F d room b X w hS hf (hB.cell 0) (hB.cell 2) hFb hm
end Go.Proofs.Ytndffjgneapmdaa
