/- The contract of the disk's Crash. No condition. What each call does to a disk, as lists; the program's calls by it. No condition but the widths. The contract of volume's own lay. No condition but the widths. -/
import Derived.Test.YtehgjkckhjggbaaVr29
import Derived.Test.YtehgjkckhjggbaaVr23
import Derived.Test.YtehgjkckhjggbaaVr1
import Derived.Deep.CutRange
import Derived.Test.YtehgjkckhjggbaaVr24
namespace Go.Proofs.Ytehgjkckhjggbaa
open Go.RowKit Go.Maps Go.Sort
theorem OwnS.form {w : World} {B : Nat} {v : Value} {ks : List Str} (h : OwnS w B v ks) : ∃ A c, v = .slice A ks.length c ∧ ks.length ≤ c ∧ c ≤ 9223372036854775807 ∧ ∀ i, i < ks.length → ∃ g, A = some ⟨g, 0, none⟩ ∧ B ≤ g ∧ g < w.heap.size ∧ w.cell? ⟨g, i, none⟩ = some (encStr (ks.getD i [])) := by
  unfold OwnS at h
  rcases h.2 with ⟨rfl, hn⟩ | ⟨g, cap, cur, rfl, hb, hg, h1, h2, _⟩
  · exact ⟨none, 0, by rw [hn], by omega, by decide, fun i hi => by omega⟩
  · refine ⟨_, cap, rfl, h1, by unfold maxLen at h2; omega, fun i hi => ⟨g, rfl, hb, heap_lt hg, ?_⟩⟩
    rw [World.ownsRow.cellAt h i (by omega)]
    simp [hi]
theorem OwnS.turn {S : Nat → Prop} {w w' : World} {B : Nat} {v : Value} {ks : List Str} (h : OwnS w B v ks) (t : Turn S w w') (ho : Off S v) : OwnS w' B v ks := by
  unfold OwnS at h ⊢
  refine ⟨h.1, ?_⟩
  rcases h.2 with hn | ⟨g, cap, cur, hv, h1, h2, r⟩
  · exact .inl hn
  · refine .inr ⟨g, cap, cur, hv, h1, ?_, r⟩
    rw [t.block g (heap_lt h2) (ho g (by rw [hv]; rfl))]
    exact h2
theorem OwnS.lt {w : World} {B : Nat} {v : Value} {ks : List Str} (h : OwnS w B v ks) : ∀ g, v.ownBlock = some g → B ≤ g ∧ g < w.heap.size := World.ownsRow.lt h
theorem lookL {w : World} {F : Nat → Prop} {d room : Nat} {X : List (Str × Fil)} (h : Shell w F d room X) {k : Str} {a : Fil} (hk : k.length ≤ maxLen) (hg : getK k X = some a) : ∃ mv, w.cell? ⟨d, 2, none⟩ = some (.map mv) ∧ (Instr.lookup 70 (.map mv) (encStr k) false).run Try.prog w = .ok (filV a) w := by
  obtain ⟨mv, hB, hm⟩ := h.cells
  refine ⟨mv, hB.cell 2, ?_⟩
  rcases hm with ⟨_, rfl⟩ | ⟨b, rfl, _, hm⟩
  · cases hg
  · have := look_val hm ⟨k.toArray⟩ (by simpa [ByteArray.size] using hk)
    have e : (⟨k.toArray⟩ : ByteArray).data.toList = k := by simp
    rw [e, hg] at this
    exact this
theorem lay_name (F : Nat → Prop) (d room : Nat) (X : List (Str × Fil)) (k : Str) (A : Option Addr) (n c l : Nat) (xs : List Nat) (w : World) (hS : Shell w F d room X) (hf : Files w F (delK k X)) (hs : k.length ≤ 64) (hn : xs.length = n) (hl : l ≤ n)
    (ho : Own w 0 (.slice A n c) xs) (hb : ∀ x ∈ xs, x < 256) (hF : ∀ g, (Value.slice A n c).ownBlock = some g → F g ∧ ∀ p ∈ delK k X, p.2.1.ownBlock ≠ some g)
    (hu : sumK filL (delK k X) + n ≤ room) (hfew : (getK k X).isSome = true ∨ X.length < 256) :
    Calls Try.prog 47 #[.pointer (some ⟨d, 0, none⟩), encStr k, .agg #[.slice A n c, .int .i64 l]] w fun e w' => e = .returned (.tuple #[]) ∧
      ∃ F', DiskAt w' F' d room (putK k (xs, l) (absX X)) ∧ Next F w F' w' :=
  lay_disk F d room X ⟨k.toArray⟩ A n c l xs w hS hf hs hn hl ho hb hF hu hfew
set_option maxRecDepth 100000 in
set_option maxHeartbeats 3200000 in
theorem crash_core (F : Nat → Prop) (d room : Nat) (L : DiskL) (z : Int) (draw : Nat) (w : World) (hD : DiskAt w F d room L) (hz : max z 0 = (draw : Int)) :
    Calls Try.prog 13 #[.pointer (some ⟨d, 0, none⟩), .int .i64 z] w fun e w' => e = .returned (.tuple #[]) ∧ ∃ F', DiskAt w' F' d room (crashD draw L) ∧ Next F w F' w' := by
  obtain ⟨hrise, hlen, hul, hr, hby, hkl⟩ := hD.facts
  clear hul hby
  have HL := hide (list_any F d room L w hD)
  have HD := hide hD
  have HR := hide hrise
  have HK := hide hkl
  have HZ := hide hz
  obtain ⟨ks, hks⟩ : ∃ ks, ks = L.map (·.1) := ⟨_, rfl⟩
  rw [← hks] at HL
  obtain ⟨N, hN⟩ : ∃ N, N = ks.length := ⟨_, rfl⟩
  have hNL : N = L.length := by rw [hN, hks, List.length_map]
  rw [← hNL] at hlen
  have HKS := hide hks
  have HN := hide hN
  have HNL := hide hNL
  clear hD hrise hkl hN hks hNL
  go_enter Try.func13, Try.ntmps13
  go_wp2_with fail
  refine HL.out.mono ?_
  rintro e w1 ⟨v, rfl, o1, k1⟩
  obtain ⟨A1, c1, rfl, hc1, hc2, hcell1⟩ := o1.form
  clear hcell1
  rw [← HN.out] at o1 hc1 ⊢
  have D1 := hide (HD.out.below k1)
  have N1 := hide (Next.of_below F k1)
  have O1 : Hid (OwnS w1 w.heap.size (.slice A1 N c1) ks ∧ ∀ g, (Value.slice A1 N c1).ownBlock = some g → ¬ F g) := ⟨o1, fun g hg hf => by
    have h1 := (o1.lt g hg).1
    have h2 := HD.out.low g hf
    omega⟩
  clear o1 k1 HL
  go_wp2_with fail
  go_loopw [13] (fun i wr => ∃ (j : Nat) (F' : Nat → Prop), j ≤ N ∧ i = .int .i64 (j : Int) ∧ Hid (DiskAt wr F' d room (crashTo draw j L)) ∧ Hid (Next F w F' wr) ∧ Hid (OwnS wr w.heap.size (.slice A1 N c1) ks ∧ ∀ g, (Value.slice A1 N c1).ownBlock = some g → ¬ F' g)) (fun i _ => N - (intOf i).toNat)
  case atStart => exact ⟨0, F, Nat.zero_le _, rfl, by unfold Hid; rw [crashTo_zero]; exact D1.out, N1, O1⟩
  case round =>
    obtain ⟨j, F', hj, rfl, hDj, hNj, hOj⟩ := hrel
    by_cases hlt : j < N
    · obtain ⟨A2, c2, e2, _, _, hcell⟩ := hOj.out.1.form
      have hjL : j < L.length := by rw [← HNL.out]; exact hlt
      obtain ⟨g, rfl, hg1, hg2, hck⟩ := hcell j (by rw [← HN.out]; exact hlt)
      obtain ⟨rfl, e2a, rfl⟩ : A1 = some ⟨g, 0, none⟩ ∧ N = ks.length ∧ c1 = c2 := by cases e2; exact ⟨rfl, rfl, rfl⟩
      clear e2 e2a
      obtain ⟨k, hk⟩ : ∃ k, k = ks.getD j [] := ⟨_, rfl⟩
      have hkL : L[j].1 = k := by rw [hk, HKS.out]; simp [hjL]
      rw [← hk] at hck
      obtain ⟨xs, l, hxl⟩ : ∃ xs l, L[j].2 = (xs, l) := ⟨_, _, rfl⟩
      have hget := crashTo_get draw j L HR.out hjL
      have hstep := crashTo_step draw j L HR.out hjL
      rw [hkL, hxl] at hget hstep
      obtain ⟨X, A, c, hX, hS, hf, hx, ho, hb, hl, hn30⟩ := disk_found hDj.out hget
      obtain ⟨n, hn⟩ : ∃ n, n = xs.length := ⟨_, rfl⟩
      rw [← hn] at hx ho hl hn30
      have hk64 : k.length ≤ 64 := hS.names _ (getK_mem hx)
      obtain ⟨mv, cm, hlook⟩ := lookL hS (by unfold maxLen; omega) hx
      have hlook : (Instr.lookup 70 (.map mv) (encStr k) false).run Try.prog wr = .ok (.agg #[.slice A n c, .int .i64 (l : Int)]) wr := hlook
      have hdl : d < wr.heap.size := hS.low d hS.own
      have HX := hide hX
      have HS := hide hS
      have HF := hide hf
      have HGX := hide hx
      have HO := hide ho
      have HB := hide hb
      have HNX := hide hn
      have HST := hide hstep
      have HLK := hide hlook
      clear hk hkL hxl hget hstep hX hS hf hx ho hb hn hlook hcell
      go_wp2_with (at_lookup; refine halt ?_)
      refine ⟨?_⟩
      refine wpList_lookup_run rfl _ _ _ _ rfl _ _ _ rfl rfl HLK.out ?_
      obtain ⟨q1, hq1⟩ : ∃ q1, q1 = draw % (n - l + 1) := ⟨_, rfl⟩
      obtain ⟨q2, hq2⟩ : ∃ q2, q2 = (q1 + j) % (n - l + 1) := ⟨_, rfl⟩
      have hu1 : q1 < n - l + 1 := by rw [hq1]; exact Nat.mod_lt _ (by omega)
      have hu2 : q2 < n - l + 1 := by rw [hq2]; exact Nat.mod_lt _ (by omega)
      have eu : (n : Int) - (l : Int) + 1 = ((n - l + 1 : Nat) : Int) := by omega
      have r1 : (draw : Int).tmod ((n : Int) - (l : Int) + 1) = (q1 : Int) := by
        rw [eu, hq1, Int.tmod_eq_emod_of_nonneg (by omega)]
        exact (Int.natCast_emod _ _).symm
      have r2 : ((q1 : Int) + (j : Int)).tmod ((n : Int) - (l : Int) + 1) = (q2 : Int) := by
        rw [eu, hq2, Int.tmod_eq_emod_of_nonneg (by omega)]
        have e : (q1 : Int) + (j : Int) = ((q1 + j : Nat) : Int) := by omega
        rw [e]
        exact (Int.natCast_emod _ _).symm
      have hnz : ¬ ((n : Int) - (l : Int) + 1 = 0) := by omega
      obtain ⟨m, hm⟩ : ∃ m, m = l + q2 := ⟨_, rfl⟩
      have HKK : Hid ((l : Int) + (q2 : Int) = (m : Int)) := by unfold Hid; omega
      have hmn : m ≤ n := by omega
      have hlm : l ≤ m := by omega
      have C1 : Hid (crash1 draw j (xs, l) = (xs.take m, m)) := by
        unfold Hid crash1
        simp only
        rw [← HNX.out, ← hq1, ← hq2, ← hm]
      have hb1 : q1 ≤ 1073741824 := by omega
      have hb2 : q2 ≤ 1073741824 := by omega
      have hjb : j ≤ 256 := by omega
      have hw1 : IntKind.i64.wrap ((q1 : Int) + (j : Int)) = (q1 : Int) + (j : Int) := by rw [IntKind.wrap_i64]; omega
      have hw2 : IntKind.i64.wrap ((l : Int) + (q2 : Int)) = (l : Int) + (q2 : Int) := by rw [IntKind.wrap_i64]; omega
      clear hq1 hq2 eu hm
      go_wp2_with fail
      have ka := below_alloc wr (.cells #[.slice A n c, .int .i64 (l : Int)] 93)
      have b2 := Blk.new (B := 0) wr 93 #[.slice A n c, .int .i64 (l : Int)] (Nat.zero_le _)
      have es : (wr.alloc (.cells #[.slice A n c, .int .i64 (l : Int)] 93)).heap.size = wr.heap.size + 1 := by simp
      obtain ⟨W2, hW2⟩ : ∃ W2, W2 = wr.alloc (.cells #[.slice A n c, .int .i64 (l : Int)] 93) := ⟨_, rfl⟩
      rw [← hW2] at ka b2 es ⊢
      have f0 : W2.cell? ⟨wr.heap.size, 0, none⟩ = some (.slice A n c) := b2.cell 0
      have f1 : W2.cell? ⟨wr.heap.size, 1, none⟩ = some (.int .i64 (l : Int)) := b2.cell 1
      have B2 := hide b2
      have KA := hide ka
      have ES := hide es
      have IO := hide (HO.out.isB.keep ka)
      clear ka b2 es hW2
      go_cut [] from 31 to 51 (fun wc => Hid (∃ A5 c5, Own wc W2.heap.size (.slice A5 m c5) (xs.take m) ∧ Blk wc 0 93 wr.heap.size [.slice A5 m c5, .int .i64 (l : Int)] ∧ W2.grownBy wc (some wr.heap.size)))
      case first =>
        go_region_with (go_at_call 46; rw [HKK.out]; refine (cutF_any A n c l m xs _ (by exact IO.out) HNX.out.symm (by omega) (by omega)).mono ?_; rintro e w5 ⟨A5, c5, rfl, o5, k5⟩; have K5 : Below W2.heap.size W2 w5 := ⟨k5.os, k5.tape, k5.output, k5.size, k5.block⟩; have B5 := B2.out.keep K5; have f05 : w5.cell? ⟨wr.heap.size, 0, none⟩ = some (.slice A n c) := B5.cell 0; have f15 : w5.cell? ⟨wr.heap.size, 1, none⟩ = some (.int .i64 (l : Int)) := B5.cell 1; have z0 := B5.frozen 0; have z1 := B5.frozen 1)
        all_goals
          have B7 := (B5.stored 0 (.slice A5 m c5)).stored 1 (.int .i64 (l : Int))
          have g7 : w5.grownBy ((w5.setCell ⟨wr.heap.size, 0, none⟩ (.slice A5 m c5)).setCell ⟨wr.heap.size, 1, none⟩ (.int .i64 (l : Int))) (some wr.heap.size) := (grown_set w5 _ 0 _).trans (grown_set _ _ 1 _)
          have o5' : Own w5 W2.heap.size (.slice A5 m c5) (xs.take m) := o5
          have o7 : Own ((w5.setCell ⟨wr.heap.size, 0, none⟩ (.slice A5 m c5)).setCell ⟨wr.heap.size, 1, none⟩ (.int .i64 (l : Int))) W2.heap.size (.slice A5 m c5) (xs.take m) := by
            refine o5'.turn (Turn.of_grown g7) ?_
            intro i hi e
            have e : i = wr.heap.size := by simpa using e
            have h1 := (o5'.lt i hi).1
            have h2 := ES.out
            omega
          have G7 : W2.grownBy ((w5.setCell ⟨wr.heap.size, 0, none⟩ (.slice A5 m c5)).setCell ⟨wr.heap.size, 1, none⟩ (.int .i64 (l : Int))) (some wr.heap.size) := World.grownBy.trans ⟨K5.os, K5.tape, K5.output, K5.size, fun i hi _ => K5.block i hi⟩ g7
          have KE := hide (And.intro o7 (And.intro B7 G7))
          clear B7 g7 o7 G7 o5 o5' k5 f05 f15 z0 z1
          go_wp2_with fail
          go_meet
          case rel => exact ⟨A5, c5, KE.out.1, KE.out.2.1, KE.out.2.2⟩
      case rest =>
        clear f0 f1 r1 r2 hw1 hw2
        obtain ⟨A5, c5, oc, bc, gc⟩ := hcut.out
        have kc : Below wr.heap.size wr wc := KA.out.grown gc KA.out.size (fun i e => by cases e; exact Nat.le_refl _)
        have x0 : wc.cell? ⟨wr.heap.size, 0, none⟩ = some (.slice A5 m c5) := bc.cell 0
        have x1 : wc.cell? ⟨wr.heap.size, 1, none⟩ = some (.int .i64 (l : Int)) := bc.cell 1
        have y1 := bc.frozen 1
        have g8 := grown_set wc wr.heap.size 1 (.int .i64 (m : Int))
        have k8 : Below wr.heap.size wr (wc.setCell ⟨wr.heap.size, 1, none⟩ (.int .i64 (m : Int))) := kc.grown g8 kc.size (fun i e => by cases e; exact Nat.le_refl _)
        have o8 : Own (wc.setCell ⟨wr.heap.size, 1, none⟩ (.int .i64 (m : Int))) W2.heap.size (.slice A5 m c5) (xs.take m) := oc.turn (Turn.of_grown g8) (fun i hi e => by
          have e : i = wr.heap.size := by simpa using e
          have h1 := (oc.lt i hi).1
          have h2 := ES.out
          omega)
        have o8' : Own (wc.setCell ⟨wr.heap.size, 1, none⟩ (.int .i64 (m : Int))) wr.heap.size (.slice A5 m c5) (xs.take m) := o8.down KA.out.size
        have OO := hide (off_others (k := k) HF.out HS.out.low o8')
        have S8 := hide ((HS.out.below k8).more (F' := fun g => F' g ∨ (Value.slice A5 m c5).ownBlock = some g) (fun g => .inl) (fun g hg => by
          rcases hg with h | h
          · exact Nat.lt_of_lt_of_le (HS.out.low g h) k8.size
          · exact (o8.lt g h).2))
        have F8 := hide (((HF.out.turn (S := fun _ => False) (Turn.of_below _ k8) (fun _ _ => id)).sub (fun p (hp : p ∈ delK k X) => (mem_delK.1 hp).1)).u8 (U8.refl _) (F' := fun g => F' g ∨ (Value.slice A5 m c5).ownBlock = some g) (fun g => .inl))
        have HG : Hid (∀ g, (F' g ∨ (Value.slice A5 m c5).ownBlock = some g) → F' g ∨ wr.heap.size ≤ g) := fun g hg => by
          rcases hg with h | h
          · exact .inl h
          · exact .inr (o8'.lt g h).1
        have O8 := hide (o8.down (Nat.zero_le _))
        have K8 := hide k8
        have HT : Hid ((xs.take m).length = m) := by unfold Hid; rw [List.length_take, ← HNX.out]; omega
        have HU : Hid (sumK filL (delK k X) + m ≤ room) := by
          have h1 := sumK_del filL k HS.out.rise
          rw [HGX.out] at h1
          have h4 : ((some ((Value.slice A n c, xs, l) : Fil)).map filL).getD 0 = xs.length := rfl
          rw [h4, ← HNX.out] at h1
          have h2 := HS.out.used
          unfold Hid
          omega
        clear oc bc gc kc g8 k8 o8 o8' hcut
        go_wp2_with fail
        clear x0 x1 y1
        refine (lay_name _ d room X k A5 m c5 m (xs.take m) _ S8.out F8.out hk64 HT.out (Nat.le_refl _) O8.out (fun x hx => HB.out x (List.mem_of_mem_take hx)) (fun g hg => ⟨.inr hg, OO.out g hg⟩) HU.out (.inl (by rw [HGX.out]; rfl))).mono ?_
        rintro e w9 ⟨rfl, F9, d9, n9⟩
        have n9' : Next F' wr F9 w9 := Next.of_more (Turn.of_below F' K8.out) n9 HG.out
        rw [← HX.out, ← C1.out, HST.out] at d9
        have o9 : OwnS w9 w.heap.size (.slice (some ⟨g, 0, none⟩) N c1) ks := hOj.out.1.turn n9'.turn (fun i hi hf => hOj.out.2 i hi hf)
        have D9 := hide d9
        have N9 := hide (hNj.out.trans n9')
        have O9 : Hid (OwnS w9 w.heap.size (.slice (some ⟨g, 0, none⟩) N c1) ks ∧ ∀ i, (Value.slice (some ⟨g, 0, none⟩) N c1).ownBlock = some i → ¬ F9 i) := ⟨o9, fun i hi hf => by
          rcases n9'.foot i hf with h | h
          · exact hOj.out.2 i hi h
          · have := (hOj.out.1.lt i hi).2
            omega⟩
        clear d9 n9 n9' o9
        go_wp2_with fail
        go_roundw
        case rel => exact ⟨j + 1, F9, by omega, by go_num, D9, N9, O9⟩
        case measure => simp [intOf]; omega
    · obtain rfl : j = N := by omega
      have d9 := hDj.out
      rw [HNL.out, crashTo_all] at d9
      have KE := hide (And.intro d9 hNj.out)
      clear d9
      go_wp2_with fail
      go_end0
      exact ⟨rfl, F', KE.out⟩
theorem crash_any (F : Nat → Prop) (d room : Nat) (L : DiskL) (z : Int) (w : World) (hD : DiskAt w F d room L) :
    Calls Try.prog 13 #[.pointer (some ⟨d, 0, none⟩), .int .i64 z] w fun e w' => e = .returned (.tuple #[]) ∧ ∃ F', DiskAt w' F' d room (crashD z.toNat L) ∧ Next F w F' w' :=
  crash_core F d room L z z.toNat w hD (by omega)
end Go.Proofs.Ytehgjkckhjggbaa
namespace Go.Proofs.Ytehgjkckhjggbaa
open Go.RowKit Go.Maps
section
variable (F : Nat → Prop) (d room : Nat) (L : DiskL) (s : ByteArray) (w : World) (hD : DiskAt w F d room L) (hs : s.size ≤ 1099511627776)
include hD hs
theorem sync_any : Calls Try.prog 81 #[.pointer (some ⟨d, 0, none⟩), .string s] w fun e w' => e = .returned (.int .i64 ((syncL s.data.toList L).2 : Nat)) ∧ ∃ F', DiskAt w' F' d room (syncL s.data.toList L).1 ∧ Next F w F' w' := by
  unfold syncL
  rcases hg : getK s.data.toList L with _ | ⟨xs, l⟩
  · refine (sync_none F d room L s w hD hs hg).mono ?_
    rintro e w' ⟨rfl, k⟩
    exact ⟨rfl, F, hD.below k, Next.of_below F k⟩
  · exact sync_some F d room L s xs l w hD hs hg
theorem remove_any : Calls Try.prog 40 #[.pointer (some ⟨d, 0, none⟩), .string s] w fun e w' => e = .returned (.int .i64 ((remL s.data.toList L).2 : Nat)) ∧ ∃ F', DiskAt w' F' d room (remL s.data.toList L).1 ∧ Next F w F' w' := by
  unfold remL
  rcases hg : getK s.data.toList L with _ | a
  · refine (remove_none F d room L s w hD hs hg).mono ?_
    rintro e w' ⟨rfl, k⟩
    exact ⟨rfl, F, hD.below k, Next.of_below F k⟩
  · refine (remove_some F d room L s a w hD hs hg).mono ?_
    rintro e w' ⟨rfl, h, k⟩
    exact ⟨rfl, F, h, k⟩
theorem cutD_any (z : Int) : Calls Try.prog 50 #[.pointer (some ⟨d, 0, none⟩), .string s, .int .i64 z] w fun e w' => e = .returned (.int .i64 ((cutL s.data.toList z L).2 : Nat)) ∧ ∃ F', DiskAt w' F' d room (cutL s.data.toList z L).1 ∧ Next F w F' w' := by
  unfold cutL
  rcases hg : getK s.data.toList L with _ | ⟨xs, l⟩
  · refine (cutD_none F d room L s z w hD hs hg).mono ?_
    rintro e w' ⟨rfl, k⟩
    exact ⟨rfl, F, hD.below k, Next.of_below F k⟩
  · dsimp only
    by_cases hz : z < 0 ∨ (xs.length : Int) < z
    · rw [if_pos hz]
      refine (cutD_arg F d room L s xs l z w hD hs hg hz).mono ?_
      rintro e w' ⟨rfl, k⟩
      exact ⟨rfl, F, hD.below k, Next.of_below F k⟩
    · rw [if_neg hz]
      obtain ⟨k, rfl⟩ : ∃ k : Nat, z = (k : Int) := ⟨z.toNat, by omega⟩
      exact cutD_ok F d room L s xs l k w hD hs hg (by omega)
theorem read_any : Calls Try.prog 48 #[.pointer (some ⟨d, 0, none⟩), .string s] w fun e w' => ∃ v, e = .returned (.tuple #[v, .int .i64 ((readL s.data.toList L).2 : Nat)]) ∧ Own w' w.heap.size v (readL s.data.toList L).1 ∧ Below w.heap.size w w' := by
  unfold readL
  rcases hg : getK s.data.toList L with _ | ⟨xs, l⟩
  · refine (read_none F d room L s w hD hs hg).mono ?_
    rintro e w' ⟨rfl, k⟩
    exact ⟨_, rfl, World.ownsRow_nil _ _ _ _, k⟩
  · exact read_some F d room L s xs l w hD hs hg
end
end Go.Proofs.Ytehgjkckhjggbaa
namespace Go.Proofs.Ytehgjkckhjggbaa
open Go.RowKit Go.Maps
/-- Bytes are laid behind a file, and last. -/
def layL (room : Nat) (k : Str) (p : List Nat) (L : DiskL) : DiskL × Nat := if (appL room k p L).2 ≠ 0 then appL room k p L else syncL k (appL room k p L).1
theorem vlay_any (F : Nat → Prop) (d room : Nat) (L : DiskL) (s : ByteArray) (P : Option Addr) (m cp : Nat) (p : List Nat) (w : World) (hD : DiskAt w F d room L) (hs : s.size ≤ 1099511627776) (hP : IsB w (.slice P m cp) p) (hm : p.length = m) (hb : ∀ x ∈ p, x < 256) (hmr : m ≤ 1099511627776) :
    Calls Try.prog 39 #[.pointer (some ⟨d, 0, none⟩), .string s, .slice P m cp] w fun e w' => e = .returned (.int .i64 ((layL room s.data.toList p L).2 : Nat)) ∧ ∃ F', DiskAt w' F' d room (layL room s.data.toList p L).1 ∧ Next F w F' w' := by
  have HA := hide (append_any F d room L s P m cp p w hD hs hP hm hb hmr)
  have HS := hide hs
  obtain ⟨c, hc⟩ : ∃ c, c = (appL room s.data.toList p L).2 := ⟨_, rfl⟩
  obtain ⟨L1, hL1⟩ : ∃ L1, L1 = (appL room s.data.toList p L).1 := ⟨_, rfl⟩
  rw [← hc, ← hL1] at HA
  have HL : Hid (layL room s.data.toList p L = if c ≠ 0 then (L1, c) else syncL s.data.toList L1) := hide (by unfold layL; rw [← hc, ← hL1, show appL room s.data.toList p L = (L1, c) by rw [hL1, hc]])
  clear hD hs hP hm hb hmr hc hL1
  go_enter Try.func39, Try.ntmps39
  go_wp2_with fail
  refine HA.out.mono ?_
  rintro e w1 ⟨rfl, F1, d1, n1⟩
  by_cases h0 : c = 0
  · subst h0
    have HD := hide d1
    have HN := hide n1
    clear d1 n1 HA
    go_wp2_with fail
    refine (sync_any F1 d room L1 s w1 HD.out HS.out).mono ?_
    rintro e w2 ⟨rfl, F2, d2, n2⟩
    have H2 := hide d2
    have N2 := hide n2
    clear d2 n2
    go_wp2_with fail
    go_ret
    rw [HL.out]
    exact ⟨rfl, F2, H2.out, HN.out.trans N2.out⟩
  · have hc0 : ((c : Int) != 0) = true := by simp; omega
    have HD := hide d1
    have HN := hide n1
    have HC := hide h0
    clear d1 n1 HA h0
    go_wp2_with fail
    go_ret
    rw [HL.out, if_pos HC.out]
    exact ⟨rfl, F1, HD.out, HN.out⟩
end Go.Proofs.Ytehgjkckhjggbaa
