/- The contract of strip.File. Condition: at most 900000 bytes. The contracts of strip's number and summed. Condition: as many bytes as they are handed there. A region in a round that draws its order, does not panic, and whose last store turns what others load. It names nothing of the program. The contract of strip.Read. Condition: at most 900000 bytes. -/
import Derived.Test.YtehgjkckhjggbaaSf16
import Derived.Test.YtehgjkckhjggbaaSf9
import Derived.Test.YtehgjkckhjggbaaSf15
import Derived.Test.YtehgjkckhjggbaaSf3
import Derived.Test.YtehgjkckhjggbaaSf10
import Derived.Test.YtehgjkckhjggbaaSf7
namespace Go.Proofs.Ytehgjkckhjggbaa
open Go.RowKit
attribute [local go_sem] Oper.semAt_some
theorem own_nilS (w : World) (B : Nat) : Own w B (.slice none 0 0) [] := World.ownsRow_nil _ _ _ _
set_option maxRecDepth 100000 in
set_option maxHeartbeats 3200000 in
theorem file_any (id i size : Int) (A : Option Addr) (n c : Nat) (rows : List Nat) (w : World) (hA : IsB w (.slice A n c) rows) (hn : rows.length = n) (hb : ∀ x ∈ rows, x < 256) (h9 : n ≤ 900000) :
    Calls Try.prog 32 #[.int .i64 id, .int .i64 i, .int .i64 size, .slice A n c] w fun e w' => ∃ s, e = .returned (.tuple #[s, .int .i64 (fileE id i size rows)]) ∧ Own w' w.heap.size s (fileL id i size rows) ∧ Below w.heap.size w w' := by
  have HH := hide (ishead_any id i size w)
  by_cases hok : okHead id i size
  · rw [decide_eq_true hok] at HH
    by_cases hn0 : n = 0
    · have e1 : fileE id i size rows = 1 := if_pos (.inr (.inl (by omega)))
      have e2 : fileL id i size rows = [] := if_pos (.inr (.inl (by omega)))
      rw [e1, e2]
      clear e1 e2 hok hA hn hb
      subst hn0
      go_enter Try.func32, Try.ntmps32
      go_wp2_with fail
      refine HH.out.mono ?_
      rintro e w1 ⟨rfl, rfl⟩
      go_wp2_with fail
      go_ret2
      exact ⟨_, rfl, World.ownsRow_nil _ _ _ _, Below.refl _ _⟩
    · by_cases hn16 : n % 16 = 0
      · have hno : ¬ fileBad id i size rows.length := by
          rintro (h | h | h)
          · exact h hok
          · omega
          · omega
        have e1 : fileE id i size rows = 0 := if_neg hno
        have e2 : fileL id i size rows = fileB id.toNat i.toNat size.toNat rows := if_neg hno
        rw [e1, e2]
        obtain ⟨⟨h1, h2⟩, ⟨h3, h4⟩, h5, h6⟩ := hok
        obtain ⟨a, rfl⟩ : ∃ a : Nat, id = (a : Int) := ⟨id.toNat, by omega⟩
        obtain ⟨j, rfl⟩ : ∃ j : Nat, i = (j : Int) := ⟨i.toNat, by omega⟩
        obtain ⟨s, rfl⟩ : ∃ s : Nat, size = (s : Int) := ⟨size.toNat, by omega⟩
        rw [Int.toNat_natCast, Int.toNat_natCast, Int.toNat_natCast]
        have HD := hide (headof_any a j s w (by omega) (by omega) (by omega))
        obtain ⟨N, hN⟩ : ∃ N, N = n / 16 := ⟨_, rfl⟩
        have hnN : n = N * 16 := by omega
        have hN1 : 1 ≤ N := by omega
        have hE : fileB a j s rows = sumd (head16 a j s) ++ sumdRows rows N := by unfold fileB; rw [hn, ← hN]
        rw [hE]
        obtain ⟨ab, ao, rfl⟩ := isB_at hA (by omega)
        have hnc := (isB_len hA).2
        have HA := hide hA
        have HN := hide hn
        have HB := hide hb
        have hm16 : (n : Int) % 16 = 0 := by omega
        have HNN := hide hnN
        have HN1 := hide hN1
        have hn1 : 1 ≤ n := by omega
        have hn0z : ((n : Int) == 0) = false := by simp; omega
        clear e1 e2 h1 h2 h3 h4 h5 h6 hA hn hb hE hno hnN hN hN1 hn16
        refine calls_marks Try.func32 rfl ?_
        simp only [Try.ntmps32, List.size_toArray, List.length_cons, List.length_nil, Nat.reduceAdd, Nat.reduceSub, Array.replicate_succ, Array.replicate_zero, List.push_toArray, List.append_toArray, List.nil_append, List.cons_append]
        go_wp2_with fail
        refine HH.out.mono ?_
        rintro e w1 ⟨rfl, rfl⟩
        go_wp2_with fail
        refine HD.out.mono ?_
        rintro e w2 ⟨s2, rfl, o2, k2⟩
        obtain ⟨A2, c2, rfl, i2, l2, m2⟩ := o2.isB.form (n := 16) rfl
        have K2 := hide k2
        have I2 := hide i2
        clear o2 k2 i2 HD HH
        go_wp2_with fail
        refine (appsum_any (own_nilS w2 w2.heap.size) (Nat.le_refl _) A2 16 c2 (head16 a j s) I2.out rfl (head16_byte _ _ _) (fun _ _ e => by cases e) (by decide)).mono ?_
        rintro e w3 ⟨A3, c3, rfl, o3, t3, l3⟩
        have o3 : Own w3 w2.heap.size (.slice A3 20 c3) (sumd (head16 a j s)) := o3
        have k3 : Below w2.heap.size w2 w3 := ⟨t3.os, t3.tape, t3.output, t3.size, fun k hk => t3.block k hk (fun e => by cases e)⟩
        rw [show ([] : List Nat).length + 16 + 4 = 20 from rfl]
        have O3 := hide o3
        have K3 := hide (K2.out.trans (k3.mono K2.out.size))
        have L3 : Hid (∀ g, (Value.slice A3 20 c3).ownBlock = some g → w2.heap.size ≤ g) := hide (fun g hg => (l3 g hg).elim (fun e => by cases e) id)
        have K23 := hide k3
        clear o3 k3 t3 l3 I2
        go_wp2_with fail
        obtain ⟨z, hz⟩ : ∃ z, z = w3.heap.size := ⟨_, rfl⟩
        have k4 := below_alloc w3 (.cells #[.slice A3 20 c3] 23)
        have b4 := Blk.new w3 (B := 0) 23 #[.slice A3 20 c3] (Nat.zero_le _)
        have s4 : (w3.alloc (.cells #[.slice A3 20 c3] 23)).heap.size = w3.heap.size + 1 := by simp
        obtain ⟨W4, hW4⟩ : ∃ W, W = w3.alloc (.cells #[.slice A3 20 c3] 23) := ⟨_, rfl⟩
        rw [← hW4] at k4 b4 s4 ⊢
        refine (chunk_any (some ⟨ab, ao, none⟩) n c 16 W4 (by omega)).mono ?_
        rintro e w5 ⟨rfl, rfl⟩
        have s5 : ((W4.alloc (.cells #[.slice (some ⟨ab, ao, none⟩) n c] 23)).alloc (.cells #[.int .i64 ((16 : Nat) : Int)] 3)).heap.size = W4.heap.size + 2 := by simp
        have ka := below_alloc W4 (.cells #[.slice (some ⟨ab, ao, none⟩) n c] 23)
        have kb := below_alloc (W4.alloc (.cells #[.slice (some ⟨ab, ao, none⟩) n c] 23)) (.cells #[.int .i64 ((16 : Nat) : Int)] 3)
        have ba := (Blk.new W4 (B := 0) 23 #[.slice (some ⟨ab, ao, none⟩) n c] (Nat.zero_le _)).keep kb
        have bb := Blk.new (W4.alloc (.cells #[.slice (some ⟨ab, ao, none⟩) n c] 23)) (B := 0) 3 #[.int .i64 ((16 : Nat) : Int)] (Nat.zero_le _)
        have sa : (W4.alloc (.cells #[.slice (some ⟨ab, ao, none⟩) n c] 23)).heap.size = W4.heap.size + 1 := by simp
        have kk := ka.trans (kb.mono (by omega))
        have b6 := (b4.keep ka).keep kb
        have o6 := (O3.out.keep k4).keep kk
        have k6 := K3.out.trans ((k4.trans (kk.mono (by omega))).mono K3.out.size)
        have k26 := K23.out.trans ((k4.trans (kk.mono (by omega))).mono K23.out.size)
        rw [sa] at bb
        obtain ⟨W6, hW6⟩ : ∃ W, W = (W4.alloc (.cells #[.slice (some ⟨ab, ao, none⟩) n c] 23)).alloc (.cells #[.int .i64 ((16 : Nat) : Int)] 3) := ⟨_, rfl⟩
        rw [← hW6] at s5 ba bb b6 o6 k6 k26 ⊢
        rw [s4, ← hz] at ba bb s5
        rw [← hz] at b6 ⊢
        have lz : Hid (∀ g, (Value.slice A3 20 c3).ownBlock = some g → w2.heap.size ≤ g ∧ g < z) := hide (fun g hg => ⟨L3.out g hg, by rw [hz]; exact (O3.out.lt g hg).2⟩)
        have BA := hide ba
        have BB := hide bb
        have B6 := hide b6
        have O6 := hide o6
        have K6 := hide k6
        have K26 := hide k26
        have hzs : W6.heap.size = z + 3 := by omega
        have hs41 : W4.heap.size = z + 1 := by rw [s4, hz]
        have HZW : Hid (w.heap.size ≤ w2.heap.size ∧ w2.heap.size ≤ z) := hide ⟨K2.out.size, by rw [hz]; exact K23.out.size⟩
        have hab : ab < w.heap.size := by
          obtain ⟨b', o', e, hc'⟩ := HA.out.rd (by intro e; have h9 := HN.out; rw [e] at h9; simp at h9; omega)
          cases e
          exact cell_lt (hc' 0 (by rw [HN.out]; omega))
        clear k4 b4 s4 hW4 s5 ka kb ba bb sa kk b6 o6 k6 k26 hW6 hz K3 K2 O3 L3 K23
        rw [hs41]
        clear hs41
        go_wp2_with fail
        refine wp_range (gf := 108) (pb := #[]) (lb := #[.pointer (some ⟨z + 1, 0, none⟩), .pointer (some ⟨z + 2, 0, none⟩)]) rfl (enters_of Try.func108 (by kernel_rfl) rfl)
          (R := chunkR ab ao 16) (St := fun A B => B = A.drew) (S := fun k => k = z ∨ (Value.slice A3 20 c3).ownBlock = some k ∨ z + 5 ≤ k) (N := N) ?seq ?sd ?sl ?st ?ps ?hr
          (fun i A => ∃ A' c', Blk A 0 23 z [.slice A' (20 + i * 20) c'] ∧ Own A w2.heap.size (.slice A' (20 + i * 20) c') (sumd (head16 a j s) ++ sumdRows rows i) ∧ (∀ g, (Value.slice A' (20 + i * 20) c').ownBlock = some g → (Value.slice A3 20 c3).ownBlock = some g ∨ z + 5 ≤ g) ∧ Turn (fun k => (k = z ∨ (Value.slice A3 20 c3).ownBlock = some k ∨ z + 5 ≤ k) ∨ k = z + 4) W6 A)
          (fun _ _ _ => False) ?i ?ix ?il ?ixl ?i0 ?round ?done ?stop
        case seq =>
          intro r
          have b61 : Below W6.heap.size W6 ((W6.alloc (.deferred (some []))).alloc (.loop r)) := (below_alloc _ _).trans ((below_alloc _ _).mono (by simp))
          have c1 := (BA.out.keep b61).cell 0
          have c2 := (BB.out.keep b61).cell 0
          refine chunk_seq ab ao n c 16 N (z + 1) (z + 2) _ _ (by omega) (by omega) HNN.out (by omega) (by omega) (by omega) c1 c2 ?_ ?_
          · rintro ((e | e | e) | e)
            · omega
            · have := (lz.out _ e).2; omega
            · omega
            · omega
          · rintro ((e | e | e) | e)
            · omega
            · have := (lz.out _ e).2; omega
            · omega
            · omega
        case sd =>
          rintro (e | e | e)
          · omega
          · have := (lz.out _ e).2; omega
          · omega
        case sl =>
          rintro (e | e | e)
          · omega
          · have := (lz.out _ e).2; omega
          · omega
        case st => rintro A B k o rfl _ h; exact h
        case ps => rintro i vs A rfl; rfl
        case hr => exact fun _ _ _ _ _ h _ => h
        case i =>
          rintro i A B ⟨A', c', hb, ho, hl, ht⟩ rfl
          exact ⟨A', c', hb, ho, hl, ⟨ht.os, ht.tape, ht.output, ht.size, ht.block⟩⟩
        case ix => exact fun _ _ _ _ h _ => h
        case il =>
          rintro i A r r' ⟨A', c', hb, ho, hl, ht⟩ hL
          have tp : Turn (fun k => k = W6.heap.size + 1) A (A.putObj (W6.heap.size + 1) (.loop r')) := Turn.put _ _ _ rfl
          refine ⟨A', c', hb.turn tp (by omega), ho.turn tp (fun g hg e => ?_), hl, ht.trans (tp.mono (fun k e => .inr (by omega)))⟩
          have e : g = W6.heap.size + 1 := e
          rcases hl g hg with q | q
          · have := (lz.out g q).2; omega
          · omega
        case ixl => exact fun _ _ _ _ _ h _ => h
        case i0 =>
          intro r
          have b61 : Below W6.heap.size W6 ((W6.alloc (.deferred (some []))).alloc (.loop r)) := (below_alloc _ _).trans ((below_alloc _ _).mono (by simp))
          exact ⟨A3, c3, B6.out.keep b61, by simpa [sumdRows] using O6.out.keep b61, fun g hg => .inl hg, Turn.of_below _ b61⟩
        case stop => exact fun _ _ _ _ h _ => h.elim
        case done =>
          rintro W ⟨A', c', hb, ho, hl, ht⟩ hK
          have c0 : W.cell? ⟨z, 0, none⟩ = some (.slice A' (20 + N * 20) c') := hb.cell 0
          have HO := hide ho
          have HLN := hide hl
          have KB : Hid (Below w.heap.size w W) := hide (K6.out.trans (ht.below (by have := HZW.out; omega) (fun k e => by
            have h9 := HZW.out
            rcases e with (e | e | e) | e
            · omega
            · have := (lz.out k e).1; omega
            · omega
            · omega)))
          clear hb ho hl ht
          go_wp2_with fail
          refine ⟨by simp, .inl ⟨_, _, rfl, run_takeDeferred hK, ?_⟩⟩
          refine ⟨_, results_tmp2 rfl _ _ _, .slice A' (20 + N * 20) c', rfl, ?_, ?_⟩
          · exact (HO.out.turn (Turn.put (S := fun k => k = W6.heap.size) W _ _ rfl) (fun g hg e => (HLN.out g hg).elim (fun q => by have e : g = W6.heap.size := e; have := (lz.out g q).2; omega) (fun q => by have e : g = W6.heap.size := e; omega))).more HZW.out.1
          · exact below_put KB.out (by have := HZW.out; omega) _
        case round =>
          rintro l i vs W0 W hi ⟨A', c', hb, ho, hl, ht⟩ rfl hlow
          have c0 : W.cell? ⟨z, 0, none⟩ = some (.slice A' (20 + i * 20) c') := hb.cell 0
          have hxl : (sumd (head16 a j s) ++ sumdRows rows i).length = 20 + i * 20 := by rw [List.length_append, sumd_len, head16_len, sumdRows_len (by rw [HN.out]; exact HNN.out) i (by omega)]
          have hzn : (Value.slice A' (20 + i * 20) c').ownBlock ≠ some z := fun e => by
            rcases hl z e with q | q
            · have := (lz.out z q).2; omega
            · omega
          have hN9 := HNN.out
          have kw : Below w.heap.size w W := K6.out.trans (ht.below (by have := HZW.out; omega) (fun k e => by
            have h9 := HZW.out
            rcases e with (e | e | e) | e
            · omega
            · have := (lz.out k e).1; omega
            · omega
            · omega))
          have hbw : w2.heap.size ≤ W.heap.size := Nat.le_trans K26.out.size ht.size
          have ib : IsB W (.slice (some ⟨ab, ao + i * 16, none⟩) 16 16) (chunkS 16 rows i) := isB_subc (HA.out.keep kw) (i * 16) 16 16 (by have := Nat.mul_le_mul_right 16 (show i + 1 ≤ N by omega); omega) (Nat.le_refl _) (by omega)
          have AC := appsum_any ho hbw (some ⟨ab, ao + i * 16, none⟩) 16 16 (chunkS 16 rows i) ib (chunkS_len (N := N) (by rw [HN.out]; exact hN9) hi) (chunkS_byte HB.out) (fun g hg e => by
            have h7 := (ho.lt g e).1
            have h8 : ab = g := by simpa [Value.ownBlock] using hg
            have h9 := HZW.out.1
            omega) (by rw [hxl]; omega)
          rw [hxl, show 20 + i * 20 + 16 + 4 = 20 + (i + 1) * 20 by omega] at AC
          have AC := hide AC
          have HB6 := hide hb
          have HT := hide ht
          have HL := hide hl
          have HI := hide hi
          have HZN := hide hzn
          have HBW := hide (show z + 5 ≤ W.heap.size by have := hlow (z + 4) (by omega); omega)
          clear hxl hN9 kw hbw ib hb ho ht hl hi hzn hlow
          gi_wp2
          refine ⟨trivial, ?_⟩
          gi_wp2
          refine ⟨trivial, (CallsIn.inRound l (callsIn_wide.2 AC.out)).mono ?_⟩
          rintro e w7 ⟨A7, c7, rfl, o7, t7, l7⟩
          have b7 := HB6.out.turn t7 (fun e => HZN.out e.symm)
          have q7 : w7.cell? ⟨z, 0, none⟩ = some (.slice A' (20 + i * 20) c') := b7.cell 0
          have f7 := b7.frozen 0
          have B7 := hide b7
          have O7 := hide o7
          have T7 := hide t7
          have L7 := hide l7
          clear b7 o7 t7 l7 c0 AC
          gi_wp2
          have hvz : ∀ g, (Value.slice A7 (20 + (i + 1) * 20) c7).ownBlock = some g → (Value.slice A3 20 c3).ownBlock = some g ∨ z + 5 ≤ g := fun g hg => by
            rcases L7.out g hg with q | q
            · exact HL.out g q
            · have := HBW.out; exact .inr (by omega)
          have ts : Turn (fun k => k = z) w7 (w7.setCell ⟨z, 0, none⟩ (.slice A7 (20 + (i + 1) * 20) c7)) := (Turn.of_grown (grown_set w7 z 0 _)).mono (fun j e => by simpa using e)
          have tw : Turn (fun k => k = z ∨ (Value.slice A3 20 c3).ownBlock = some k ∨ z + 5 ≤ k) W (w7.setCell ⟨z, 0, none⟩ (.slice A7 (20 + (i + 1) * 20) c7)) :=
            (T7.out.mono (fun k e => by
              rcases HL.out k e.symm with q | q
              · exact .inr (.inl q)
              · exact .inr (.inr q))).trans (ts.mono (fun k e => .inl e))
          refine ⟨tw, A7, c7, B7.out.stored 0 _, ?_, hvz, HT.out.trans (tw.mono (fun k e => .inl e))⟩
          have e9 : sumd (head16 a j s) ++ sumdRows rows (i + 1) = sumd (head16 a j s) ++ sumdRows rows i ++ sumd (chunkS 16 rows i) := by rw [sumdRows, List.append_assoc]
          rw [e9]
          exact O7.out.turn ts (fun g hg e => by
            have e : g = z := e
            rcases hvz g hg with q | q
            · have := (lz.out g q).2; omega
            · omega)
      · have e1 : fileE id i size rows = 1 := if_pos (.inr (.inr (by omega)))
        have e2 : fileL id i size rows = [] := if_pos (.inr (.inr (by omega)))
        rw [e1, e2]
        obtain ⟨q, hq⟩ : ∃ q, q = n % 16 := ⟨_, rfl⟩
        have hqz : (n : Int) % 16 = (q : Int) := by omega
        have hq0 : ((q : Int) != 0) = true := by simp; omega
        have hq1 : q < 16 := by omega
        have hn0z : ((n : Int) == 0) = false := by simp; omega
        clear e1 e2 hok hA hn hb hq hn16 hn0
        go_enter Try.func32, Try.ntmps32
        go_wp2_with fail
        refine HH.out.mono ?_
        rintro e w1 ⟨rfl, rfl⟩
        go_wp2_with fail
        go_ret2
        exact ⟨_, rfl, World.ownsRow_nil _ _ _ _, Below.refl _ _⟩
  · rw [decide_eq_false hok] at HH
    have e1 : fileE id i size rows = 1 := if_pos (.inl hok)
    have e2 : fileL id i size rows = [] := if_pos (.inl hok)
    rw [e1, e2]
    clear e1 e2 hok hA hn hb
    go_enter Try.func32, Try.ntmps32
    go_wp2_with fail
    refine HH.out.mono ?_
    rintro e w1 ⟨rfl, rfl⟩
    go_wp2_with fail
    go_ret2
    exact ⟨_, rfl, World.ownsRow_nil _ _ _ _, Below.refl _ _⟩
end Go.Proofs.Ytehgjkckhjggbaa
namespace Go.Proofs.Ytehgjkckhjggbaa
open Go.RowKit
theorem val32_takeM {xs : List Nat} {m : Nat} (hm : 4 ≤ m) : val32 (xs.take m) = val32 xs := by
  unfold val32
  have h : ∀ i, i < 4 → (xs.take m).getD i 0 = xs.getD i 0 := fun i hi => by
    simp only [List.getD_eq_getElem?_getD, List.getElem?_take, if_pos (show i < m by omega)]
  rw [h 0 (by omega), h 1 (by omega), h 2 (by omega), h 3 (by omega)]
theorem val32_lim {xs : List Nat} (hb : ∀ x ∈ xs, x < 256) : val32 xs < 4294967296 := by
  unfold val32
  have h0 := getD_lt hb 0
  have h1 := getD_lt hb 1
  have h2 := getD_lt hb 2
  have h3 := getD_lt hb 3
  omega
theorem number_any (A : Option Addr) (n c : Nat) (xs : List Nat) (w : World) (hA : IsB w (.slice A n c) xs) (hb : ∀ x ∈ xs, x < 256) (h4 : 4 ≤ n) :
    Calls Try.prog 76 #[.slice A n c] w fun e w' => e = .returned (.int .i64 (val32 xs : Nat)) ∧ ∃ d, w' = w.drewN d := by
  obtain ⟨h1, h2, h3⟩ := isB_len hA
  have HC := hide (get32_any A n c xs w hA.rd h1.symm hb h4 (by omega))
  have hv := val32_lim hb
  obtain ⟨v, hvv⟩ : ∃ v, v = val32 xs := ⟨_, rfl⟩
  rw [← hvv] at HC hv ⊢
  have hw : IntKind.i64.wrap (v : Int) = (v : Int) := by rw [IntKind.wrap_i64]; omega
  clear hA hb h1 hvv
  go_enter Try.func76, Try.ntmps76
  go_wp2_with fail
  refine HC.out.mono ?_
  rintro e w1 ⟨rfl, d, rfl⟩
  go_wp2_with fail
  go_ret
  exact ⟨rfl, d, rfl⟩
set_option maxHeartbeats 1600000 in
theorem summed_any (b off c : Nat) (xs : List Nat) (w : World) (hA : IsB w (.slice (some ⟨b, off, none⟩) 20 c) xs) (hb : ∀ x ∈ xs, x < 256) :
    Calls Try.prog 77 #[.slice (some ⟨b, off, none⟩) 20 c] w fun e w' => ∃ A' n' c', e = .returned (.tuple #[.slice A' n' c', .bool (decide (val32 (xs.drop 16) = sumS (xs.take 16)))]) ∧ IsB w' (.slice A' n' c') (rowR xs) ∧ (rowR xs).length = n' ∧ ∃ d, w' = w.drewN d := by
  obtain ⟨h1, h2, h3⟩ := isB_len hA
  have i1 := isB_subc hA 16 4 (c - 16) (by omega) (by omega) (by omega)
  have e1 : (xs.drop 16).take 4 = xs.drop 16 := List.take_of_length_le (by rw [List.length_drop]; omega)
  rw [e1] at i1
  have i2 := hA.take 16 (by omega)
  have b1 : ∀ x ∈ xs.drop 16, x < 256 := fun x hx => hb x (List.mem_of_mem_drop hx)
  have b2 : ∀ x ∈ xs.take 16, x < 256 := fun x hx => hb x (List.mem_of_mem_take hx)
  have l1 : (xs.drop 16).length = 4 := by rw [List.length_drop, h1]
  have l2 : (xs.take 16).length = 16 := by rw [List.length_take, h1]; rfl
  have HG := hide (get32_any (some ⟨b, off + 16, none⟩) 4 (c - 16) (xs.drop 16) w i1.rd l1.symm b1 (by omega) (by omega))
  have HS := hide (fun w' (h : IsB w' (.slice (some ⟨b, off, none⟩) 16 c) (xs.take 16)) => sum_any (some ⟨b, off, none⟩) 16 c (xs.take 16) w' h.rd l2.symm b2 (by omega))
  have I2 := hide i2
  have hv := val32_lim b1
  have hs : sumS (xs.take 16) < 4294967296 := by unfold sumS; omega
  have hrow : rowR xs = if val32 (xs.drop 16) = sumS (xs.take 16) then xs.take 16 else [] := rfl
  rw [hrow]
  obtain ⟨X, hX⟩ : ∃ X, X = xs.take 16 := ⟨_, rfl⟩
  obtain ⟨v, hvv⟩ : ∃ v, v = val32 (xs.drop 16) := ⟨_, rfl⟩
  rw [← hX] at HS I2 l2 hs ⊢
  obtain ⟨s, hss⟩ : ∃ s, s = sumS X := ⟨_, rfl⟩
  rw [← hvv] at HG hv ⊢
  rw [← hss] at HS hs ⊢
  have hc16 : ¬ c = 16 := by omega
  have hc17 : ¬ 16 = c := by omega
  have HL2 := hide l2
  have hcz : (16 : Int) ≤ (c : Int) := by omega
  have hcz2 : (20 : Int) ≤ (c : Int) := by omega
  clear hA hb h1 i1 e1 i2 b1 b2 l1 l2 hrow hX hvv hss
  by_cases he : v = s
  · have hne : ((v : Int) != (s : Int)) = false := by simp [he]
    rw [decide_eq_true he, if_pos he]
    clear he
    go_enter Try.func77, Try.ntmps77
    go_wp2_with fail
    refine HG.out.mono ?_
    rintro e w1 ⟨rfl, d, rfl⟩
    go_wp2_with fail
    refine (HS.out _ (show IsB (w.drewN d) _ _ from I2.out)).mono ?_
    rintro e w2 ⟨rfl, rfl⟩
    go_wp2_with fail
    go_ret2
    exact ⟨_, _, _, rfl, I2.out, HL2.out, d, rfl⟩
  · have hne : ((v : Int) != (s : Int)) = true := by simp; omega
    rw [decide_eq_false he, if_neg he]
    clear he
    go_enter Try.func77, Try.ntmps77
    go_wp2_with fail
    refine HG.out.mono ?_
    rintro e w1 ⟨rfl, d, rfl⟩
    go_wp2_with fail
    refine (HS.out _ (show IsB (w.drewN d) _ _ from I2.out)).mono ?_
    rintro e w2 ⟨rfl, rfl⟩
    go_wp2_with fail
    go_ret2
    exact ⟨_, _, _, rfl, isB_nilw _, rfl, d, rfl⟩
end Go.Proofs.Ytehgjkckhjggbaa
namespace Go.Proofs.Ytehgjkckhjggbaa
open Go.RowKit
/-- What a region may leave by that neither panics nor lets out. -/
def soleN (Q : Exit → Act → World → Prop) : Exit → Act → World → Prop
  | .normal, a, w => Q .normal a w
  | _, _, _ => False
theorem soleN_of {Q : Exit → Act → World → Prop} {e : Exit} {a : Act} {w : World} (h : soleN Q e a w) : Q e a w := by
  cases e <;> first | exact h | exact h.elim
theorem soleN_out {Q : Exit → Act → World → Prop} : ¬ LetsOut (soleN Q) := fun ⟨_, _, h⟩ => h
theorem sole_n {Q : Exit → Act → World → Prop} {a : Act} {w : World} (h : Q .normal a w) : soleN Q .normal a w := h
theorem ways_sole {P : Program} {F : Fence} {n : Nat} (hF : IsW F) {ops : Array Oper} {Q : Exit → Act → World → Prop} {id : Nat} {a : Act} {w : World} (S : World → Prop) (L k : Nat) (l : Array Bool) (hn : ops.size = k) (hl : Array.replicate k false = l) (hm : P.follows .mixedOrders = true)
    (hd : ops.all (fun o : Oper => match o.op with | .defer _ => false | _ => true) = true) (h : Ways P .any ops (soleN Q) S L k l a w.drew) : (Code.region id ops true).wpIn F n P Q a w :=
  wpIn_mono (ways_in hF S L k l hn hl hm hd soleN_out h) (fun _ _ _ h => soleN_of h)
end Go.Proofs.Ytehgjkckhjggbaa
namespace Go.Proofs.Ytehgjkckhjggbaa
open Go.RowKit
attribute [local go_sem] Oper.semAt_some
theorem step_append_orow {w : World} {ops : Array Oper} {o : Oper} {a : Act} {K : Act → World → Prop} {Q : Exit → Act → World → Prop} {E : Prop} (hgd : o.guard = none) (s x : Operand)
    (ho : o.op = .call { callee := .builtin .append, args := #[s, x], argTypes := #[42, 42] })
    (B : Nat) (v : Value) (xss : ML) (hs : a.eval s = v) (hown : OwnMt w B v xss)
    (b : Nat) (u : Value) (xs : List Nat) (hx : a.eval x = .slice (some ⟨b, 0, none⟩) 1 1) (hu : w.cell? ⟨b, 0, none⟩ = some u) (hr : Own w B u xs)
    (hlen : xss.length + 1 ≤ 1099511627776) (hbase : B ≤ w.heap.size)
    (h : ∀ v' w', OwnMt w' B v' (xss ++ [xs]) → Below B w w' → K (a.put o.dst v') w') : if Region.wanted o (yielded ops a.tmps) = true then Oper.wp Try.prog o a w K Q else E := by
  have hw : Region.wanted o (yielded ops a.tmps) = true := by simp [Region.wanted, hgd]
  rw [if_pos hw]
  obtain ⟨i0, hi, hz0, hz1, hz2⟩ := info_parts Try.info_rows
  obtain ⟨vs, h1, h2⟩ := hown
  obtain ⟨A, c, e, _⟩ := hr.form
  have h1' := h1
  unfold OwnV at h1
  refine wp_append_own w s x _ ho B 23 i0 (.slice none 0 0) 1 24 Try.underlying42 hi hz0 hz1 hz2 rfl (by decide) v _ _ hs h1 ⟨b, 0, none⟩ 1 1 [u] hx rfl ?_ ?_ (by rw [h2.1]; unfold maxLen; omega) (by rw [h2.1]; omega) hbase ?_
  · intro j z hj
    match j, hj with
    | 0, hj => simp at hj; subst hj; simpa [Addr.add] using hu
  · intro z hz; simp at hz; subst hz; rw [e]; rfl
  · intro v' w' k1 k2 _
    exact h v' w' (OwnMt.snoc h1' h2 hr (by unfold OwnV; simpa using k1) k2) ((Below.refl _ _).grown k2 hbase fun k hk => (h1.lt k hk).1)
theorem OwnMt.turnB {S : Nat → Prop} {w w' : World} {B : Nat} {v : Value} {xss : ML} (h : OwnMt w B v xss) (t : Turn S w w') (hS : ∀ g, B ≤ g → ¬ S g) : OwnMt w' B v xss := by
  obtain ⟨vs, h1, h2⟩ := h
  refine ⟨vs, ?_, h2.1, fun i hi => (h2.2 i hi).turn t (fun g hg => hS g ((h2.2 i hi).lt g hg).1)⟩
  obtain ⟨q1, q2 | ⟨g, cap, cur, rfl, q3, q4, q5⟩⟩ := h1
  · exact ⟨q1, .inl q2⟩
  · exact ⟨q1, .inr ⟨g, cap, cur, rfl, q3, t.at_ q4 (hS g q3), q5⟩⟩
def ReadAns (w : World) (b : List Nat) (e : Ending) (w' : World) : Prop :=
  ∃ v, e = .returned (.tuple #[.int .i64 ((readS b).2.1 : Nat), .int .i64 ((readS b).2.2.1 : Nat), .int .i64 ((readS b).2.2.2.1 : Nat), v, .int .i64 ((readS b).1 : Nat)]) ∧ OwnMt w' w.heap.size v (readS b).2.2.2.2 ∧ Below w.heap.size w w'
theorem readAns_err {w w' : World} {b : List Nat} {k : Nat} (h : readS b = (k, 0, 0, 0, [])) (hk : Below w.heap.size w w') : ReadAns w b (.returned (.tuple #[.int .i64 0, .int .i64 0, .int .i64 0, .slice none 0 0, .int .i64 (k : Int)])) w' := by
  unfold ReadAns
  rw [h]
  exact ⟨_, rfl, OwnMt.nil _ _, hk⟩
theorem read_short (A : Option Addr) (n c : Nat) (b : List Nat) (w : World) (hn : b.length = n) (h : n < 20) :
    Calls Try.prog 36 #[.slice A n c] w fun e w' => ReadAns w b e w' := by
  have hr : readS b = (2, 0, 0, 0, []) := if_pos (by omega)
  have hz : (n : Int) < 20 := by omega
  have HR := hide hr
  have b1 := Blk.new w (B := w.heap.size) 42 #[.slice none 0 0] (Nat.le_refl _)
  have k1 := below_alloc w (.cells #[.slice none 0 0] 42)
  have q0 := b1.cell 0
  have f0 := b1.frozen 0
  dsimp only [Array.toList, List.getElem?_cons_zero] at q0
  clear hr hn
  go_enter Try.func36, Try.ntmps36
  go_wp2_with fail
  refine bodyPost_ret (v := .tuple #[.int .i64 0, .int .i64 0, .int .i64 0, .slice none 0 0, .int .i64 2]) (by simp [results, Try.results36, go_sem, q0]) rfl (readAns_err HR.out k1)
set_option maxRecDepth 100000 in
theorem read_form (ab ao n c : Nat) (b : List Nat) (w : World) (hA : IsB w (.slice (some ⟨ab, ao, none⟩) n c) b) (hn : b.length = n) (hb : ∀ x ∈ b, x < 256) (h20 : 20 ≤ n) (h9 : n ≤ 900000) (h : val32 b ≠ 1735590144 ∨ n = 20 ∨ (n - 20) % 20 ≠ 0) :
    Calls Try.prog 36 #[.slice (some ⟨ab, ao, none⟩) n c] w fun e w' => ReadAns w b e w' := by
  have hr : readS b = (3, 0, 0, 0, []) := by
    unfold readS
    rw [if_neg (by omega), hn, if_pos h]
  have HR := hide hr
  have hnc := isB_len hA
  have b1 := Blk.new w (B := w.heap.size) 42 #[.slice none 0 0] (Nat.le_refl _)
  have k1 := below_alloc w (.cells #[.slice none 0 0] 42)
  have HV := hide (number_any (some ⟨ab, ao, none⟩) n c b _ (hA.keep k1) hb (by omega))
  obtain ⟨v, hv⟩ : ∃ v, v = val32 b := ⟨_, rfl⟩
  rw [← hv] at HV h
  have HK1 := hide k1
  have HB1 := hide b1
  have hz20 : ¬ (n : Int) < 20 := by omega
  have hcz : (20 : Int) ≤ (n : Int) := by omega
  have hnc1 := hnc.2.1
  clear hA hn hb hr hv hnc k1 b1
  by_cases hv : v = 1735590144
  · have hvz : ((v : Int) != 1735590144) = false := by simp [hv]
    have HVV := hide hv
    by_cases hn0 : n = 20
    · subst hn0
      clear hv h
      by_cases hc20 : c = 20
      · subst hc20
        go_enter Try.func36, Try.ntmps36
        go_wp2_with fail
        refine HV.out.mono ?_
        rintro e w1 ⟨rfl, d, rfl⟩
        have KD := hide (below_drewN HK1.out d)
        have BD := hide (HB1.out.drewN d)
        generalize (w.alloc (.cells #[.slice none 0 0] 42)).drewN d = W1 at *
        have q0 := BD.out.cell 0
        have f0 := BD.out.frozen 0
        dsimp only [Array.toList, List.getElem?_cons_zero] at q0
        go_wp2_with fail
        have b2 := BD.out.stored 0 (.slice none 0 0)
        have k2 := KD.out.setCell (p := ⟨w.heap.size, 0, none⟩) (Nat.le_refl _) (.slice none 0 0)
        generalize W1.setCell ⟨w.heap.size, 0, none⟩ (.slice none 0 0) = W2 at *
        clear q0 f0
        have q0 := b2.cell 0
        dsimp only [Array.toList, List.set_cons_zero, List.getElem?_cons_zero] at q0
        refine bodyPost_ret (v := .tuple #[.int .i64 0, .int .i64 0, .int .i64 0, .slice none 0 0, .int .i64 3]) (by simp [results, Try.results36, go_sem, q0]) rfl (readAns_err HR.out k2)
      · have hc21 : ¬ 20 = c := fun e => hc20 e.symm
        go_enter Try.func36, Try.ntmps36
        go_wp2_with fail
        refine HV.out.mono ?_
        rintro e w1 ⟨rfl, d, rfl⟩
        have KD := hide (below_drewN HK1.out d)
        have BD := hide (HB1.out.drewN d)
        generalize (w.alloc (.cells #[.slice none 0 0] 42)).drewN d = W1 at *
        have q0 := BD.out.cell 0
        have f0 := BD.out.frozen 0
        dsimp only [Array.toList, List.getElem?_cons_zero] at q0
        go_wp2_with fail
        have b2 := BD.out.stored 0 (.slice none 0 0)
        have k2 := KD.out.setCell (p := ⟨w.heap.size, 0, none⟩) (Nat.le_refl _) (.slice none 0 0)
        generalize W1.setCell ⟨w.heap.size, 0, none⟩ (.slice none 0 0) = W2 at *
        clear q0 f0
        have q0 := b2.cell 0
        dsimp only [Array.toList, List.set_cons_zero, List.getElem?_cons_zero] at q0
        refine bodyPost_ret (v := .tuple #[.int .i64 0, .int .i64 0, .int .i64 0, .slice none 0 0, .int .i64 3]) (by simp [results, Try.results36, go_sem, q0]) rfl (readAns_err HR.out k2)
    · have hc20 : ¬ c = 20 := by omega
      have hc21 : ¬ 20 = c := by omega
      obtain ⟨m, hm⟩ : ∃ m, m = n - 20 := ⟨_, rfl⟩
      have hm1 : ((m : Int) == 0) = false := by simp; omega
      have hmz : (n : Int) - 20 = (m : Int) := by omega
      obtain ⟨q, hq⟩ : ∃ q, q = m % 20 := ⟨_, rfl⟩
      have hqz : (m : Int) % 20 = (q : Int) := by omega
      have hq0 : ((q : Int) != 0) = true := by
        have : q ≠ 0 := by
          rcases h with h | h | h
          · exact absurd hv h
          · exact absurd h hn0
          · rw [hq, hm]; exact h
        simp
        omega
      have hq9 : q < 20 := by omega
      have hmm : n - 20 = m := hm.symm
      have hm9 : m ≤ 900000 := by omega
      clear hv h hn0 hq hm
      go_enter Try.func36, Try.ntmps36
      go_wp2_with fail
      refine HV.out.mono ?_
      rintro e w1 ⟨rfl, d, rfl⟩
      have KD := hide (below_drewN HK1.out d)
      have BD := hide (HB1.out.drewN d)
      generalize (w.alloc (.cells #[.slice none 0 0] 42)).drewN d = W1 at *
      have q0 := BD.out.cell 0
      have f0 := BD.out.frozen 0
      dsimp only [Array.toList, List.getElem?_cons_zero] at q0
      go_wp2_with fail
      have b2 := BD.out.stored 0 (.slice none 0 0)
      have k2 := KD.out.setCell (p := ⟨w.heap.size, 0, none⟩) (Nat.le_refl _) (.slice none 0 0)
      generalize W1.setCell ⟨w.heap.size, 0, none⟩ (.slice none 0 0) = W2 at *
      clear q0 f0
      have q0 := b2.cell 0
      dsimp only [Array.toList, List.set_cons_zero, List.getElem?_cons_zero] at q0
      refine bodyPost_ret (v := .tuple #[.int .i64 0, .int .i64 0, .int .i64 0, .slice none 0 0, .int .i64 3]) (by simp [results, Try.results36, go_sem, q0]) rfl (readAns_err HR.out k2)
  · have hvz : ((v : Int) != 1735590144) = true := by simp; omega
    clear hv h
    by_cases hc20 : c = 20
    · subst hc20
      go_enter Try.func36, Try.ntmps36
      go_wp2_with fail
      refine HV.out.mono ?_
      rintro e w1 ⟨rfl, d, rfl⟩
      have KD := hide (below_drewN HK1.out d)
      have BD := hide (HB1.out.drewN d)
      generalize (w.alloc (.cells #[.slice none 0 0] 42)).drewN d = W1 at *
      have q0 := BD.out.cell 0
      have f0 := BD.out.frozen 0
      dsimp only [Array.toList, List.getElem?_cons_zero] at q0
      go_wp2_with fail
      have b2 := BD.out.stored 0 (.slice none 0 0)
      have k2 := KD.out.setCell (p := ⟨w.heap.size, 0, none⟩) (Nat.le_refl _) (.slice none 0 0)
      generalize W1.setCell ⟨w.heap.size, 0, none⟩ (.slice none 0 0) = W2 at *
      clear q0 f0
      have q0 := b2.cell 0
      dsimp only [Array.toList, List.set_cons_zero, List.getElem?_cons_zero] at q0
      refine bodyPost_ret (v := .tuple #[.int .i64 0, .int .i64 0, .int .i64 0, .slice none 0 0, .int .i64 3]) (by simp [results, Try.results36, go_sem, q0]) rfl (readAns_err HR.out k2)
    · have hc21 : ¬ 20 = c := fun e => hc20 e.symm
      go_enter Try.func36, Try.ntmps36
      go_wp2_with fail
      refine HV.out.mono ?_
      rintro e w1 ⟨rfl, d, rfl⟩
      have KD := hide (below_drewN HK1.out d)
      have BD := hide (HB1.out.drewN d)
      generalize (w.alloc (.cells #[.slice none 0 0] 42)).drewN d = W1 at *
      have q0 := BD.out.cell 0
      have f0 := BD.out.frozen 0
      dsimp only [Array.toList, List.getElem?_cons_zero] at q0
      go_wp2_with fail
      have b2 := BD.out.stored 0 (.slice none 0 0)
      have k2 := KD.out.setCell (p := ⟨w.heap.size, 0, none⟩) (Nat.le_refl _) (.slice none 0 0)
      generalize W1.setCell ⟨w.heap.size, 0, none⟩ (.slice none 0 0) = W2 at *
      clear q0 f0
      have q0 := b2.cell 0
      dsimp only [Array.toList, List.set_cons_zero, List.getElem?_cons_zero] at q0
      refine bodyPost_ret (v := .tuple #[.int .i64 0, .int .i64 0, .int .i64 0, .slice none 0 0, .int .i64 3]) (by simp [results, Try.results36, go_sem, q0]) rfl (readAns_err HR.out k2)
end Go.Proofs.Ytehgjkckhjggbaa
