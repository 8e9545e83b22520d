/- The document's Rename where it is done. No condition but the widths. -/
import Derived.Test.YtndffjgneapmdaaRRem
import Derived.Test.YtndffjgneapmdaaRApp3
namespace Go.Proofs.Ytndffjgneapmdaa
open Go.RowKit Go.Maps
theorem rrename_same (G : Nat → Prop) (p room : Nat) (v : Value) (X : List (Str × Fil)) (s : ByteArray) (a : Fil) (w : World) (h : RShell w G p room v X) (hr : Rise X) (hg : getK s.data.toList X = some a) (hs : 1 ≤ s.size ∧ s.size ≤ 64) :
    Calls Try.prog 31 #[.pointer (some ⟨p, 0, none⟩), .string s, .string s] w fun e w' => e = .returned (.int .i64 0) ∧ ∃ d, w' = w.drewN d := by
  have HS := hide (spot_any G p room v X s w h hr)
  have HT := hide (rIsName_any s w (by omega))
  rw [decide_eq_true hs] at HT
  rw [hg] at HS
  clear h hr hg hs
  obtain ⟨j, hj⟩ : ∃ j, j = posK s.data.toList X := ⟨_, rfl⟩
  rw [← hj] at HS
  clear hj
  go_enter Try.func31, Try.ntmps31
  go_wp2_with fail
  refine HT.out.mono ?_
  rintro e w0 ⟨rfl, rfl⟩
  go_wp2_with fail
  refine HS.out.mono ?_
  rintro e w1 ⟨rfl, dd, rfl⟩
  go_wp2_with fail
  go_ret
  exact ⟨rfl, dd, rfl⟩
/-- A footprint with the blocks of one more row of bytes. -/
theorem RShell.with {w0 w : World} {G G' : Nat → Prop} {p room : Nat} {v u : Value} {X : List (Str × Fil)} {xs : List Nat} (h : RShell w G' p room v X) (n : Next G w0 G' w) (ho : Own w 0 u xs) (hG : ∀ b, u.ownBlock = some b → G b) :
    ∃ G'', RShell w G'' p room v X ∧ Next G w0 G'' w ∧ ∀ b, u.ownBlock = some b → G'' b := by
  refine ⟨fun k => G' k ∨ u.ownBlock = some k, h.more (fun k hk => .inl hk) (fun k hk => ?_), ⟨n.turn, fun k hk => ?_⟩, fun b hb => .inr hb⟩
  · rcases hk with hk | hk
    · exact h.low k hk
    · exact (ho.lt k hk).2
  · rcases hk with hk | hk
    · exact n.foot k hk
    · exact .inl (hG k hk)
theorem rremove_any (G : Nat → Prop) (p room : Nat) (v : Value) (X : List (Str × Fil)) (s : ByteArray) (w : World) (h : RShell w G p room v X) (hlen : X.length ≤ 256) (hr : Rise X) :
    Calls Try.prog 33 #[.pointer (some ⟨p, 0, none⟩), .string s] w fun e w' => ∃ r : Int, e = .returned (.int .i64 r) ∧ ∃ G' v', RShell w' G' p room v' (delK s.data.toList X) ∧ Next G w G' w' ∧ U8 w w' := by
  rcases hg : getK s.data.toList X with _ | a
  · refine (rremove_none G p room v X s w h hr hg).mono ?_
    rintro e w' ⟨rfl, d, rfl⟩
    have k : Below w.heap.size w (w.drewN d) := below_drewN (Below.refl _ _) d
    exact ⟨7, rfl, G, v, by rw [delK_of_none hg]; exact h.below k, Next.of_below G k, U8.of_below k⟩
  · refine (rremove_some G p room v X s a w h hlen hr hg).mono ?_
    rintro e w' ⟨rfl, h1⟩
    exact ⟨0, rfl, h1⟩
theorem str_ne {s t : ByteArray} (h : ¬ s = t) : (s.toList == t.toList) = false := by
  rw [beq_eq_false_iff_ne]
  intro e
  rw [Lib.toList_data, Lib.toList_data] at e
  refine h ?_
  obtain ⟨ds⟩ := s
  obtain ⟨dt⟩ := t
  have e : ds.toList = dt.toList := e
  rw [Array.toList_inj.1 e]
theorem put_del (k : Str) (a : Fil) (Z : List (Str × Fil)) : putK k a (delK k Z) = putK k a Z := by
  unfold putK
  rw [delK_of_none (getK_del_same)]
theorem delK_len (k : Str) (X : List (Str × Fil)) : (delK k X).length ≤ X.length := List.length_filter_le _ _
set_option maxRecDepth 100000 in
set_option maxHeartbeats 3200000 in
theorem rrename_ok (G : Nat → Prop) (p room : Nat) (v : Value) (X : List (Str × Fil)) (s t : ByteArray) (a : Fil) (w : World) (h : RShell w G p room v X) (hlen : X.length ≤ 256) (hr : Rise X) (hg : getK s.data.toList X = some a) (ht : 1 ≤ t.size ∧ t.size ≤ 64) (hst : ¬ s = t) :
    Calls Try.prog 31 #[.pointer (some ⟨p, 0, none⟩), .string s, .string t] w fun e w' => e = .returned (.int .i64 0) ∧ ∃ G' v', RShell w' G' p room v' (putK t.data.toList a (delK s.data.toList X)) ∧ Next G w G' w' := by
  obtain ⟨g, c, A, n, cc, rfl, ha, hxn, hncc, hcc, hXc, hc63, hGg, hgl, q0, q1, q2, fz⟩ := rfound h hr hg
  obtain ⟨hjl, hXj⟩ := posK_get hr hg
  have c1 : w.cell? ⟨p, 1, none⟩ = some (.slice (some ⟨g, 0, none⟩) X.length c) := h.cells.cell 1
  have HIN := hide (rIsName_any t w (by omega))
  rw [decide_eq_true ht] at HIN
  have HS := hide (spot_any G p room _ X s w h hr)
  have HX := hide h
  have HE := hide (h.each _ (getK_mem hg))
  have HR := hide hr
  have HG := hide hg
  have HL := hide hlen
  obtain ⟨N, hN⟩ : ∃ N, N = X.length := ⟨_, rfl⟩
  obtain ⟨j, hj⟩ : ∃ j, j = posK s.data.toList X := ⟨_, rfl⟩
  rw [← hj, hg] at HS
  rw [← hj] at hjl q0 q1 q2
  rw [← hN] at c1 hjl hXc
  obtain ⟨u0, xs, l⟩ := a
  simp only at ha hxn q2 HE HG
  subst ha
  clear h hN hj hg hr hxn hGg hXj fz hlen ht
  have q0 : w.cell? ⟨g, j * 3, none⟩ = some (.string s) := q0
  have hq := str_ne hst
  go_enter Try.func31, Try.ntmps31
  go_wp2_with fail
  refine HIN.out.mono ?_
  rintro e w0 ⟨rfl, rfl⟩
  go_wp2_with fail
  refine HS.out.mono ?_
  rintro e w1 ⟨rfl, dd, hd⟩
  have k1 : Below w.heap.size w w1 := by rw [hd]; exact below_drewN (Below.refl _ _) dd
  have hz : w1.heap.size = w.heap.size := by rw [hd]; rfl
  have c1' : w1.cell? ⟨p, 1, none⟩ = some (.slice (some ⟨g, 0, none⟩) N c) := by rw [hd]; exact c1
  have q0' : w1.cell? ⟨g, j * 3, none⟩ = some (.string s) := by rw [hd]; exact q0
  have q1' : w1.cell? ⟨g, j * 3 + 1, none⟩ = some (.slice A n cc) := by rw [hd]; exact q1
  have q2' : w1.cell? ⟨g, j * 3 + 2, none⟩ = some (.int .i64 (l : Int)) := by rw [hd]; exact q2
  have K1 := hide k1
  have HZ := hide hz
  clear hd c1 q0 q1 q2 k1 hz
  go_wp2_with fail
  obtain ⟨w2, h2⟩ : ∃ w2, w2 = w1.alloc (.cells #[.string t, .slice A n cc, .int .i64 (l : Int)] 57) := ⟨_, rfl⟩
  have k2 : Below w.heap.size w w2 := by rw [h2]; exact below_step K1.out (below_alloc _ _)
  have b2 : Blk w2 0 57 w1.heap.size [.string t, .slice A n cc, .int .i64 (l : Int)] := by rw [h2]; exact Blk.new (B := 0) w1 _ _ (Nat.zero_le _)
  have hbG : ¬ G w1.heap.size := fun hh => by
    have := HX.out.low _ hh
    have := HZ.out
    omega
  rw [← h2]
  clear h2
  have hb2 := b2.lt
  refine (rremove_any G p room _ X s w2 (HX.out.below k2) HL.out HR.out).mono ?_
  rintro e w3 ⟨r3, rfl, G3, v3, s3, n3, u3⟩
  have o2 : Own w2 0 (.slice A n cc) xs := HE.out.1.turn (S := fun _ => False) (Turn.of_below _ k2) (fun _ _ => id)
  have o3 := u3.own o2
  obtain ⟨G3', s3', n3', hm3⟩ := s3.with n3 o3 HE.out.2.1
  have hb3 : ¬ G3' w1.heap.size := fun hh => by
    rcases n3'.foot _ hh with h1 | h1
    · exact hbG h1
    · omega
  have b3 := b2.turn n3.turn hbG
  have N3 := hide ((Next.of_below G k2).trans n3')
  have S3 := hide s3'
  have B3 := hide b3
  have O3 := hide o3
  have M3 := hide hm3
  clear k2 b2 s3 n3 u3 o2 o3 s3' n3' hm3 b3
  go_wp2_with fail
  have hb3l := B3.out.lt
  refine (rremove_any G3' p room _ (delK s.data.toList X) t w3 S3.out (Nat.le_trans (delK_len _ _) HL.out) (delK_rise HR.out)).mono ?_
  rintro e w4 ⟨r4, rfl, G4, v4, s4, n4, u4⟩
  have o4 := u4.own O3.out
  obtain ⟨G4', s4', n4', hm4⟩ := s4.with n4 o4 M3.out
  have B4 := hide (B3.out.turn n4.turn hb3)
  have N4 := hide (N3.out.trans n4')
  have S4 := hide s4'
  have O4 := hide o4
  have M4 := hide hm4
  have hb4 : ¬ G4' w1.heap.size := fun hh => by
    rcases n4'.foot _ hh with h1 | h1
    · exact hb3 h1
    · omega
  clear s4 n4 u4 o4 s4' n4' hm4
  go_wp2_with fail
  refine (spot_any G4' p room _ _ t w4 S4.out (delK_rise (delK_rise HR.out))).mono ?_
  rintro e w5 ⟨rfl, d5, hd5⟩
  have k5 : Below w4.heap.size w4 w5 := by rw [hd5]; exact below_drewN (Below.refl _ _) d5
  have b5 := B4.out.keep k5
  have t0 : w5.cell? ⟨w1.heap.size, 0, none⟩ = some (.string t) := b5.cell 0
  have t1 : w5.cell? ⟨w1.heap.size, 1, none⟩ = some (.slice A n cc) := b5.cell 1
  have t2 : w5.cell? ⟨w1.heap.size, 2, none⟩ = some (.int .i64 (l : Int)) := b5.cell 2
  obtain ⟨i, hi⟩ : ∃ i, i = posK t.data.toList (delK t.data.toList (delK s.data.toList X)) := ⟨_, rfl⟩
  have hil : i ≤ (delK t.data.toList (delK s.data.toList X)).length := by rw [hi]; exact pos_le _ _
  have HI := hide hil
  have HP := hide (put_mid ((.slice A n cc, xs, l) : Fil) (getK_del_same (k := t.data.toList) (l := delK s.data.toList X)))
  rw [← hi] at HP ⊢
  have S5 := hide (S4.out.below k5)
  have N5 := hide (N4.out.trans (Next.of_below G4' k5))
  have O5 := hide (O4.out.turn (S := fun _ => False) (Turn.of_below _ k5) (fun _ _ => id))
  clear hi hil k5 b5 hd5
  go_wp2_with fail
  refine (insert_any G4' p room _ _ i t A n cc xs l w5 S5.out (Nat.le_trans (delK_len _ _) (Nat.le_trans (delK_len _ _) HL.out)) HI.out O5.out M4.out HE.out.2.2).mono ?_
  rintro e w6 ⟨rfl, G6, v6, s6, n6⟩
  rw [← HP.out, put_del] at s6
  have S6 := hide s6
  have N6 := hide (N5.out.trans n6)
  clear s6 n6
  go_wp2_with fail
  go_ret
  exact ⟨rfl, G6, v6, S6.out, N6.out⟩
end Go.Proofs.Ytndffjgneapmdaa
