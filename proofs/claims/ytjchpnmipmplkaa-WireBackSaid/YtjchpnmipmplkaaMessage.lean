/- The contract of the reader's message. Condition: as in the reader's. -/
import Derived.Test.YtjchpnmipmplkaaReadM
import Derived.Test.YtjchpnmipmplkaaEnc
import Derived.Deep.OwnRows
import Derived.RegionTactic
import Derived.Deep.RegionWith
namespace Go.Proofs.Ytjchpnmipmplkaa
open Go.RowKit
theorem RS.ne {w : World} {B B' g h : Nat} {st : Option (List Nat)} {e : TypeId} {cs : List Value} (hR : RS w B g st) (hb : Blk w B' e h cs) (hne : e ≠ 55) : (some g) ≠ some h := by
  obtain ⟨V, er, hB, _⟩ := hR
  intro e'
  exact (hb.ne hB hne) (by simpa using e'.symm)
/-- A message is laid into block g. -/
def setMsg (w : World) (g : Nat) (f t k : Int) (N D : Value) : World :=
  ((((w.setCell ⟨g, 0, none⟩ (.int .i64 f)).setCell ⟨g, 1, none⟩ (.int .i64 t)).setCell ⟨g, 2, none⟩ (.int .i64 k)).setCell ⟨g, 3, none⟩ N).setCell ⟨g, 4, none⟩ D
theorem setMsg_blk {w : World} {B g : Nat} {cs : List Value} (hb : Blk w B 25 g cs) (hl : cs.length = 5) (f t k : Int) (N D : Value) : Blk (setMsg w g f t k N D) B 25 g [.int .i64 f, .int .i64 t, .int .i64 k, N, D] := by
  have h := ((((hb.stored 0 (.int .i64 f)).stored 1 (.int .i64 t)).stored 2 (.int .i64 k)).stored 3 N).stored 4 D
  match cs, hl with
  | [a, b, c, d, e], _ => exact h
theorem setMsg_grown (w : World) (g : Nat) (f t k : Int) (N D : Value) : w.grownBy (setMsg w g f t k N D) (some g) :=
  ((((grown_set w g 0 _).trans (grown_set _ g 1 _)).trans (grown_set _ g 2 _)).trans (grown_set _ g 3 _)).trans (grown_set _ g 4 _)
theorem Blk.msgAt {w : World} {B g : Nat} {f t k : Int} {N D : Value} (hb : Blk w B 25 g [.int .i64 f, .int .i64 t, .int .i64 k, N, D]) : MsgAt w g f t k N D := ⟨hb.cell 0, hb.cell 1, hb.cell 2, hb.cell 3, hb.cell 4⟩
/-- What the making of a message has at hand: the reader, the result's block, the message's block. -/
structure MS (w0 w : World) (B g g2 g3 : Nat) (st : Option (List Nat)) (zs cs : List Value) : Prop where
  r : RS w B g st
  b2 : Blk w B 25 g2 zs
  b3 : Blk w B 25 g3 cs
  gr : w0.grownBy w (some g)
  ne : g2 ≠ g3
  lo2 : w0.heap.size ≤ g2
  lo3 : w0.heap.size ≤ g3
theorem MS.call {w0 w w' : World} {B g g2 g3 : Nat} {st st' : Option (List Nat)} {zs cs : List Value} (h : MS w0 w B g g2 g3 st zs cs) (hr : RS w' B g st') (hg : w.grownBy w' (some g)) : MS w0 w' B g g2 g3 st' zs cs :=
  ⟨hr, h.b2.kept hg (h.r.ne h.b2 (by decide)), h.b3.kept hg (h.r.ne h.b3 (by decide)), h.gr.trans hg, h.ne, h.lo2, h.lo3⟩
theorem MS.set {w0 w : World} {B g g2 g3 : Nat} {st : Option (List Nat)} {zs cs : List Value} (h : MS w0 w B g g2 g3 st zs cs) (i : Nat) (u : Value) : MS w0 (w.setCell ⟨g3, i, none⟩ u) B g g2 g3 st zs (cs.set i u) :=
  ⟨h.r.apart h.b3 (by decide) (by decide) (grown_set _ _ _ _), h.b2.kept (grown_set _ _ _ _) (fun e => h.ne (by simpa using e.symm)), h.b3.stored i u, h.gr.andThen (grown_set w g3 i u) (fun j e => .inl (by cases e; exact h.lo3)), h.ne, h.lo2, h.lo3⟩
/-- A step that turns only a block of numbers that was made on the way, or makes a new one. -/
theorem MS.other {w0 w w' : World} {B g g2 g3 h : Nat} {st : Option (List Nat)} {zs cs vs : List Value} (hm : MS w0 w B g g2 g3 st zs cs) (hb : Blk w B 3 h vs) (hl : w0.heap.size ≤ h) (hg : w.grownBy w' (some h)) : MS w0 w' B g g2 g3 st zs cs :=
  ⟨hm.r.apart hb (by decide) (by decide) hg, hm.b2.kept hg (fun e => hb.ne hm.b2 (by decide) (by simpa using e)), hm.b3.kept hg (fun e => hb.ne hm.b3 (by decide) (by simpa using e)), hm.gr.andThen hg (fun j e => .inl (by cases e; exact hl)), hm.ne, hm.lo2, hm.lo3⟩
theorem MS.fresh {w0 w w' : World} {B g g2 g3 : Nat} {st : Option (List Nat)} {zs cs : List Value} (hm : MS w0 w B g g2 g3 st zs cs) (hb : Below w.heap.size w w') (hg : w.grownBy w' none) : MS w0 w' B g g2 g3 st zs cs :=
  ⟨hm.r.keep hb, hm.b2.keep hb, hm.b3.keep hb, hm.gr.andThen hg (fun j e => by cases e), hm.ne, hm.lo2, hm.lo3⟩
theorem grown_drawn {w w' a : World} {row : Option Nat} (h : a.grownBy w' row) (e1 : a.os = w.os) (e2 : a.tape = w.tape) (e3 : a.output = w.output) (e4 : a.heap = w.heap) : w.grownBy w' row :=
  ⟨h.os.trans e1, h.tape.trans e2, h.output.trans e3, by rw [← e4]; exact h.size, fun k hk hne => by rw [← e4] at hk ⊢; exact h.block k hk hne⟩
theorem msg_start (w : World) (B g : Nat) (st : Option (List Nat)) (C : Array Value) (hR : RS w B g st) (hB : B ≤ w.heap.size) : MS w ((w.alloc (.cells C 25)).alloc (.cells C 25)) B g w.heap.size (w.heap.size + 1) st C.toList C.toList := by
  have k1 : Below w.heap.size w (w.alloc (.cells C 25)) := (Below.refl _ _).alloc (Nat.le_refl _) _
  have k2 : Below (w.alloc (.cells C 25)).heap.size (w.alloc (.cells C 25)) ((w.alloc (.cells C 25)).alloc (.cells C 25)) := (Below.refl _ _).alloc (Nat.le_refl _) _
  have es : (w.alloc (.cells C 25)).heap.size = w.heap.size + 1 := by simp
  have b3 := Blk.new (B := B) (w.alloc (.cells C 25)) 25 C (Nat.le_trans hB k1.size)
  rw [es] at b3
  exact ⟨(hR.keep k1).keep k2, (Blk.new w _ C hB).keep k2, b3, (World.grownBy_alloc _ _ _).trans (World.grownBy_alloc _ _ _), by omega, Nat.le_refl _, Nat.le_succ _⟩
theorem row_get (dn : List Int) (m : Nat) (v0 : Value) : ((dn.map fun z => Value.int .i64 z) ++ List.replicate (m + 1) v0)[dn.length]? = some v0 := by
  rw [List.getElem?_append_right (by simp)]
  simp
theorem row_step (dn : List Int) (m : Nat) (z : Int) (v0 : Value) : ((dn.map fun z => Value.int .i64 z) ++ List.replicate (m + 1) v0).set dn.length (.int .i64 z) = ((dn ++ [z]).map fun z => Value.int .i64 z) ++ List.replicate m v0 := by
  rw [List.set_append_right _ _ (by simp), List.replicate_succ]
  simp
theorem blk_isI {w : World} {B h n : Nat} {zs : List Int} {vs : List Value} (hb : Blk w B 3 h vs) (hv : vs = zs.map fun z => Value.int .i64 z) (hn : zs.length = n) (hl : n ≤ 64) : IsI w (.slice (some ⟨h, 0, none⟩) n n) zs := by
  subst hn
  refine ⟨_, _, rfl, fun _ => ⟨h, 0, rfl, fun i hi => ?_⟩, Nat.le_refl _, by omega⟩
  rw [Nat.zero_add, hb.cell i, hv]
  simp [hi]
/-- Numbers of the call's own, in a block that holds just them. -/
def OwnZ (w : World) (B : Nat) (v : Value) (zs : List Int) : Prop :=
  zs.length ≤ 64 ∧ ((v = .slice none 0 0 ∧ zs = []) ∨ ∃ h, v = .slice (some ⟨h, 0, none⟩) zs.length zs.length ∧ Blk w B 3 h (zs.map fun z => Value.int .i64 z))
theorem OwnZ.isI {w : World} {B : Nat} {v : Value} {zs : List Int} (h : OwnZ w B v zs) : IsI w v zs := by
  obtain ⟨hl, ⟨rfl, rfl⟩ | ⟨g, rfl, hb⟩⟩ := h
  · exact isI_nil w
  · exact blk_isI hb rfl rfl hl
theorem OwnZ.apart {w w' : World} {B B' g : Nat} {v : Value} {zs : List Int} {e : TypeId} {cs : List Value} (h : OwnZ w B v zs) (hr : Blk w B' e g cs) (hne : 3 ≠ e) (hg : w.grownBy w' (some g)) : OwnZ w' B v zs := by
  obtain ⟨hl, ⟨rfl, rfl⟩ | ⟨k, rfl, hb⟩⟩ := h
  · exact ⟨hl, .inl ⟨rfl, rfl⟩⟩
  · exact ⟨hl, .inr ⟨k, rfl, hb.kept hg (fun e => hb.ne hr hne (by simpa using e.symm))⟩⟩
theorem OwnZ.keep {w w' : World} {B : Nat} {v : Value} {zs : List Int} (h : OwnZ w B v zs) (hb : Below w.heap.size w w') : OwnZ w' B v zs := by
  obtain ⟨hl, ⟨rfl, rfl⟩ | ⟨k, rfl, hk⟩⟩ := h
  · exact ⟨hl, .inl ⟨rfl, rfl⟩⟩
  · exact ⟨hl, .inr ⟨k, rfl, hk.keep hb⟩⟩
theorem Try.info_int : (Try.prog.info? 3).map (fun i => (i.zero, i.size, i.bytes)) = some (some (.int .i64 0), 1, 8) := by kernel_rfl
set_option maxHeartbeats 3200000 in
theorem message_any (B g : Nat) (p : List Nat) (w : World) (h : RS w B g (some p)) (hB : B ≤ w.heap.size) :
    Calls Try.prog 25 #[.pointer (some ⟨g, 0, none⟩)] w fun e w' => ∃ N D, e = .returned (.agg #[.int .i64 ((rmsg p).1.1 : Nat), .int .i64 ((rmsg p).1.2.1 : Nat), .int .i64 ((rmsg p).1.2.2.1 : Nat), N, D]) ∧ OwnZ w' B N (rmsg p).1.2.2.2.1 ∧ Piece w' B D (rmsg p).1.2.2.2.2 ∧ RS w' B g (rmsg p).2 ∧ w.grownBy w' (some g) := by
  have HR := hide h
  obtain ⟨f, s1, h1⟩ : ∃ f s1, rup 2147483647 (some p) = (f, s1) := ⟨_, _, rfl⟩
  obtain ⟨t, s2, h2⟩ : ∃ t s2, rup 2147483647 s1 = (t, s2) := ⟨_, _, rfl⟩
  obtain ⟨k, s3, h3⟩ : ∃ k s3, rup 2147483647 s2 = (k, s3) := ⟨_, _, rfl⟩
  obtain ⟨n, s4, h4⟩ : ∃ n s4, rup 64 s3 = (n, s4) := ⟨_, _, rfl⟩
  obtain ⟨zs, s5, h5⟩ : ∃ zs s5, rsigs n s4 = (zs, s5) := ⟨_, _, rfl⟩
  obtain ⟨d, s6, h6⟩ : ∃ d s6, rdat s5 = (d, s6) := ⟨_, _, rfl⟩
  rw [rmsg_of h1 h2 h3 h4 h5 h6]
  simp only
  have bf := rup_le 2147483647 (some p); rw [h1] at bf; simp only at bf
  have bt := rup_le 2147483647 s1; rw [h2] at bt; simp only at bt
  have bk := rup_le 2147483647 s2; rw [h3] at bk; simp only at bk
  have bn := rup_le 64 s3; rw [h4] at bn; simp only at bn
  have H1 := hide h1
  have H2 := hide h2
  have H3 := hide h3
  have H4 := hide h4
  have H5 := hide h5
  have H6 := hide h6
  clear h1 h2 h3 h4 h5 h6 h
  have ms := msg_start w B g (some p) #[.int .i64 0, .int .i64 0, .int .i64 0, .slice none 0 0, .slice none 0 0] HR.out hB
  obtain ⟨w2, hw2⟩ : ∃ w2, w2 = ((w.alloc (.cells #[.int .i64 0, .int .i64 0, .int .i64 0, .slice none 0 0, .slice none 0 0] 25)).alloc (.cells #[.int .i64 0, .int .i64 0, .int .i64 0, .slice none 0 0, .slice none 0 0] 25)) := ⟨_, rfl⟩
  rw [← hw2] at ms
  have HW := hide hw2
  have MS2 := hide ms
  obtain ⟨g2, hg2⟩ : ∃ g2, g2 = w.heap.size := ⟨_, rfl⟩
  obtain ⟨g3, hg3⟩ : ∃ g3, g3 = w.heap.size + 1 := ⟨_, rfl⟩
  rw [← hg3, ← hg2] at MS2
  have HG2 := hide hg2
  have HG3 := hide hg3
  clear ms hw2 hg2 hg3
  go_enter Try.func25, Try.ntmps25
  go_wp2_with fail
  rw [← HW.out, ← HG3.out, ← HG2.out]
  have hu := upto_any B g 2147483647 _ w2 MS2.out.r (by decide)
  rw [H1.out] at hu
  refine hu.mono ?_
  rintro e w3 ⟨rfl, hr3, hg3⟩
  have m3 := MS2.out.call hr3 hg3
  have c0 : w3.cell? ⟨g3, 0, none⟩ = some (.int .i64 0) := m3.b3.cell 0
  have f0 := m3.b3.frozen 0
  have M4 := hide (m3.set 0 (.int .i64 f))
  clear hu hr3 hg3 m3 MS2
  go_wp2_with fail
  clear c0 f0
  have hu := upto_any B g 2147483647 _ _ M4.out.r (by decide)
  rw [H2.out] at hu
  refine hu.mono ?_
  rintro e w5 ⟨rfl, hr5, hg5⟩
  have m5 := M4.out.call hr5 hg5
  have c1 : w5.cell? ⟨g3, 1, none⟩ = some (.int .i64 0) := m5.b3.cell 1
  have f1 := m5.b3.frozen 1
  have M4 := hide (m5.set 1 (.int .i64 t))
  clear hu hr5 hg5 m5
  go_wp2_with fail
  clear c1 f1
  have hu := upto_any B g 2147483647 _ _ M4.out.r (by decide)
  rw [H3.out] at hu
  refine hu.mono ?_
  rintro e w7 ⟨rfl, hr5, hg5⟩
  have m5 := M4.out.call hr5 hg5
  have c1 : w7.cell? ⟨g3, 2, none⟩ = some (.int .i64 0) := m5.b3.cell 2
  have f1 := m5.b3.frozen 2
  have M4 := hide (m5.set 2 (.int .i64 k))
  clear hu hr5 hg5 m5
  have hmk := run_make_row' (P := Try.prog) 22 3 (.int .i64 0) 8 Try.underlying22 Try.info_int rfl .i64 .i64 n (by omega) (by omega)
  go_wp2_with fail
  clear c1 f1
  have hu := upto_any B g 64 _ _ M4.out.r (by decide)
  rw [H4.out] at hu
  refine hu.mono ?_
  rintro e w9 ⟨rfl, hr5, hg5⟩
  have m9 := M4.out.call hr5 hg5
  have m10 := m9.set 3 (.slice (some ⟨w9.heap.size, 0, none⟩) n n)
  have hs10 : (w9.setCell ⟨g3, 3, none⟩ (.slice (some ⟨w9.heap.size, 0, none⟩) n n)).heap.size = w9.heap.size := by simp
  have kA : Below (w9.setCell ⟨g3, 3, none⟩ (.slice (some ⟨w9.heap.size, 0, none⟩) n n)).heap.size (w9.setCell ⟨g3, 3, none⟩ (.slice (some ⟨w9.heap.size, 0, none⟩) n n)) ((w9.setCell ⟨g3, 3, none⟩ (.slice (some ⟨w9.heap.size, 0, none⟩) n n)).alloc (.cells (madeCells #[.int .i64 0] n) 3)) := (Below.refl _ _).alloc (Nat.le_refl _) _
  have m11 := m10.fresh kA (World.grownBy_alloc _ _ _)
  have bh := Blk.new (B := B) (w9.setCell ⟨g3, 3, none⟩ (.slice (some ⟨w9.heap.size, 0, none⟩) n n)) 3 (madeCells #[.int .i64 0] n) (by rw [hs10]; exact Nat.le_trans hB m9.gr.size)
  rw [hs10, toList_madeCells_one] at bh
  have c3 : w9.cell? ⟨g3, 3, none⟩ = some (.slice none 0 0) := m9.b3.cell 3
  have f3 := m9.b3.frozen 3
  have hl3 : g3 < w9.heap.size := m9.b3.lt
  have HL9 := hide m9.gr.size
  obtain ⟨h, hh⟩ : ∃ h, h = w9.heap.size := ⟨_, rfl⟩
  rw [← hh] at bh m11 HL9
  have HH := hide hh
  obtain ⟨w12, hw12⟩ : ∃ w12, w12 = ((w9.setCell ⟨g3, 3, none⟩ (.slice (some ⟨h, 0, none⟩) n n)).alloc (.cells (madeCells #[.int .i64 0] n) 3)) := ⟨_, rfl⟩
  rw [← hw12] at bh m11
  have HW12 := hide hw12
  have BH := hide bh
  have M11 := hide m11
  clear bh m11 hs10
  clear hu hr5 hg5 m9 m10 kA hh hw12
  go_wp2_with fail
  rw [← HH.out, ← HW12.out]
  clear c3 f3 hmk hl3
  go_loopw [21] (fun i wr => ∃ (j : Nat) (dn : List Int) (sj : Option (List Nat)), j ≤ n ∧ i = .int .i64 (j : Int) ∧ Hid (dn.length = j ∧ rsigs n s4 = (dn ++ (rsigs (n - j) sj).1, (rsigs (n - j) sj).2)) ∧
      Hid (∃ zs cs, cs = [.int .i64 f, .int .i64 t, .int .i64 k, .slice (some ⟨h, 0, none⟩) n n, .slice none 0 0] ∧ zs.length = 5 ∧ MS w wr B g g2 g3 sj zs cs) ∧ Hid (Blk wr B 3 h ((dn.map fun z => Value.int .i64 z) ++ List.replicate (n - j) (.int .i64 0)))) (fun i _ => n - (intOf i).toNat)
  case atStart => exact ⟨0, [], s4, Nat.zero_le _, rfl, ⟨rfl, by simp⟩, ⟨_, _, rfl, rfl, M11.out⟩, (by unfold Hid; have := BH.out; simpa using this)⟩
  case round =>
    obtain ⟨j, dn, sj, hj, rfl, hrel, hms, hbh⟩ := hrel
    obtain ⟨zs0, cs, hcs, hzs0, m⟩ := hms.out
    subst hcs
    by_cases hlt : j < n
    · obtain ⟨m', hm'⟩ : ∃ m', n - j = m' + 1 := ⟨n - j - 1, by omega⟩
      have hbj := hbh.out
      have hrj := hrel.out
      rw [hm'] at hbj hrj
      obtain ⟨rfl, hrj⟩ := hrj
      have cj : wr.cell? ⟨h, dn.length, none⟩ = some (.int .i64 0) := by rw [hbj.cell]; exact row_get dn m' _
      have c3 : wr.cell? ⟨g3, 3, none⟩ = some (.slice (some ⟨h, 0, none⟩) n n) := m.b3.cell 3
      have fj := hbj.frozen dn.length
      have E1 : Hid (n - (dn.length + 1) = m') := by unfold Hid; omega
      have HM := hide m
      have HBJ := hide hbj
      have HRJ := hide hrj
      obtain ⟨z, s', hz⟩ : ∃ z s', rsig sj = (z, s') := ⟨_, _, rfl⟩
      have hcon := fun (wx : World) (hx : RS wx B g sj) => signed_any B g sj wx hx
      rw [hz] at hcon
      have HCON := hide hcon
      have HZ := hide hz
      have R0 := hide m.r
      clear m hbj hrj hcon hz hms hbh hrel
      go_wp2_with fail
      go_region_with (go_at_call 39; refine (HCON.out _ (by exact R0.out)).mono ?_; rintro e w6 ⟨rfl, hr6, hg6⟩; have G6 : Hid (wr.grownBy w6 (some g)) := (by exact grown_drawn hg6 rfl rfl rfl rfl); have M6 := hide (HM.out.call hr6 G6.out); have c36 : w6.cell? ⟨g3, 3, none⟩ = some (.slice (some ⟨h, 0, none⟩) n n) := (by exact M6.out.b3.cell 3); have B6 := hide (HBJ.out.kept G6.out (HM.out.r.ne HBJ.out (by decide))); have cj6 : w6.cell? ⟨h, dn.length, none⟩ = some (.int .i64 0) := (by rw [B6.out.cell]; exact row_get dn m' _); have fj6 := B6.out.frozen dn.length; clear hr6 hg6)
      all_goals
        have B7 : Hid (Blk (w6.setCell ⟨h, dn.length, none⟩ (.int .i64 z)) B 3 h (((dn ++ [z]).map fun z => Value.int .i64 z) ++ List.replicate (n - (dn.length + 1)) (.int .i64 0))) := by
          have b := B6.out.stored dn.length (.int .i64 z)
          rw [row_step] at b
          unfold Hid
          rw [E1.out]
          exact b
        have M7 := hide (M6.out.other B6.out HL9.out (grown_set w6 h dn.length (.int .i64 z)))
        have R7 : Hid ((dn ++ [z]).length = dn.length + 1 ∧ rsigs n s4 = (dn ++ [z] ++ (rsigs (n - (dn.length + 1)) s').1, (rsigs (n - (dn.length + 1)) s').2)) := by
          have e := HRJ.out
          simp only [rsigs, HZ.out] at e
          unfold Hid
          rw [E1.out]
          refine ⟨by simp, ?_⟩
          rw [e]
          simp
        clear M6 B6 G6 c36 cj6 fj6 c3 cj fj
        go_wp2_with fail
        go_roundw
        case rel => exact ⟨dn.length + 1, dn ++ [z], s', by omega, by go_num, R7, ⟨_, _, rfl, hzs0, M7.out⟩, B7⟩
        case measure => simp [intOf]; omega
    · obtain rfl : j = n := by omega
      have e0 := hrel.out
      rw [Nat.sub_self] at e0
      obtain ⟨hdl, e0⟩ := e0
      rw [H5.out] at e0
      simp only [rsigs, Prod.mk.injEq, List.append_nil] at e0
      obtain ⟨rfl, rfl⟩ := e0
      have hbj := hbh.out
      rw [Nat.sub_self] at hbj
      have HBJ := hide hbj
      have HM := hide m
      have HDL := hide hdl
      have hd := data_any B g _ wr m.r
      rw [H6.out] at hd
      have HD := hide hd
      obtain ⟨dl, hdd⟩ : ∃ dl, dl = d.length := ⟨_, rfl⟩
      have HDD := hide hdd
      clear hdd hd hdl hbj m hms hbh hrel hlt
      go_wp2_with fail
      refine HD.out.mono ?_
      rintro e w6 ⟨v, rfl, hp6, hr6, hg6⟩
      obtain ⟨A6, c6, rfl, _⟩ := hp6.isB.form (n := dl) HDD.out.symm
      have m6 := HM.out.call hr6 hg6
      have b6 := HBJ.out.kept hg6 (HM.out.r.ne HBJ.out (by decide))
      have c0 : w6.cell? ⟨g3, 0, none⟩ = some (.int .i64 (f : Int)) := m6.b3.cell 0
      have c1 : w6.cell? ⟨g3, 1, none⟩ = some (.int .i64 (t : Int)) := m6.b3.cell 1
      have c2 : w6.cell? ⟨g3, 2, none⟩ = some (.int .i64 (k : Int)) := m6.b3.cell 2
      have c3 : w6.cell? ⟨g3, 3, none⟩ = some (.slice (some ⟨h, 0, none⟩) j j) := m6.b3.cell 3
      have c4 : w6.cell? ⟨g3, 4, none⟩ = some (.slice none 0 0) := m6.b3.cell 4
      have f4 := m6.b3.frozen 4
      have z0 := m6.b2.frozen 0
      have z1 := m6.b2.frozen 1
      have z2 := m6.b2.frozen 2
      have z3 := m6.b2.frozen 3
      have z4 := m6.b2.frozen 4
      have hne := m6.ne
      have hne2 : ¬ g3 = g2 := fun e => hne e.symm
      have y : ∀ i, i < 5 → w6.cell? ⟨g2, i, none⟩ = some (zs0.getD i undef) := fun i hi => by rw [m6.b2.cell i]; simp [hzs0, hi]
      have y0 := y 0 (by decide)
      have y1 := y 1 (by decide)
      have y2 := y 2 (by decide)
      have y3 := y 3 (by decide)
      have y4 := y 4 (by decide)
      have M6 := hide m6
      have P6 := hide hp6
      have B6 := hide b6
      clear m6 hp6 b6 hr6 hg6 y
      go_wp2_with fail
      obtain ⟨W8, hW8⟩ : ∃ W8, W8 = setMsg (w6.setCell ⟨g3, 4, none⟩ (.slice A6 dl c6)) g2 f t k (.slice (some ⟨h, 0, none⟩) j j) (.slice A6 dl c6) := ⟨_, rfl⟩
      have m7 := M6.out.set 4 (.slice A6 dl c6)
      have gr8 := setMsg_grown (w6.setCell ⟨g3, 4, none⟩ (.slice A6 dl c6)) g2 f t k (.slice (some ⟨h, 0, none⟩) j j) (.slice A6 dl c6)
      have b8 := setMsg_blk m7.b2 hzs0 f t k (.slice (some ⟨h, 0, none⟩) j j) (.slice A6 dl c6)
      have h7 := (B6.out.kept (grown_set w6 g3 4 (.slice A6 dl c6)) (fun e => B6.out.ne M6.out.b3 (by decide) (by simpa using e.symm)))
      have h8 := h7.kept gr8 (fun e => h7.ne m7.b2 (by decide) (by simpa using e.symm))
      have p8 := (P6.out.apart M6.out.b3 (by decide) (grown_set w6 g3 4 (.slice A6 dl c6))).apart m7.b2 (by decide) gr8
      have r8 := m7.r.apart m7.b2 (by decide) (by decide) gr8
      have g8 := m7.gr.andThen gr8 (fun i e => .inl (by cases e; exact m7.lo2))
      rw [← hW8] at b8 h8 p8 r8 g8
      unfold setMsg at hW8
      rw [← hW8]
      obtain ⟨q0, q1, q2, q3, q4⟩ := b8.msgAt
      refine bodyPost_ret (v := .agg #[.int .i64 f, .int .i64 t, .int .i64 k, .slice (some ⟨h, 0, none⟩) j j, .slice A6 dl c6]) (by simp [results, Try.results25, go_sem, q0, q1, q2, q3, q4]) rfl ⟨_, _, rfl, ?_, p8, r8, g8⟩
      have hjl := HDL.out
      simp only [List.replicate_zero, List.append_nil] at h8
      exact ⟨by omega, .inr ⟨h, by rw [hjl], h8⟩⟩
end Go.Proofs.Ytjchpnmipmplkaa
