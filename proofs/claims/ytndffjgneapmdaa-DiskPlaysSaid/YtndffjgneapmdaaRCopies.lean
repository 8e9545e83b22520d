/- What the document's Copy leans on: a row of files that grows, the disk behind it. No condition but the widths; The document's Copy. No condition but the widths. -/
import Derived.Test.YtndffjgneapmdaaRCrash
import Derived.Test.YtndffjgneapmdaaRApp3
import Derived.Test.YtndffjgneapmdaaLastOp
namespace Go.Proofs.Ytndffjgneapmdaa
open Go.RowKit Go.Maps
theorem step_append_files_g {w : World} {ops : Array Oper} {o : Oper} {a : Act} {K : Act → World → Prop} {Q : Exit → Act → World → Prop} {E : Prop} (hgd : o.guard = none) (s x : Operand)
    (ho : o.op = .call { callee := .builtin .append, args := #[s, x], argTypes := #[49, 49] })
    (B : Nat) (v : Value) (X : List (Str × Fil)) (hs : a.eval s = v) (hown : OwnF w B v X)
    (u : Value) (Y : List (Str × Fil)) (hx : a.eval x = u) (hr : IsF w u Y)
    (hlen : X.length + Y.length ≤ 1073741824) (hbase : B ≤ w.heap.size)
    (h : ∀ v' w', OwnF w' B v' (X ++ Y) → w.grownBy w' v.ownBlock → K (a.put o.dst v') w') : if Region.wanted o (yielded ops a.tmps) = true then Oper.wp Try.prog o a w K Q else E := by
  have hw : Region.wanted o (yielded ops a.tmps) = true := by simp [Region.wanted, hgd]
  rw [if_pos hw]
  obtain ⟨i0, hi, hz0, hz1, hz2⟩ := info_parts Try.info_file
  obtain ⟨⟨A, c, rfl, hn, hc⟩, h1⟩ := hr
  have fin : ∀ v' w', w'.ownsRow B 57 3 v' (X.length + Y.length) (cellsF X ++ cellsF Y) → w.grownBy w' v.ownBlock → K (a.put o.dst v') w' := by
    intro v' w' hown' hg
    exact h v' w' (by unfold OwnF; rw [List.length_append, cellsF_append]; exact hown') hg
  rcases A with _ | ad
  · obtain ⟨rfl, rfl⟩ := hn rfl
    have hrun := run_append_owned_none (P := Try.prog) (w := w) B 49 o.type 57 i0 3 Try.underlying49 hi v _ _ hown
    unfold Oper.wp
    simp [execOp, ho, resolve, invoke, builtin, hs, hx, hrun, Result.andThen]
    exact fin v w (by simpa [cellsF, OwnF] using hown) (World.grownBy.refl w _)
  · exact wp_append_own w s x _ ho B 57 i0 _ 3 48 Try.underlying49 hi hz0 hz1 hz2 rfl (by decide) v _ _ hs hown ad Y.length c (cellsF Y) hx (cellsF_length Y) (hc ad rfl) h1 (by unfold maxLen; omega) (by omega) hbase (fun v' w' h1 h2 _ => fin v' w' h1 h2)
theorem u8_grownF {w w' : World} {B : Nat} {v : Value} {X : List (Str × Fil)} (h : OwnF w B v X) (g : w.grownBy w' v.ownBlock) : U8 w w' := by
  intro b cur hb
  rw [g.block b (heap_lt hb) (fun e => ?_)]
  · exact hb
  · unfold OwnF at h
    rcases h.2 with ⟨rfl, _⟩ | ⟨g', cap, c', rfl, _, hh, _⟩
    · simp [Value.ownBlock] at e
    · have e2 : b = g' := by simpa [Value.ownBlock] using e
      subst e2
      rw [hh] at hb
      simp only [Option.some.injEq, Obj.cells.injEq] at hb
      exact absurd hb.2.1 (by decide)
theorem disk_grownF {w w' : World} {B p : Nat} {v : Value} {X : List (Str × Fil)} {cs : List Value} (h : OwnF w B v X) (g : w.grownBy w' v.ownBlock) (hb : Blk w 0 51 p cs) : Blk w' 0 51 p cs := by
  refine hb.kept g (fun e => ?_)
  unfold OwnF at h
  rcases h.2 with ⟨rfl, _⟩ | ⟨g', cap, c', rfl, _, hh, _⟩
  · simp [Value.ownBlock] at e
  · have e2 : g' = p := by simpa [Value.ownBlock] using e
    subst e2
    obtain ⟨_, c3, h3, _⟩ := hb
    rw [hh] at h3
    simp only [Option.some.injEq, Obj.cells.injEq] at h3
    exact absurd h3.2.1 (by decide)
theorem RShell.fresh {w : World} {G : Nat → Prop} {p room : Nat} {v v' : Value} {Y : List (Str × Fil)} (hc : Blk w 0 51 p [.int .i64 (room : Int), v]) (hv : OwnF w 0 v' Y) (hm : ∀ g, v'.ownBlock = some g → G g) (hp : G p) (hl : ∀ k, G k → k < w.heap.size)
    (he : ∀ q ∈ Y, Own w 0 q.2.1 q.2.2.1 ∧ (∀ g, q.2.1.ownBlock = some g → G g) ∧ ∀ x ∈ q.2.2.1, x < 256) : RShell (w.setCell ⟨p, 1, none⟩ v') G p room v' Y := by
  have gs := grown_set w p 1 v'
  have hu : U8 w (w.setCell ⟨p, 1, none⟩ v') := u8_set hc (by decide)
  refine ⟨hc.stored 1 v', hv.turn (Turn.of_grown gs) (fun g hg e => ?_), hm, hp, fun k hk => by simpa using hl k hk, fun q hq => ⟨hu.own (he q hq).1, (he q hq).2⟩⟩
  have e : g = p := by simpa using e
  subst e
  unfold OwnF at hv
  rcases hv.2 with ⟨rfl, _⟩ | ⟨g', cap, cur, rfl, _, hh, _⟩
  · simp [Value.ownBlock] at hg
  · have e2 : g' = g := by simpa [Value.ownBlock] using hg
    subst e2
    obtain ⟨_, c3, h3, _⟩ := hc
    rw [hh] at h3
    simp only [Option.some.injEq, Obj.cells.injEq] at h3
    exact absurd h3.2.1 (by decide)
theorem absX_take (X : List (Str × Fil)) (j : Nat) (hj : j < X.length) : absX (X.take (j + 1)) = absX (X.take j) ++ [(X[j].1, X[j].2.2)] := by
  unfold absX mapK
  rw [List.take_succ_eq_append_getElem hj, List.map_append]
  rfl
theorem OwnF.up {w : World} {B : Nat} {v : Value} {X : List (Str × Fil)} (h : OwnF w 0 v X) (hb : ∀ g, v.ownBlock = some g → B ≤ g) : OwnF w B v X := by
  unfold OwnF at h ⊢
  refine ⟨h.1, ?_⟩
  rcases h.2 with hn | ⟨g, cap, cur, hv, h1, r⟩
  · exact .inl hn
  · exact .inr ⟨g, cap, cur, hv, hb g (by rw [hv]; rfl), r⟩
theorem copy_step {w wr w3 W3 w4 : World} {G' : Nat → Prop} {B px room : Nat} {u v4 : Value} {Y : List (Str × Fil)} {A3 : Option Addr} {n3 c3 : Nat} {k : Str} {xs : List Nat} {l : Nat} (hS : RShell wr G' px room u Y) (hO : OwnF wr B u Y) (hup : ∀ i, G' i → B ≤ i) (hk : Below B w wr) (hBr : B ≤ wr.heap.size)
    (k3 : Below wr.heap.size wr w3) (kB : Below w3.heap.size w3 W3) (o3 : Own w3 wr.heap.size (.slice A3 n3 c3) xs) (hb : ∀ x ∈ xs, x < 256) (g4 : W3.grownBy w4 u.ownBlock) (o4 : OwnF w4 B v4 (Y ++ [(k, (.slice A3 n3 c3, xs, l))])) :
    ∃ G'', RShell (w4.setCell ⟨px, 1, none⟩ v4) G'' px room v4 (Y ++ [(k, (.slice A3 n3 c3, xs, l))]) ∧ OwnF (w4.setCell ⟨px, 1, none⟩ v4) B v4 (Y ++ [(k, (.slice A3 n3 c3, xs, l))]) ∧ (∀ i, G'' i → B ≤ i) ∧ Below B w (w4.setCell ⟨px, 1, none⟩ v4) := by
  have kk := below_step k3 kB
  have s3 := hS.below kk
  have ow : OwnF W3 B u Y := hO.turn (S := fun _ => False) (Turn.of_below _ kk) (fun _ _ => id)
  have u4 := u8_grownF ow g4
  have o3' : Own W3 wr.heap.size (.slice A3 n3 c3) xs := o3.turn (S := fun _ => False) (Turn.of_below _ kB) (fun _ _ => id)
  have hpx := hup px hS.own
  have b4 : Below B w w4 := (hk.trans (kk.mono hBr)).grown g4 (Nat.le_trans hBr kk.size) (fun i hi => (ow.lt i hi).1)
  have sh : RShell (w4.setCell ⟨px, 1, none⟩ v4) (fun i => G' i ∨ (B ≤ i ∧ i < w4.heap.size)) px room v4 (Y ++ [(k, (.slice A3 n3 c3, xs, l))]) := by
    refine RShell.fresh (disk_grownF ow g4 s3.cells) (o4.down (Nat.zero_le _)) (fun g hg => .inr ?_) (.inl hS.own) (fun i hi => ?_) (fun q hq => ?_)
    · have := o4.lt g hg
      exact ⟨this.1, this.2⟩
    · rcases hi with hi | hi
      · exact Nat.lt_of_lt_of_le (s3.low i hi) g4.size
      · exact hi.2
    · rcases List.mem_append.1 hq with hq | hq
      · have := s3.each q hq
        exact ⟨u4.own this.1, fun g hg => .inl (this.2.1 g hg), this.2.2⟩
      · rw [List.mem_singleton] at hq
        subst hq
        refine ⟨(u4.own o3').more (Nat.zero_le _), fun g hg => .inr ?_, hb⟩
        have := o3'.lt g hg
        exact ⟨by omega, Nat.lt_of_lt_of_le this.2 g4.size⟩
  refine ⟨_, sh, sh.row.up (fun g hg => (o4.lt g hg).1), fun i hi => ?_, b4.grown (grown_set w4 px 1 v4) (Nat.le_trans (Nat.le_trans hBr kk.size) g4.size) (fun i hi => ?_)⟩
  · rcases hi with hi | hi
    · exact hup i hi
    · exact hi.1
  · have hi : i = px := by simpa using hi.symm
    omega
end Go.Proofs.Ytndffjgneapmdaa
namespace Go.Proofs.Ytndffjgneapmdaa
open Go.RowKit Go.Maps
set_option maxRecDepth 100000 in
set_option maxHeartbeats 6400000 in
theorem rcopy_any (G : Nat → Prop) (p room : Nat) (v : Value) (X : List (Str × Fil)) (w : World) (h : RShell w G p room v X) (hlen : X.length ≤ 256) (hbl : ∀ q ∈ X, q.2.2.1.length ≤ 1073741824) :
    Calls Try.prog 9 #[.pointer (some ⟨p, 0, none⟩)] w fun e w' => ∃ p' G' v' X', e = .returned (.pointer (some ⟨p', 0, none⟩)) ∧ RShell w' G' p' room v' X' ∧ absX X' = absX X ∧ (∀ k, G' k → w.heap.size ≤ k) ∧ Below w.heap.size w w' := by
  obtain ⟨A, c, rfl, hlc, hc63, -, hcell⟩ := h.form
  have c0 : w.cell? ⟨p, 0, none⟩ = some (.int .i64 (room : Int)) := h.cells.cell 0
  have c1 : w.cell? ⟨p, 1, none⟩ = some (.slice A X.length c) := h.cells.cell 1
  have hpl : p < w.heap.size := h.low p h.own
  obtain ⟨N, hN⟩ : ∃ N, N = X.length := ⟨_, rfl⟩
  have HN := hide hN
  have HX := hide h
  have HBL := hide hbl
  have HC := hide hcell
  rw [← hN] at c1 hlc hlen
  clear h hN hbl hcell
  go_enter Try.func9, Try.ntmps9
  go_wp2_with fail
  have k1 := below_alloc w (.cells #[.int .i64 (room : Int), .slice none 0 0] 51)
  have s1 : RShell (w.alloc (.cells #[.int .i64 (room : Int), .slice none 0 0] 51)) (fun k => k = w.heap.size) w.heap.size room (.slice none 0 0) [] := by
    refine ⟨Blk.new (B := 0) w _ _ (Nat.zero_le _), World.ownsRow_nil _ _ _ _, (fun g hg => by simp [Value.ownBlock] at hg), rfl, ?_, (fun q hq => by cases hq)⟩
    rintro k rfl
    simp
  have S1 := hide s1
  have K1 := hide k1
  clear s1 k1
  go_loopw [4] (fun i wr => ∃ (j : Nat) (G' : Nat → Prop) (u : Value) (Y : List (Str × Fil)), j ≤ N ∧ i = .int .i64 (j : Int) ∧ Hid (Y.length = j) ∧ Hid (RShell wr G' w.heap.size room u Y) ∧ Hid (OwnF wr w.heap.size u Y) ∧ Hid (absX Y = absX (X.take j)) ∧ Hid (∀ k, G' k → w.heap.size ≤ k) ∧ Hid (Below w.heap.size w wr)) (fun i _ => N - (intOf i).toNat)
  case atStart => exact ⟨0, _, _, [], Nat.zero_le _, rfl, rfl, S1.out, World.ownsRow_nil _ _ _ _, rfl, fun k hk => by omega, K1.out⟩
  case round =>
    obtain ⟨j, G', u, Y, hj, rfl, hY, hS, hO, hab, hup, hk⟩ := hrel
    have c1' := (hk.out.cell (p := ⟨p, 1, none⟩) hpl).trans c1
    by_cases hlt : j < N
    · have hjX : j < X.length := by rw [← HN.out]; exact hlt
      have hjY : (Y.length + 1 : Nat) = j + 1 := by rw [hY.out]
      obtain ⟨g, rfl, _, hgl, q0, q1, q2, _⟩ := HC.out j hjX
      have hoj := HX.out.each X[j] (List.getElem_mem hjX)
      have hx30 := HBL.out X[j] (List.getElem_mem hjX)
      have hab1 := absX_take X j hjX
      obtain ⟨A', cc, e, hIB, h7, h8⟩ := hoj.1.isB.form rfl
      obtain ⟨k, hkn⟩ : ∃ k, k = X[j].1 := ⟨_, rfl⟩
      obtain ⟨l, hl⟩ : ∃ l, l = X[j].2.2.2 := ⟨_, rfl⟩
      obtain ⟨xs, hxs⟩ : ∃ xs, xs = X[j].2.2.1 := ⟨_, rfl⟩
      have hpe : X[j].2.2 = (xs, l) := by rw [hxs, hl]
      rw [hpe, ← hkn] at hab1
      rw [e] at q1
      rw [← hkn] at q0
      rw [← hxs] at q1 hIB h7 hx30
      rw [← hl] at q2
      have hx8 : ∀ x ∈ xs, x < 256 := by rw [hxs]; exact hoj.2.2
      obtain ⟨n, hn⟩ : ∃ n, n = xs.length := ⟨_, rfl⟩
      rw [← hn] at q1 hIB h7 hx30
      obtain ⟨s, hs⟩ : ∃ s : ByteArray, s.data.toList = k := ⟨⟨k.toArray⟩, by simp⟩
      subst hs
      have q0 : w.cell? ⟨g, j * 3, none⟩ = some (.string s) := q0
      have r0 := (hk.out.cell (p := ⟨g, j * 3, none⟩) hgl).trans q0
      have r1 := (hk.out.cell (p := ⟨g, j * 3 + 1, none⟩) hgl).trans q1
      have r2 := (hk.out.cell (p := ⟨g, j * 3 + 2, none⟩) hgl).trans q2
      have HIB := hide (hIB.keep hk.out)
      have H8 := hide hx8
      have HNN := hide hn
      have HAB := hide hab1
      obtain ⟨A1, n1, cx, rfl⟩ := hO.out.shape
      have x1 : wr.cell? ⟨w.heap.size, 1, none⟩ = some (.slice A1 n1 cx) := hS.out.cells.cell 1
      have fx := hS.out.cells.frozen 1
      have hxl : w.heap.size < wr.heap.size := cell_lt x1
      have hgl' : g < wr.heap.size := cell_lt r1
      have hpl' : p < wr.heap.size := cell_lt c1'
      clear hoj hab1 e hIB hx8 hn hxs hl hpe hkn q0 q1 q2 c1
      go_wp2_with fail
      refine Ways.start (fun W => W.cell? ⟨p, 1, none⟩ = some (.slice (some ⟨g, 0, none⟩) N c) ∧ W.cell? ⟨g, j * 3, none⟩ = some (.string s) ∧ W.cell? ⟨g, j * 3 + 1, none⟩ = some (.slice A' n cc) ∧ W.cell? ⟨g, j * 3 + 2, none⟩ = some (.int .i64 (l : Int)) ∧ W.cell? ⟨w.heap.size, 1, none⟩ = some (.slice A1 n1 cx)) 36 37 #[false, false, false, false, false, false, false, false, false, false, false, false, false, false, false, false, false, false, false, false, false, false, false, false, false, false, false, false, false, false, false, false, false, false, false, false, false] (by kernel_rfl) (by kernel_rfl) (by kernel_rfl) ?_
      have hHeld : wr.drew.cell? ⟨p, 1, none⟩ = some (.slice (some ⟨g, 0, none⟩) N c) ∧ wr.drew.cell? ⟨g, j * 3, none⟩ = some (.string s) ∧ wr.drew.cell? ⟨g, j * 3 + 1, none⟩ = some (.slice A' n cc) ∧ wr.drew.cell? ⟨g, j * 3 + 2, none⟩ = some (.int .i64 (l : Int)) ∧ wr.drew.cell? ⟨w.heap.size, 1, none⟩ = some (.slice A1 n1 cx) := ⟨c1', r0, r1, r2, x1⟩
      refine' Ways.take (i := 0) (oi := ⟨_, _, _, _, _, _⟩) (v := _) rfl (by kernel_rfl) (by kernel_rfl) (by kernel_rfl) (by kernel_rfl) (fun _ _ _ h => h) hHeld (Or.inl ⟨rfl, ?_⟩) ?_
      rotate_left
      · (intro W hW; (try dsimp only at hW); go_simp; (try with_reducible rfl))
      try simp only [Act.put, List.setIfInBounds_toArray, List.set_cons_zero, List.set_cons_succ]
      refine' Ways.take (i := 1) (oi := ⟨_, _, _, _, _, _⟩) (v := _) rfl (by kernel_rfl) (by kernel_rfl) (by kernel_rfl) (by kernel_rfl) (fun _ _ _ h => h) hHeld (Or.inl ⟨rfl, ?_⟩) ?_
      rotate_left
      · (intro W hW; (try dsimp only at hW); go_simp; (try with_reducible rfl))
      try simp only [Act.put, List.setIfInBounds_toArray, List.set_cons_zero, List.set_cons_succ]
      refine' Ways.take (i := 2) (oi := ⟨_, _, _, _, _, _⟩) (v := _) rfl (by kernel_rfl) (by kernel_rfl) (by kernel_rfl) (by kernel_rfl) (fun _ _ _ h => h) hHeld (Or.inl ⟨rfl, ?_⟩) ?_
      rotate_left
      · (intro W hW; (try dsimp only at hW); go_simp; (try with_reducible rfl))
      try simp only [Act.put, List.setIfInBounds_toArray, List.set_cons_zero, List.set_cons_succ]
      refine' Ways.take (i := 3) (oi := ⟨_, _, _, _, _, _⟩) (v := _) rfl (by kernel_rfl) (by kernel_rfl) (by kernel_rfl) (by kernel_rfl) (fun _ _ _ h => h) hHeld (Or.inl ⟨rfl, ?_⟩) ?_
      rotate_left
      · (intro W hW; (try dsimp only at hW); go_simp; (try with_reducible rfl))
      try simp only [Act.put, List.setIfInBounds_toArray, List.set_cons_zero, List.set_cons_succ]
      refine' Ways.take (i := 4) (oi := ⟨_, _, _, _, _, _⟩) (v := _) rfl (by kernel_rfl) (by kernel_rfl) (by kernel_rfl) (by kernel_rfl) (fun _ _ _ h => h) hHeld (Or.inl ⟨rfl, ?_⟩) ?_
      rotate_left
      · (intro W hW; (try dsimp only at hW); go_simp; (try with_reducible rfl))
      try simp only [Act.put, List.setIfInBounds_toArray, List.set_cons_zero, List.set_cons_succ]
      refine' Ways.take (i := 5) (oi := ⟨_, _, _, _, _, _⟩) (v := _) rfl (by kernel_rfl) (by kernel_rfl) (by kernel_rfl) (by kernel_rfl) (fun _ _ _ h => h) hHeld (Or.inl ⟨rfl, ?_⟩) ?_
      rotate_left
      · (intro W hW; (try dsimp only at hW); go_simp; (try with_reducible rfl))
      try simp only [Act.put, List.setIfInBounds_toArray, List.set_cons_zero, List.set_cons_succ]
      refine' Ways.take (i := 6) (oi := ⟨_, _, _, _, _, _⟩) (v := _) rfl (by kernel_rfl) (by kernel_rfl) (by kernel_rfl) (by kernel_rfl) (fun _ _ _ h => h) hHeld (Or.inl ⟨rfl, ?_⟩) ?_
      rotate_left
      · (intro W hW; (try dsimp only at hW); go_simp; (try with_reducible rfl))
      try simp only [Act.put, List.setIfInBounds_toArray, List.set_cons_zero, List.set_cons_succ]
      refine' Ways.take (i := 7) (oi := ⟨_, _, _, _, _, _⟩) (v := _) rfl (by kernel_rfl) (by kernel_rfl) (by kernel_rfl) (by kernel_rfl) (fun _ _ _ h => h) hHeld (Or.inl ⟨rfl, ?_⟩) ?_
      rotate_left
      · (intro W hW; (try dsimp only at hW); go_simp; (try with_reducible rfl))
      try simp only [Act.put, List.setIfInBounds_toArray, List.set_cons_zero, List.set_cons_succ]
      refine' Ways.take (i := 8) (oi := ⟨_, _, _, _, _, _⟩) (v := _) rfl (by kernel_rfl) (by kernel_rfl) (by kernel_rfl) (by kernel_rfl) (fun _ _ _ h => h) hHeld (Or.inl ⟨rfl, ?_⟩) ?_
      rotate_left
      · (intro W hW; (try dsimp only at hW); go_simp; (try with_reducible rfl))
      try simp only [Act.put, List.setIfInBounds_toArray, List.set_cons_zero, List.set_cons_succ]
      refine' Ways.take (i := 9) (oi := ⟨_, _, _, _, _, _⟩) (v := _) rfl (by kernel_rfl) (by kernel_rfl) (by kernel_rfl) (by kernel_rfl) (fun _ _ _ h => h) hHeld (Or.inl ⟨rfl, ?_⟩) ?_
      rotate_left
      · (intro W hW; (try dsimp only at hW); go_simp; (try with_reducible rfl))
      try simp only [Act.put, List.setIfInBounds_toArray, List.set_cons_zero, List.set_cons_succ]
      refine' Ways.take (i := 10) (oi := ⟨_, _, _, _, _, _⟩) (v := _) rfl (by kernel_rfl) (by kernel_rfl) (by kernel_rfl) (by kernel_rfl) (fun _ _ _ h => h) hHeld (Or.inl ⟨rfl, ?_⟩) ?_
      rotate_left
      · (intro W hW; (try dsimp only at hW); go_simp; (try with_reducible rfl))
      try simp only [Act.put, List.setIfInBounds_toArray, List.set_cons_zero, List.set_cons_succ]
      refine' Ways.take (i := 11) (oi := ⟨_, _, _, _, _, _⟩) (v := _) rfl (by kernel_rfl) (by kernel_rfl) (by kernel_rfl) (by kernel_rfl) (fun _ _ _ h => h) hHeld (Or.inl ⟨rfl, ?_⟩) ?_
      rotate_left
      · (intro W hW; (try dsimp only at hW); go_simp; (try with_reducible rfl))
      try simp only [Act.put, List.setIfInBounds_toArray, List.set_cons_zero, List.set_cons_succ]
      refine' Ways.take (i := 12) (oi := ⟨_, _, _, _, _, _⟩) (v := _) rfl (by kernel_rfl) (by kernel_rfl) (by kernel_rfl) (by kernel_rfl) (fun _ _ _ h => h) hHeld (Or.inl ⟨rfl, ?_⟩) ?_
      rotate_left
      · (intro W hW; (try dsimp only at hW); go_simp; (try with_reducible rfl))
      try simp only [Act.put, List.setIfInBounds_toArray, List.set_cons_zero, List.set_cons_succ]
      refine' Ways.take (i := 14) (oi := ⟨_, _, _, _, _, _⟩) (v := _) rfl (by kernel_rfl) (by kernel_rfl) (by kernel_rfl) (by kernel_rfl) (fun _ _ _ h => h) hHeld (Or.inl ⟨rfl, ?_⟩) ?_
      rotate_left
      · (intro W hW; (try dsimp only at hW); go_simp; (try with_reducible rfl))
      try simp only [Act.put, List.setIfInBounds_toArray, List.set_cons_zero, List.set_cons_succ]
      refine' Ways.take (i := 15) (oi := ⟨_, _, _, _, _, _⟩) (v := _) rfl (by kernel_rfl) (by kernel_rfl) (by kernel_rfl) (by kernel_rfl) (fun _ _ _ h => h) hHeld (Or.inl ⟨rfl, ?_⟩) ?_
      rotate_left
      · (intro W hW; (try dsimp only at hW); go_simp; (try with_reducible rfl))
      try simp only [Act.put, List.setIfInBounds_toArray, List.set_cons_zero, List.set_cons_succ]
      refine' Ways.take (i := 16) (oi := ⟨_, _, _, _, _, _⟩) (v := _) rfl (by kernel_rfl) (by kernel_rfl) (by kernel_rfl) (by kernel_rfl) (fun _ _ _ h => h) hHeld (Or.inl ⟨rfl, ?_⟩) ?_
      rotate_left
      · (intro W hW; (try dsimp only at hW); go_simp; (try with_reducible rfl))
      try simp only [Act.put, List.setIfInBounds_toArray, List.set_cons_zero, List.set_cons_succ]
      refine' Ways.take (i := 17) (oi := ⟨_, _, _, _, _, _⟩) (v := _) rfl (by kernel_rfl) (by kernel_rfl) (by kernel_rfl) (by kernel_rfl) (fun _ _ _ h => h) hHeld (Or.inl ⟨rfl, ?_⟩) ?_
      rotate_left
      · (intro W hW; (try dsimp only at hW); go_simp; (try with_reducible rfl))
      try simp only [Act.put, List.setIfInBounds_toArray, List.set_cons_zero, List.set_cons_succ]
      refine' Ways.take (i := 18) (oi := ⟨_, _, _, _, _, _⟩) (v := _) rfl (by kernel_rfl) (by kernel_rfl) (by kernel_rfl) (by kernel_rfl) (fun _ _ _ h => h) hHeld (Or.inl ⟨rfl, ?_⟩) ?_
      rotate_left
      · (intro W hW; (try dsimp only at hW); go_simp; (try with_reducible rfl))
      try simp only [Act.put, List.setIfInBounds_toArray, List.set_cons_zero, List.set_cons_succ]
      refine' Ways.take (i := 19) (oi := ⟨_, _, _, _, _, _⟩) (v := _) rfl (by kernel_rfl) (by kernel_rfl) (by kernel_rfl) (by kernel_rfl) (fun _ _ _ h => h) hHeld (Or.inl ⟨rfl, ?_⟩) ?_
      rotate_left
      · (intro W hW; (try dsimp only at hW); go_simp; (try with_reducible rfl))
      try simp only [Act.put, List.setIfInBounds_toArray, List.set_cons_zero, List.set_cons_succ]
      refine' Ways.take (i := 20) (oi := ⟨_, _, _, _, _, _⟩) (v := _) rfl (by kernel_rfl) (by kernel_rfl) (by kernel_rfl) (by kernel_rfl) (fun _ _ _ h => h) hHeld (Or.inl ⟨rfl, ?_⟩) ?_
      rotate_left
      · (intro W hW; (try dsimp only at hW); go_simp; (try with_reducible rfl))
      try simp only [Act.put, List.setIfInBounds_toArray, List.set_cons_zero, List.set_cons_succ]
      refine' Ways.take (i := 21) (oi := ⟨_, _, _, _, _, _⟩) (v := _) rfl (by kernel_rfl) (by kernel_rfl) (by kernel_rfl) (by kernel_rfl) (fun _ _ _ h => h) hHeld (Or.inl ⟨rfl, ?_⟩) ?_
      rotate_left
      · (intro W hW; (try dsimp only at hW); go_simp; (try with_reducible rfl))
      try simp only [Act.put, List.setIfInBounds_toArray, List.set_cons_zero, List.set_cons_succ]
      refine' Ways.take (i := 23) (oi := ⟨_, _, _, _, _, _⟩) (v := _) rfl (by kernel_rfl) (by kernel_rfl) (by kernel_rfl) (by kernel_rfl) (fun _ _ _ h => h) hHeld (Or.inl ⟨rfl, ?_⟩) ?_
      rotate_left
      · (intro W hW; (try dsimp only at hW); go_simp; (try with_reducible rfl))
      try simp only [Act.put, List.setIfInBounds_toArray, List.set_cons_zero, List.set_cons_succ]
      refine' Ways.take (i := 24) (oi := ⟨_, _, _, _, _, _⟩) (v := _) rfl (by kernel_rfl) (by kernel_rfl) (by kernel_rfl) (by kernel_rfl) (fun _ _ _ h => h) hHeld (Or.inl ⟨rfl, ?_⟩) ?_
      rotate_left
      · (intro W hW; (try dsimp only at hW); go_simp; (try with_reducible rfl))
      try simp only [Act.put, List.setIfInBounds_toArray, List.set_cons_zero, List.set_cons_succ]
      refine' Ways.take (i := 25) (oi := ⟨_, _, _, _, _, _⟩) (v := _) rfl (by kernel_rfl) (by kernel_rfl) (by kernel_rfl) (by kernel_rfl) (fun _ _ _ h => h) hHeld (Or.inl ⟨rfl, ?_⟩) ?_
      rotate_left
      · (intro W hW; (try dsimp only at hW); go_simp; (try with_reducible rfl))
      try simp only [Act.put, List.setIfInBounds_toArray, List.set_cons_zero, List.set_cons_succ]
      refine' Ways.take (i := 26) (oi := ⟨_, _, _, _, _, _⟩) (v := _) rfl (by kernel_rfl) (by kernel_rfl) (by kernel_rfl) (by kernel_rfl) (fun _ _ _ h => h) hHeld (Or.inl ⟨rfl, ?_⟩) ?_
      rotate_left
      · (intro W hW; (try dsimp only at hW); go_simp; (try with_reducible rfl))
      try simp only [Act.put, List.setIfInBounds_toArray, List.set_cons_zero, List.set_cons_succ]
      refine' Ways.take (i := 27) (oi := ⟨_, _, _, _, _, _⟩) (v := _) rfl (by kernel_rfl) (by kernel_rfl) (by kernel_rfl) (by kernel_rfl) (fun _ _ _ h => h) hHeld (Or.inl ⟨rfl, ?_⟩) ?_
      rotate_left
      · (intro W hW; (try dsimp only at hW); go_simp; (try with_reducible rfl))
      try simp only [Act.put, List.setIfInBounds_toArray, List.set_cons_zero, List.set_cons_succ]
      refine' Ways.take (i := 28) (oi := ⟨_, _, _, _, _, _⟩) (v := _) rfl (by kernel_rfl) (by kernel_rfl) (by kernel_rfl) (by kernel_rfl) (fun _ _ _ h => h) hHeld (Or.inl ⟨rfl, ?_⟩) ?_
      rotate_left
      · (intro W hW; (try dsimp only at hW); go_simp; (try with_reducible rfl))
      try simp only [Act.put, List.setIfInBounds_toArray, List.set_cons_zero, List.set_cons_succ]
      refine' Ways.take (i := 29) (oi := ⟨_, _, _, _, _, _⟩) (v := _) rfl (by kernel_rfl) (by kernel_rfl) (by kernel_rfl) (by kernel_rfl) (fun _ _ _ h => h) hHeld (Or.inl ⟨rfl, ?_⟩) ?_
      rotate_left
      · (intro W hW; (try dsimp only at hW); go_simp; (try with_reducible rfl))
      try simp only [Act.put, List.setIfInBounds_toArray, List.set_cons_zero, List.set_cons_succ]
      refine' Ways.take (i := 30) (oi := ⟨_, _, _, _, _, _⟩) (v := _) rfl (by kernel_rfl) (by kernel_rfl) (by kernel_rfl) (by kernel_rfl) (fun _ _ _ h => h) hHeld (Or.inl ⟨rfl, ?_⟩) ?_
      rotate_left
      · (intro W hW; (try dsimp only at hW); go_simp; (try with_reducible rfl))
      try simp only [Act.put, List.setIfInBounds_toArray, List.set_cons_zero, List.set_cons_succ]
      have KA := below_alloc wr (.cells #[] 5)
      refine Ways.one (i := 13) (by kernel_rfl) rfl (fun K hK => ?_)
      go_simp
      refine hK.out _ _ ⟨(KA.cell hpl').trans c1', (KA.cell hgl').trans r0, (KA.cell hgl').trans r1, (KA.cell hgl').trans r2, (KA.cell hxl).trans x1⟩ ?_
      clear hK hHeld
      (try simp only [List.setIfInBounds_toArray, List.set_cons_zero, List.set_cons_succ])
      refine Ways.one (i := 22) (by kernel_rfl) rfl (fun K2 hK2 => ?_)
      refine step_append_bytes rfl (.tmp 33) (.tmp 41) rfl wr.heap.size _ [] rfl (own_emptyB (W := wr) (Nat.le_refl _) _ rfl) _ xs rfl (HIB.out.keep ⟨KA.os, KA.tape, KA.output, KA.size, KA.block⟩) (by rw [List.length_nil, ← HNN.out]; omega) KA.size ?_
      intro v3 w3 o3 k3
      rw [List.nil_append] at o3
      have K3 : Below wr.heap.size wr w3 := (by refine Below.trans ?_ k3; exact ⟨KA.os, KA.tape, KA.output, KA.size, KA.block⟩)
      obtain ⟨A3, n3, c3, rfl⟩ := o3.shape
      have s0 : w3.cell? ⟨g, j * 3, none⟩ = some (.string s) := (by rw [← r0]; exact K3.cell hgl')
      have s1 : w3.cell? ⟨g, j * 3 + 1, none⟩ = some (.slice A' n cc) := (by rw [← r1]; exact K3.cell hgl')
      have s2 : w3.cell? ⟨g, j * 3 + 2, none⟩ = some (.int .i64 (l : Int)) := (by rw [← r2]; exact K3.cell hgl')
      have s3 : w3.cell? ⟨p, 1, none⟩ = some (.slice (some ⟨g, 0, none⟩) N c) := (by rw [← c1']; exact K3.cell hpl')
      have s4 : w3.cell? ⟨w.heap.size, 1, none⟩ = some (.slice A1 n1 cx) := (by rw [← x1]; exact K3.cell hxl)
      have s5 : w3.frozen? ⟨w.heap.size, 1, none⟩ = false := (by rw [← fx]; exact K3.frozen hxl)
      have hz3 := K3.size
      have hxl3 : w.heap.size < w3.heap.size := (by omega)
      have O3 := hide o3
      have KK3 := hide K3
      have KB := hide (below_alloc w3 (.cells #[.string s, .slice A3 n3 c3, .int .i64 (l : Int)] 57))
      clear o3 k3 K3 hz3
      refine hK2.out _ _ ⟨s3, s0, s1, s2, s4⟩ ?_
      clear hK2
      (try simp only [Act.put, List.setIfInBounds_toArray, List.set_cons_zero, List.set_cons_succ])
      have hHeld : w3.cell? ⟨p, 1, none⟩ = some (.slice (some ⟨g, 0, none⟩) N c) ∧ w3.cell? ⟨g, j * 3, none⟩ = some (.string s) ∧ w3.cell? ⟨g, j * 3 + 1, none⟩ = some (.slice A' n cc) ∧ w3.cell? ⟨g, j * 3 + 2, none⟩ = some (.int .i64 (l : Int)) ∧ w3.cell? ⟨w.heap.size, 1, none⟩ = some (.slice A1 n1 cx) := ⟨s3, s0, s1, s2, s4⟩
      refine' Ways.take (i := 31) (oi := ⟨_, _, _, _, _, _⟩) (v := _) rfl (by kernel_rfl) (by kernel_rfl) (by kernel_rfl) (by kernel_rfl) (fun _ _ _ h => h) hHeld (Or.inl ⟨rfl, ?_⟩) ?_
      rotate_left
      · (intro W hW; (try dsimp only at hW); go_simp; (try with_reducible rfl))
      try simp only [Act.put, List.setIfInBounds_toArray, List.set_cons_zero, List.set_cons_succ]
      refine Ways.one (i := 32) (by kernel_rfl) rfl (fun K hK => ?_)
      go_simp
      refine hK.out _ _ ⟨(KB.out.cell (cell_lt s3)).trans s3, (KB.out.cell (cell_lt s0)).trans s0, (KB.out.cell (cell_lt s1)).trans s1, (KB.out.cell (cell_lt s2)).trans s2, (KB.out.cell hxl3).trans s4⟩ ?_
      clear hK hHeld
      (try simp only [List.setIfInBounds_toArray, List.set_cons_zero, List.set_cons_succ])
      refine Ways.one (i := 33) (by kernel_rfl) rfl (fun K3 hK3 => ?_)
      refine step_append_files_g rfl (.tmp 24) (.tmp 52) rfl w.heap.size _ Y rfl (hO.out.turn (S := fun _ => False) (Turn.of_below _ (below_step KK3.out ⟨KB.out.os, KB.out.tape, KB.out.output, KB.out.size, KB.out.block⟩)) (fun _ _ => id)) _ [(s.data.toList, (.slice A3 n3 c3, xs, l))] rfl (isF_one w3 s.data.toList A3 n3 c3 xs l _ rfl) (by rw [hY.out, List.length_singleton]; omega) (by exact Nat.le_trans (Nat.le_of_lt hxl3) KB.out.size) ?_
      intro v4 w4 o4 g4
      obtain ⟨A4, n4, c4, rfl⟩ := o4.shape
      have CS := hide (copy_step (k := s.data.toList) (l := l) hS.out hO.out hup.out hk.out (Nat.le_of_lt hxl) KK3.out ⟨KB.out.os, KB.out.tape, KB.out.output, KB.out.size, KB.out.block⟩ O3.out H8.out g4 o4)
      have b4 := disk_grownF (hO.out.turn (S := fun _ => False) (Turn.of_below _ (below_step KK3.out ⟨KB.out.os, KB.out.tape, KB.out.output, KB.out.size, KB.out.block⟩)) (fun _ _ => id)) g4 (hS.out.below (below_step KK3.out ⟨KB.out.os, KB.out.tape, KB.out.output, KB.out.size, KB.out.block⟩)).cells
      have s6 : w4.cell? ⟨w.heap.size, 1, none⟩ = some (.slice A1 n1 cx) := b4.cell 1
      have s7 := b4.frozen 1
      have B4 : Below w.heap.size w w4 := (hk.out.trans ((below_step KK3.out ⟨KB.out.os, KB.out.tape, KB.out.output, KB.out.size, KB.out.block⟩).mono (Nat.le_of_lt hxl))).grown g4 (Nat.le_trans (Nat.le_of_lt hxl3) KB.out.size) (fun i hi => (hO.out.lt i hi).1)
      have t0 : w4.cell? ⟨p, 1, none⟩ = some (.slice (some ⟨g, 0, none⟩) N c) := (B4.cell hpl).trans ((hk.out.cell hpl).symm.trans c1')
      have t1 : w4.cell? ⟨g, j * 3, none⟩ = some (.string s) := (B4.cell hgl).trans ((hk.out.cell hgl).symm.trans r0)
      have t2 : w4.cell? ⟨g, j * 3 + 1, none⟩ = some (.slice A' n cc) := (B4.cell hgl).trans ((hk.out.cell hgl).symm.trans r1)
      have t3 : w4.cell? ⟨g, j * 3 + 2, none⟩ = some (.int .i64 (l : Int)) := (B4.cell hgl).trans ((hk.out.cell hgl).symm.trans r2)
      refine hK3.out _ _ ⟨t0, t1, t2, t3, s6⟩ ?_
      clear hK3 o4 g4 b4 B4
      (try simp only [Act.put, List.setIfInBounds_toArray, List.set_cons_zero, List.set_cons_succ])
      have hHeld : w4.cell? ⟨p, 1, none⟩ = some (.slice (some ⟨g, 0, none⟩) N c) ∧ w4.cell? ⟨g, j * 3, none⟩ = some (.string s) ∧ w4.cell? ⟨g, j * 3 + 1, none⟩ = some (.slice A' n cc) ∧ w4.cell? ⟨g, j * 3 + 2, none⟩ = some (.int .i64 (l : Int)) ∧ w4.cell? ⟨w.heap.size, 1, none⟩ = some (.slice A1 n1 cx) := ⟨t0, t1, t2, t3, s6⟩
      refine Ways.one (i := 34) (by kernel_rfl) rfl (fun K hK => ?_)
      go_simp
      refine hK.out _ _ hHeld ?_
      clear hK
      (try simp only [List.setIfInBounds_toArray, List.set_cons_zero, List.set_cons_succ])
      refine' Ways.take (i := 35) (oi := ⟨_, _, _, _, _, _⟩) (v := _) rfl (by kernel_rfl) (by kernel_rfl) (by kernel_rfl) (by kernel_rfl) (fun _ _ _ h => h) hHeld (Or.inl ⟨rfl, ?_⟩) ?_
      rotate_left
      · (intro W hW; (try dsimp only at hW); go_simp; (try with_reducible rfl))
      try simp only [Act.put, List.setIfInBounds_toArray, List.set_cons_zero, List.set_cons_succ]
      refine Ways.last (by kernel_rfl) rfl (by kernel_rfl) (fun K hK => ?_)
      go_simp
      refine hK.out _ _ ?_
      clear hK hHeld
      obtain ⟨w5, hw5⟩ : ∃ w5, w5 = w4.setCell ⟨w.heap.size, 1, none⟩ (.slice A4 n4 c4) := ⟨_, rfl⟩
      rw [← hw5] at CS
      try rw [← hw5]
      clear hw5
      go_wp2_with fail
      obtain ⟨G5, sh5, ow5, up5, bl5⟩ := CS.out
      go_roundw
      case rel => exact ⟨j + 1, G5, _, Y ++ [(s.data.toList, (.slice A3 n3 c3, xs, l))], by omega, by go_num, hide (by rw [List.length_append, hY.out]; rfl), hide sh5, hide ow5, hide (by rw [HAB.out, ← hab.out]; unfold absX mapK; rw [List.map_append]; rfl), hide up5, hide bl5⟩
      case measure => simp [intOf]; omega
    · obtain rfl : j = N := by omega
      have hx := hab.out
      rw [HN.out, List.take_length] at hx
      have HE := hide (And.intro hS.out (And.intro hx (And.intro hup.out hk.out)))
      clear hx
      go_wp2_with fail
      go_ret
      exact ⟨_, G', u, Y, rfl, HE.out⟩
end Go.Proofs.Ytndffjgneapmdaa
