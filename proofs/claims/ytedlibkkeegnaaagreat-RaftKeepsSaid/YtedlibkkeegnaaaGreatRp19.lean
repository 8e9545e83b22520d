/- The contracts of the disk's own lay and drop. Condition: a name is no longer than the model's strings. The contract of the disk's own drop: a file is taken away -/
import Derived.Test.YtedlibkkeegnaaaGreatRp11
import Derived.Test.YtedlibkkeegnaaaGreatRp17
import Derived.Deep.RegionLaw
import Derived.Deep.Cut
import Derived.Test.YtedlibkkeegnaaaGreatRp8
namespace Go.Proofs.YtedlibkkeegnaaaGreat
open Go.RowKit Go.Maps Go.WideMaps
variable {w w' w5 w6 : World} {F : Nat -> Prop} {room l d m n c i b : Nat}
theorem field_data (A : Option Addr) (n c : Nat) (l : Int) (w : World) : (Instr.field 74 (.agg #[.slice A n c, .int .i64 l]) 0).run Tryz.prog w = .ok (.slice A n c) w := by kernel_rfl
theorem lay_end {X : List (Str × Fil)} {k : Str} {A : Option Addr} {xs : List Nat} {W3 : World} (hS : Shell w F d room X) (hn : xs.length = n) (hl : l <= n)
  (hp : sumK filL (putK k ((.slice A n c, xs, l) : Fil) X) = m) (hu : sumK filL (putK k ((.slice A n c, xs, l) : Fil) X) <= room) (hfew : (putK k ((.slice A n c, xs, l) : Fil) X).length <= 256)
  (hk : k.length <= 64) (hb : F b \/ w.heap.size <= b) (hB : Blk W3 0 52 d [.int .i64 (room : Int), .int .i64 ((m : Nat) : Int), .map (some b)]) (ht : Turn F w W3) (hu8 : U8 w W3) (m3 : W3.ownsMap Tryz.prog 9 tok b X.length (strP filV X)) (K5 : Below W3.heap.size W3 w5)
  (m6 : w6.ownsMap Tryz.prog 9 tok b (X.length + 1) ((strP filV X).put (.string k) (.held (.agg #[.slice A n c, .int .i64 (l : Int)])))) (g6 : w5.grownBy w6 (some b)) :
  ∃ F', Shell w6 F' d room (putK k ((.slice A n c, xs, l) : Fil) X) /\ Next F w F' w6 /\ U8 w w6 /\ (∀ k, F k -> F' k) := by
 have hd : d < w.heap.size := hS.low d hS.own;have em : (strP filV X).put (.string k) (.held (.agg #[.slice A n c, .int .i64 (l : Int)])) = strP filV (putK k ((.slice A n c, xs, l) : Fil) X) := strP_put filV k ((.slice A n c, xs, l) : Fil) X;rw [em] at m6;have m7 := ownsMap_tight m6;rw [strP_size] at m7;have m5 := ownsMap_turn (S := fun _ => False) m3 (Turn.of_below _ K5) id;have B5 := hB.keep K5;have hbd : ¬ (some d = some b) := by
  intro e;have e : d = b := by simpa using e
  subst e;obtain ⟨_, c5, h5, _⟩ := B5;exact not_map_cells m5 h5
 have t6 : Turn (fun i => some i = some b) w5 w6 := Turn.of_grown g6;have h35 : W3.heap.size <= w5.heap.size := K5.size;have T6 : Turn F w w6 := (ht.trans (Turn.of_below F K5)).then t6 (fun i e => by
  have e : i = b := by simpa using e
  subst e;exact hb)
 have hb6 : b < w6.heap.size := m6.lt;refine ⟨fun i => F i \/ (w.heap.size <= i /\ i < w6.heap.size), ⟨⟨some b, ?_, .inr ⟨b, rfl, ?_, m7⟩⟩, .inl hS.own, ?_, hS.most, hu, hfew, ?_, putK_rise hS.rise, ?_⟩, ⟨T6, fun i hi => ?_⟩, ?_, fun i => .inl⟩
 ·rw [hp];exact B5.turn t6 hbd
 ·rcases hb with h | h
  ·exact .inl h
  ·exact .inr ⟨h, hb6⟩
 ·rintro i (h | h)
  ·exact Nat.lt_of_lt_of_le (hS.low i h) T6.size
  ·exact h.2
 ·intro p hp;rcases mem_putK.1 hp with rfl | ⟨hp, _⟩
  ·exact ⟨⟨A, c, by show Value.slice A n c = _; rw [hn]⟩, by show l <= xs.length; omega⟩
  ·exact hS.shape p hp
 ·intro p hp;rcases mem_putK.1 hp with rfl | ⟨hp, _⟩
  ·exact hk
  ·exact hS.names p hp
 ·rcases hi with h | h
  ·exact .inl h
  ·exact .inr h.1
 ·refine (hu8.trans (U8.of_below K5)).trans ?_;intro g cur hg;rw [g6.block g (heap_lt hg) ?_]
  ·exact hg
  ·intro e;have e : g = b := by simpa using e
   subst e;exact not_map_cells m5 hg
set_option maxRecDepth 100000 in
set_option maxHeartbeats 1600000 in
theorem lay_any (F : Nat -> Prop) (d room : Nat) (X : List (Str × Fil)) (s : ByteArray) (A : Option Addr) (n c l : Nat) (xs : List Nat) (w : World) (hS : Shell w F d room X) (hs : s.size <= 64) (hn : xs.length = n) (hl : l <= n)
  (hu : sumK filL (putK s.data.toList ((.slice A n c, xs, l) : Fil) X) <= room) (hfew : (putK s.data.toList ((.slice A n c, xs, l) : Fil) X).length <= 256) :
  Calls Tryz.prog 29 #[.pointer (some ⟨d, 0, none⟩), .string s, .agg #[.slice A n c, .int .i64 l]] w fun e w' => e = .returned (.tuple #[]) /\
   ∃ F', Shell w' F' d room (putK s.data.toList ((.slice A n c, xs, l) : Fil) X) /\ Next F w F' w' /\ U8 w w' /\ (∀ k, F k -> F' k) := by
 obtain ⟨mv, hB, hm⟩ := hS.cells;have c2 : w.cell? ⟨d, 2, none⟩ = some (.map mv) := hB.cell 2;have f2 := hB.frozen 2;have hd : d < w.heap.size := hB.lt;have qe : ∀ (w : World) (r : Option Nat), (binOp .eql 50 (.map r) (.map none)).run Tryz.prog w = .ok (.bool r.isNone) w := fun w r => run_eql_map_nil w _ _ _ r Tryz.underlying50
 have qm := @run_makeMap Tryz.prog;obtain ⟨u, hu0⟩ : ∃ u, u = sumK filL X := ⟨_, rfl⟩;rw [<- hu0] at hB;have HU0 := hide hu0;have HU := hide hu;have HFEW := hide hfew;have HS := hide hS;have HB := hide hB;have HM := hide hm;clear hu0 hu hfew hB hm hS;go_enter Tryz.func29, Tryz.ntmps29
 go_upto_if 10 with fail
 go_cut [5] from 6 (fun s5 wr => s5 = .pointer (some ⟨w.heap.size, 0, none⟩) /\ Hid (∃ b, (F b \/ w.heap.size <= b) /\ Blk wr 0 74 w.heap.size [.slice A n c, .int .i64 l] /\ Blk wr 0 52 d [.int .i64 (room : Int), .int .i64 (u : Int), .map (some b)] /\
   wr.ownsMap Tryz.prog 9 tok b X.length (strP filV X) /\ Turn F w wr /\ U8 w wr))
 case first =>
  have nb := below_alloc w (.cells #[.slice A n c, .int .i64 l] 74);rcases HM.out with ⟨rfl, rfl⟩ | ⟨b, rfl, hFb, hm⟩
  ·go_wp2_with fail
   have e0 : (w.setCell ⟨d, 2, none⟩ (.map (some (w.heap.size + 1)))).heap.size = w.heap.size := by simp
   have k1 := below_alloc (w.setCell ⟨d, 2, none⟩ (.map (some (w.heap.size + 1)))) (.cells #[.slice A n c, .int .i64 l] 74);have b1 := (HB.out.stored 2 (.map (some (w.heap.size + 1)))).keep k1;have b2 := Blk.new (B := 0) (w.setCell ⟨d, 2, none⟩ (.map (some (w.heap.size + 1)))) 74 #[.slice A n c, .int .i64 l] (Nat.zero_le _);rw [e0] at b2;obtain ⟨W1, hW1⟩ : ∃ W1, W1 = ((w.setCell ⟨d, 2, none⟩ (.map (some (w.heap.size + 1)))).alloc (.cells #[.slice A n c, .int .i64 l] 74)) := ⟨_, rfl⟩;have e1 : W1.heap.size = w.heap.size + 1 := by rw [hW1]; simp
   rw [<- hW1] at k1 b1 b2 ⊢;have k2 := below_alloc W1 (.map #[] 0);have m2 := World.ownsMap_made W1 Tryz.prog 9 tok;rw [e1] at m2;have t1 : Turn F w W1 := (((Turn.of_grown (grown_set w d 2 _)).mono (S' := F) (fun i e => by cases e; exact HS.out.own))).then (Turn.of_below F k1) fun _ => .inl
   have u1 : U8 w W1 := by
    intro g cur hg;rw [k1.block g (by rw [e0]; exact heap_lt hg), heap_setCell_other w ⟨d, 2, none⟩ g _ ?_]
    ·exact hg
    ·intro e;have e : g = d := by simpa using e
     subst e;obtain ⟨_, c3, h3, _⟩ := HB.out;rw [hg] at h3;simp only [Option.some.injEq, Obj.cells.injEq] at h3;exact absurd h3.2.1 (by decide)
   clear hW1
   go_meet
   case rel => exact ⟨rfl, w.heap.size + 1, .inr (Nat.le_succ _), b2.keep k2, b1.keep k2, m2, t1.trans (Turn.of_below F k2), u1.trans (U8.of_below k2)⟩
  ·go_wp2_with fail
   go_meet
   case rel => exact ⟨rfl, b, .inl hFb, Blk.new (B := 0) w _ _ (Nat.zero_le _), HB.out.keep nb, ownsMap_turn (S := fun _ => False) hm (Turn.of_below _ nb) id, Turn.of_below _ nb, U8.of_below nb⟩
 case rest =>
  clear c2 f2;obtain ⟨rfl, hcut⟩ := hcut;obtain ⟨b, hb, bF, bD, hm, ht, hu8⟩ := hcut.out;obtain ⟨A1, n1, c1, l1, hf, hn1, hrest⟩ := found_form HS.out s.data.toList;have hlook := look_val hm.drew s (by unfold maxLen; omega);rw [hf] at hlook;have qf := field_data A1 n1 c1 l1;have hsum := sumK_del filL s.data.toList HS.out.rise;rw [<- HU0.out, <- hn1] at hsum;have hput := sumK_put filL s.data.toList ((.slice A n c, xs, l) : Fil) X;have hput2 : sumK filL (putK s.data.toList ((.slice A n c, xs, l) : Fil) X) = u + n - n1 := by
   rw [hput, hsum]
   show _ + xs.length = _
   rw [hn];omega
  have hle : n1 <= u := by omega
  have hub : u + n <= 1073741824 + n1 := by
   have := HU.out;have := HS.out.most;omega
  have hub2 : u <= 1073741824 := by
   have h1 := HS.out.used;have h2 := HS.out.most;rw [<- HU0.out] at h1;omega
  have f0 : wc.cell? ⟨w.heap.size, 0, none⟩ = some (.slice A n c) := bF.cell 0;have f1 : wc.cell? ⟨w.heap.size, 1, none⟩ = some (.int .i64 l) := bF.cell 1;have d1 : wc.cell? ⟨d, 1, none⟩ = some (.int .i64 (u : Int)) := bD.cell 1;have d2 : wc.cell? ⟨d, 2, none⟩ = some (.map (some b)) := bD.cell 2;have g1 := bD.frozen 1;have hne : ¬ d = w.heap.size := by omega
  have hne2 : ¬ w.heap.size = d := by omega
  have HP := hide hput2;have HBF := hide bF;have HBD := hide bD;have HMM := hide hm;have HT := hide ht;have HU8 := hide hu8;have HN := hide hn;clear hrest hput2 hput hsum bF bD hm ht hu8 hn hn1 hf qm qe hcut;go_wp2_with fail
  go_region
  have E1 : ((u : Int) + ((n : Int) - (n1 : Int))) = ((u + n - n1 : Nat) : Int) := by omega
  rw [E1];have t3 := (Turn.of_grown (grown_set wc d 1 (.int .i64 ((u + n - n1 : Nat) : Int)))).mono (S' := F) (fun i e => by cases e; exact HS.out.own);have bD3 := HBD.out.stored 1 (.int .i64 ((u + n - n1 : Nat) : Int));have bF3 := HBF.out.kept (grown_set wc d 1 (.int .i64 ((u + n - n1 : Nat) : Int))) (fun e => hne (by simpa using e));have m3 := ownsMap_turn HMM.out (Turn.of_grown (grown_set wc d 1 (.int .i64 ((u + n - n1 : Nat) : Int)))) (by
   intro e;have e : b = d := by simpa using e
   subst e;obtain ⟨_, c3, h3, _⟩ := HBD.out;exact not_map_cells HMM.out h3)
  have u3 : U8 wc (wc.setCell ⟨d, 1, none⟩ (.int .i64 ((u + n - n1 : Nat) : Int))) := by
   intro g cur hg;rw [heap_setCell_other wc ⟨d, 1, none⟩ g _ ?_]
   ·exact hg
   ·intro e;have e : g = d := by simpa using e
    subst e;obtain ⟨_, c3, h3, _⟩ := HBD.out;rw [hg] at h3;simp only [Option.some.injEq, Obj.cells.injEq] at h3;exact absurd h3.2.1 (by decide)
  have hlow : ∀ k, F k \/ (w.heap.size <= k /\ k < wc.heap.size) -> k < wc.heap.size := by
   rintro k (hk | hk)
   ·exact Nat.lt_of_lt_of_le (HS.out.low k hk) HT.out.size
   ·exact hk.2
  have hsz3 : (wc.setCell ⟨d, 1, none⟩ (.int .i64 ((u + n - n1 : Nat) : Int))).heap.size = wc.heap.size := by simp
  have hbl : b < wc.heap.size := HMM.out.lt;obtain ⟨W3, hW3⟩ : ∃ W3, W3 = (wc.setCell ⟨d, 1, none⟩ (.int .i64 ((u + n - n1 : Nat) : Int))) := ⟨_, rfl⟩;rw [<- hW3] at t3 bD3 bF3 m3 u3 hsz3 ⊢;have T3 := hide (HT.out.trans t3);have U3 := hide (HU8.out.trans u3);have BD3 := hide bD3;have BF3 := hide bF3;have M3 := hide m3;have LOW := hide hlow;have SZ := hide hsz3;clear t3 u3 bD3 bF3 m3 hlow hsz3 hW3 hlook qf E1 f0 f1 d1 d2 g1;have f0 : W3.cell? ⟨w.heap.size, 0, none⟩ = some (.slice A n c) := BF3.out.cell 0;have f1 : W3.cell? ⟨w.heap.size, 1, none⟩ = some (.int .i64 l) := BF3.out.cell 1;have d2 : W3.cell? ⟨d, 2, none⟩ = some (.map (some b)) := BD3.out.cell 2;have hup := fun (W : World) (hk : Below W3.heap.size W3 W) => (ownsMap_turn (S := fun _ => False) M3.out (Turn.of_below _ hk) id).update (string_keyed Tryz.underlying9) Tryz.underlying50 (by have := HS.out.few; unfold maxLen; omega) (keyOf_string_mk Tryz.underlying9 (s := s) (by unfold maxLen; omega)) (val := .agg #[.slice A n c, .int .i64 l]) (d := .held (.agg #[.slice A n c, .int .i64 l])) (ps := []) rfl
  have HUP := hide hup;clear hup;go_wp2_with fail
  go_region_with (go_at_call 57; refine (strClone_any s _ (by omega)).mono ?_; rintro e w5 ⟨rfl, k5⟩; have K5 : Below W3.heap.size W3 w5 := ⟨k5.os, k5.tape, k5.output, k5.size, k5.block⟩; obtain ⟨w6, r6, m6, g6⟩ := HUP.out w5 K5; have f05 := (K5.cell (cell_lt f0)).trans f0; have f15 := (K5.cell (cell_lt f1)).trans f1; have d25 := (K5.cell (cell_lt d2)).trans d2)
  all_goals
   have KE := lay_end HS.out HN.out hl HP.out HU.out HFEW.out hs hb BD3.out T3.out U3.out M3.out K5 m6 g6;clear r6 m6 g6 f05 f15 d25 f0 f1 d2;go_end0;exact ⟨rfl, KE⟩
theorem u8_set {v : Value} {cs : List Value} {e : TypeId} (hB : Blk w 0 e d cs) (hne : e ≠ 5) : U8 w (w.setCell ⟨d, i, none⟩ v) := by
 intro g cur hg;rw [heap_setCell_other w ⟨d, i, none⟩ g _ ?_]
 ·exact hg
 ·intro e';have e' : g = d := by simpa using e'
  subst e';obtain ⟨_, c3, h3, _⟩ := hB;rw [hg] at h3;simp only [Option.some.injEq, Obj.cells.injEq] at h3;exact hne h3.2.1.symm
theorem u8_map {P : Program} {k : TypeId} {R : Value -> Option (DataW Value × List MemPlace)} {D : DataW Value} (h : w.ownsMap P k R b n D) (g6 : w.grownBy w' (some b)) : U8 w w' := by
 intro g cur hg;rw [g6.block g (heap_lt hg) ?_]
 ·exact hg
 ·intro e;have e : g = b := by simpa using e
  subst e;exact not_map_cells h hg
theorem map_ne_cells {P : Program} {k : TypeId} {R : Value -> Option (DataW Value × List MemPlace)} {D : DataW Value} {cs : List Value} {e : TypeId} (h : w.ownsMap P k R b n D) (hB : Blk w 0 e d cs) : b ≠ d := by
 rintro rfl;obtain ⟨_, c3, h3, _⟩ := hB;exact not_map_cells h h3
set_option maxRecDepth 100000 in
set_option maxHeartbeats 1600000 in
theorem drop_any (F : Nat -> Prop) (d room : Nat) (X : List (Str × Fil)) (s : ByteArray) (a : Fil) (w : World) (hS : Shell w F d room X) (hs : s.size <= 1099511627776) (hg : getK s.data.toList X = some a) :
  Calls Tryz.prog 113 #[.pointer (some ⟨d, 0, none⟩), .string s] w fun e w' => e = .returned (.tuple #[]) /\ Shell w' F d room (delK s.data.toList X) /\ Next F w F w' /\ U8 w w' := by
 obtain ⟨mv, hB, hm⟩ := hS.cells;obtain ⟨b, rfl, hFb, hm⟩ : ∃ b, mv = some b /\ F b /\ w.ownsMap Tryz.prog 9 tok b X.length (strP filV X) := by
  rcases hm with ⟨_, rfl⟩ | h
  ·cases hg
  ·exact h
 obtain ⟨u, hu⟩ : ∃ u, u = sumK filL X := ⟨_, rfl⟩;rw [<- hu] at hB;obtain ⟨A1, n1, c1, l1, hf, hn1, hrest⟩ := found_form hS s.data.toList;have hlook := look_val hm.drew s (by unfold maxLen; omega);rw [hf] at hlook;have qf := field_data A1 n1 c1 l1;have hsum := sumK_del filL s.data.toList hS.rise;rw [<- hu, <- hn1] at hsum;have hle : n1 <= u := by omega
 have hub2 : u <= 1073741824 := by
  have h1 := hS.used;have h2 := hS.most;rw [<- hu] at h1;omega
 have d1 : w.cell? ⟨d, 1, none⟩ = some (.int .i64 (u : Int)) := hB.cell 1;have d2 : w.cell? ⟨d, 2, none⟩ = some (.map (some b)) := hB.cell 2;have g1 := hB.frozen 1;have HSUM : Hid (sumK filL (delK s.data.toList X) = u - n1) := by unfold Hid; omega
 have HB := hide hB;have HM := hide hm;have HS := hide hS;clear hrest hf hn1 hu hsum hB hm hg hS;go_enter Tryz.func113, Tryz.ntmps113;go_wp2_with fail
 go_region
 have E1 : ((u : Int) - (n1 : Int)) = ((u - n1 : Nat) : Int) := by omega
 rw [E1];have bD3 := HB.out.stored 1 (.int .i64 ((u - n1 : Nat) : Int));have g3 := grown_set w d 1 (.int .i64 ((u - n1 : Nat) : Int));have m3 := ownsMap_turn HM.out (Turn.of_grown g3) (by
  intro e;exact map_ne_cells HM.out HB.out (by simpa using e))
 have u3 : U8 w (w.setCell ⟨d, 1, none⟩ (.int .i64 ((u - n1 : Nat) : Int))) := u8_set HB.out (by decide);have t3 := (Turn.of_grown g3).mono (S' := F) (fun i e => by cases e; exact HS.out.own);obtain ⟨W3, hW3⟩ : ∃ W3, W3 = (w.setCell ⟨d, 1, none⟩ (.int .i64 ((u - n1 : Nat) : Int))).drew := ⟨_, rfl⟩;have bD4 : Blk W3 0 52 d [.int .i64 (room : Int), .int .i64 ((u - n1 : Nat) : Int), .map (some b)] := by rw [hW3]; exact bD3
 have m4 : W3.ownsMap Tryz.prog 9 tok b X.length (strP filV X) := by rw [hW3]; exact m3
 have u4 : U8 w W3 := by rw [hW3]; exact u3
 have t4 : Turn F w W3 := by rw [hW3]; exact ⟨t3.os, t3.tape, t3.output, t3.size, t3.block⟩
 rw [<- hW3];have B4 := hide bD4;have M4 := hide m4;have U4 := hide u4;have T4 := hide t4;clear hW3 bD3 g3 m3 u3 t3 m4 u4 t4 d1 d2 g1 E1 hlook qf;have d2 : W3.cell? ⟨d, 2, none⟩ = some (.map (some b)) := bD4.cell 2;clear bD4;go_wp2_with (first | (at_delete; refine wpList_delete_own _ rfl _ _ 50 9 rfl 74 (string_keyed Tryz.underlying9) Tryz.underlying50 tok b X.length (strP filV X) rfl M4.out _ _ rfl (keyOf_string_mk Tryz.underlying9 (s := s) (by unfold maxLen; omega)) ?_; intro w1 own1 turn1))
 rw [strP_del] at own1;have m7 := ownsMap_tight own1;rw [strP_size] at m7;have KE : Shell w1 F d room (delK s.data.toList X) /\ Next F w F w1 /\ U8 w w1 := by
  have g6 := turn1.grown;have hbd : ¬ (some d = some b) := by
   intro e;exact map_ne_cells M4.out B4.out (by simpa using e.symm)
  have T6 : Turn F w w1 := T4.out.then (Turn.of_grown g6) (fun i e => by
   have e : i = b := by simpa using e
   subst e;exact .inl hFb)
  refine ⟨⟨⟨some b, ?_, .inr ⟨b, rfl, hFb, m7⟩⟩, HS.out.own, fun i h => Nat.lt_of_lt_of_le (HS.out.low i h) T6.size, HS.out.most, ?_, ?_, ?_, delK_rise HS.out.rise, fun p hp => HS.out.names p (mem_delK.1 hp).1⟩, ⟨T6, fun _ => .inl⟩, U4.out.trans (u8_map M4.out g6)⟩
  ·rw [HSUM.out];exact B4.out.turn (Turn.of_grown g6) hbd
  ·have h1 := HS.out.used;have h2 := sumK_del filL s.data.toList HS.out.rise;omega
  ·exact Nat.le_trans (List.length_filter_le _ _) HS.out.few
  ·exact fun p hp => HS.out.shape p (mem_delK.1 hp).1
 clear own1 turn1 m7 d2;go_end0;exact ⟨rfl, KE⟩
end Go.Proofs.YtedlibkkeegnaaaGreat
namespace Go.Proofs.YtedlibkkeegnaaaGreat
open Go.RowKit Go.Maps
variable {w w' : World} {F G F' : Nat -> Prop} {L : DiskL} {B room l d : Nat}
theorem Next.of_more {w0 : World} (t : Turn F w0 w) (h : Next G w F' w') (hG : ∀ k, G k -> F k \/ w0.heap.size <= k) : Next F w0 F' w' :=
 ⟨t.then h.turn hG, fun k hk => by
  rcases h.foot k hk with h1 | h1
  ·exact hG k h1
  ·exact .inr (Nat.le_trans t.size h1)⟩
theorem disk_found {k : Str} {xs : List Nat} (h : DiskAt w F d room L) (hg : getK k L = some (xs, l)) :
  ∃ X A c, L = absX X /\ Shell w F d room X /\ Files w F X /\ getK k X = some (.slice A xs.length c, xs, l) /\ Own w 0 (.slice A xs.length c) xs /\ (∀ x ∈ xs, x < 256) /\ l <= xs.length /\ xs.length <= 1073741824 := by
 obtain ⟨X, rfl, hs, hf⟩ := h;rw [absX_get] at hg;rcases hx : getK k X with _ | a
 ·rw [hx] at hg; cases hg
 ·rw [hx] at hg;simp only [Option.map_some, Option.some.injEq] at hg;have hm := getK_mem hx;obtain ⟨⟨A, c, e⟩, hl⟩ := hs.shape _ hm;obtain ⟨ho, _, hb⟩ := hf.each _ hm;obtain ⟨v, ys, m⟩ := a;simp only [Prod.mk.injEq] at hg e hl ho hb;obtain ⟨rfl, rfl⟩ := hg;subst e;refine ⟨X, A, c, rfl, hs, hf, hx, ho, hb, hl, ?_⟩;have h1 := sumK_del filL k hs.rise;rw [hx] at h1;have h2 := hs.used;have h3 := hs.most;have h4 : ((some ((Value.slice A ys.length c, ys, m) : Fil)).map filL).getD 0 = ys.length := rfl;rw [h4] at h1;omega
theorem disk_missing {k : Str} (h : DiskAt w F d room L) (hg : getK k L = none) : ∃ X, L = absX X /\ Shell w F d room X /\ Files w F X /\ getK k X = none := by
 obtain ⟨X, rfl, hs, hf⟩ := h;rw [absX_get] at hg;rcases hx : getK k X with _ | a
 ·exact ⟨X, rfl, hs, hf, hx⟩
 ·rw [hx] at hg; cases hg
theorem find_some (F : Nat -> Prop) (d room : Nat) (X : List (Str × Fil)) (s : ByteArray) (A : Option Addr) (n c l : Nat) (xs : List Nat) (w : World) (hS : Shell w F d room X) (hs : s.size <= 1099511627776) (hg : getK s.data.toList X = some (.slice A n c, xs, l)) :
  Calls Tryz.prog 84 #[.pointer (some ⟨d, 0, none⟩), .string s] w fun e w' => e = .returned (.tuple #[.agg #[.slice A n c, .int .i64 (l : Int)], .bool true]) /\ Below w.heap.size w w' := by
 have h := find_any F d room X s w hS (by unfold maxLen; omega);rw [hg] at h;exact h
theorem find_none (F : Nat -> Prop) (d room : Nat) (X : List (Str × Fil)) (s : ByteArray) (w : World) (hS : Shell w F d room X) (hs : s.size <= 1099511627776) (hg : getK s.data.toList X = none) :
  Calls Tryz.prog 84 #[.pointer (some ⟨d, 0, none⟩), .string s] w fun e w' => e = .returned (.tuple #[.agg #[.slice none 0 0, .int .i64 0], .bool false]) /\ Below w.heap.size w w' := by
 have h := find_any F d room X s w hS (by unfold maxLen; omega);rw [hg] at h;exact h
theorem lay_disk (F : Nat -> Prop) (d room : Nat) (X : List (Str × Fil)) (s : ByteArray) (A : Option Addr) (n c l : Nat) (xs : List Nat) (w : World) (hS : Shell w F d room X) (hf : Files w F (delK s.data.toList X)) (hs : s.size <= 64) (hn : xs.length = n) (hl : l <= n)
  (ho : Own w 0 (.slice A n c) xs) (hb : ∀ x ∈ xs, x < 256) (hF : ∀ g, (Value.slice A n c).ownBlock = some g -> F g /\ ∀ p ∈ delK s.data.toList X, p.2.1.ownBlock ≠ some g)
  (hu : sumK filL (delK s.data.toList X) + n <= room) (hfew : (getK s.data.toList X).isSome = true \/ X.length < 256) :
  Calls Tryz.prog 29 #[.pointer (some ⟨d, 0, none⟩), .string s, .agg #[.slice A n c, .int .i64 l]] w fun e w' => e = .returned (.tuple #[]) /\
   ∃ F', DiskAt w' F' d room (putK s.data.toList (xs, l) (absX X)) /\ Next F w F' w' := by
 refine (lay_any F d room X s A n c l xs w hS hs hn hl ?_ ?_).mono ?_
 ·rw [sumK_put]
  show _ + xs.length <= room
  omega
 ·rw [length_put hS.rise];have := hS.few;rcases hfew with h | h
  ·rw [h]; exact this
  ·split <;> omega
 ·rintro e w' ⟨rfl, F', h1, h2, h3, h4⟩;refine ⟨rfl, F', ⟨putK s.data.toList ((.slice A n c, xs, l) : Fil) X, (absX_put s.data.toList ((.slice A n c, xs, l) : Fil) X).symm, h1, ?_⟩, h2⟩;exact (hf.u8 h3 h4).put (h3.own ho) (fun g hg => h4 g (hF g hg).1) hb (fun p hp g hg => (hF g hg).2 p hp)
theorem Files.grown {X : List (Str × Fil)} {k : Str} {a : Fil} (h : Files w F X) (hx : getK k X = some a) (g : w.grownBy w' a.1.ownBlock) : Files w' F (delK k X) := by
 have hs := h.sub (Y := delK k X) (fun p hp => (mem_delK.1 hp).1);refine ⟨fun p hp => ⟨?_, (hs.each p hp).2⟩, hs.apart⟩;refine (hs.each p hp).1.turn (Turn.of_grown g) ?_;intro i hi e;have h1 := h.apart p (mem_delK.1 hp).1 _ (getK_mem hx) (mem_delK.1 hp).2 i hi;exact h1 e.symm
theorem Shell.grown {X : List (Str × Fil)} {v : Value} {xs : List Nat} (h : Shell w F d room X) (ho : Own w B v xs) (g : w.grownBy w' v.ownBlock) : Shell w' F d room X := by
 unfold Own at ho;rcases ho.2 with ⟨rfl, _⟩ | ⟨i, cap, cur, rfl, _, hi, _⟩
 ·refine h.turn (S := fun _ => False) ⟨g.os, g.tape, g.output, g.size, fun k hk _ => g.block k hk ?_⟩ (fun _ _ => id);simp [Value.ownBlock]
 ·exact h.bytes hi g
theorem Own.down {B' : Nat} {v : Value} {xs : List Nat} (h : Own w B v xs) (hb : B' <= B) : Own w B' v xs := h.more hb
theorem new_any (room : Nat) (w : World) (h : room <= 1073741824) :
  Calls Tryz.prog 6 #[.int .i64 (room : Int)] w fun e w' => ∃ d F, e = .returned (.tuple #[.pointer (some ⟨d, 0, none⟩), .int .i64 0]) /\ DiskAt w' F d room [] /\ (∀ k, F k -> w.heap.size <= k) /\ Below w.heap.size w w' := by
 go_enter Tryz.func6, Tryz.ntmps6;go_wp2_with fail
 go_ret2;refine ⟨w.heap.size, fun k => k = w.heap.size, rfl, ⟨[], rfl, ⟨⟨none, Blk.new (B := 0) w _ _ (Nat.zero_le _), .inl ⟨rfl, rfl⟩⟩, rfl, ?_, h, Nat.zero_le _, Nat.zero_le _, (fun p hp => by cases hp), List.Pairwise.nil, (fun p hp => by cases hp)⟩, ⟨(fun p hp => by cases hp), fun p hp => by cases hp⟩⟩, fun k hk => by omega, below_alloc _ _⟩;rintro k rfl;simp
set_option maxHeartbeats 800000 in
theorem read_some (F : Nat -> Prop) (d room : Nat) (L : DiskL) (s : ByteArray) (xs : List Nat) (l : Nat) (w : World) (hD : DiskAt w F d room L) (hs : s.size <= 1099511627776) (hg : getK s.data.toList L = some (xs, l)) :
  Calls Tryz.prog 62 #[.pointer (some ⟨d, 0, none⟩), .string s] w fun e w' => ∃ v, e = .returned (.tuple #[v, .int .i64 0]) /\ Own w' w.heap.size v xs /\ Below w.heap.size w w' := by
 obtain ⟨X, A, c, rfl, hS, hf, hx, ho, hb, hl, hlen⟩ := disk_found hD hg;obtain ⟨n, hn⟩ : ∃ n, n = xs.length := ⟨_, rfl⟩;rw [<- hn] at hx ho hl hlen;have FS := hide (find_some F d room X s A n c l xs w hS hs hx);have HI := hide ho.isB;have HN := hide hn;clear hD hg hS hf hx ho hn;go_enter Tryz.func62, Tryz.ntmps62;go_wp2_with fail
 refine FS.out.mono ?_;rintro e w1 ⟨rfl, k1⟩;have k2 := below_step k1 (below_alloc w1 (.cells #[.slice A n c, .int .i64 (l : Int)] 74));have b2 := Blk.new (B := 0) w1 74 #[.slice A n c, .int .i64 (l : Int)] (Nat.zero_le _);have I2 := hide (HI.out.keep k2);have K2 := hide k2;clear k1 k2 b2;go_wp2_with fail
 refine (clone_any A n c xs _ I2.out HN.out.symm (by omega)).mono ?_;rintro e w3 ⟨v, rfl, o3, k3⟩;have O3 := hide (o3.down K2.out.size);have K3 := hide (below_step K2.out k3);clear o3 k3;go_wp2_with fail
 go_ret2;exact ⟨v, rfl, O3.out, K3.out⟩
theorem read_none (F : Nat -> Prop) (d room : Nat) (L : DiskL) (s : ByteArray) (w : World) (hD : DiskAt w F d room L) (hs : s.size <= 1099511627776) (hg : getK s.data.toList L = none) :
  Calls Tryz.prog 62 #[.pointer (some ⟨d, 0, none⟩), .string s] w fun e w' => e = .returned (.tuple #[.slice none 0 0, .int .i64 7]) /\ Below w.heap.size w w' := by
 obtain ⟨X, rfl, hS, hf, hx⟩ := disk_missing hD hg;have FS := hide (find_none F d room X s w hS hs hx);clear hD hg hS hf hx;go_enter Tryz.func62, Tryz.ntmps62;go_wp2_with fail
 refine FS.out.mono ?_;rintro e w1 ⟨rfl, k1⟩;have K2 := hide (below_step k1 (below_alloc w1 (.cells #[.slice none 0 0, .int .i64 0] 74)));clear k1;go_wp2_with fail
 go_ret2;exact ⟨rfl, K2.out⟩
theorem remove_some (F : Nat -> Prop) (d room : Nat) (L : DiskL) (s : ByteArray) (a : List Nat × Nat) (w : World) (hD : DiskAt w F d room L) (hs : s.size <= 1099511627776) (hg : getK s.data.toList L = some a) :
  Calls Tryz.prog 91 #[.pointer (some ⟨d, 0, none⟩), .string s] w fun e w' => e = .returned (.int .i64 0) /\ DiskAt w' F d room (delK s.data.toList L) /\ Next F w F w' := by
 obtain ⟨xs, l⟩ := a;obtain ⟨X, A, c, rfl, hS, hf, hx, ho, hb, hl, hlen⟩ := disk_found hD hg;obtain ⟨n, hn⟩ : ∃ n, n = xs.length := ⟨_, rfl⟩;rw [<- hn] at hx ho hl hlen;have FS := hide (find_some F d room X s A n c l xs w hS hs hx);have HS := hide hS;have HF := hide hf;have HX := hide hx;clear hD hg hS hf hx ho hn;go_enter Tryz.func91, Tryz.ntmps91;go_wp2_with fail
 refine FS.out.mono ?_;rintro e w1 ⟨rfl, k1⟩;have k2 := below_step k1 (below_alloc w1 (.cells #[.slice A n c, .int .i64 (l : Int)] 74));have S2 := hide (HS.out.below k2);have F2 := hide (HF.out.turn (S := fun _ => False) (Turn.of_below _ k2) (fun _ _ => id));have K2 := hide k2;clear k1 k2;go_wp2_with fail
 refine (drop_any F d room X s _ _ S2.out hs HX.out).mono ?_;rintro e w3 ⟨rfl, s3, n3, u3⟩;have KE := hide (And.intro (show DiskAt w3 F d room (delK s.data.toList (absX X)) from ⟨delK s.data.toList X, (absX_del _ _).symm, s3, (F2.out.sub (fun p hp => (mem_delK.1 hp).1)).u8 u3 (fun _ => id)⟩) ((Next.of_below F K2.out).trans n3));clear s3 n3 u3;go_wp2_with fail
 go_ret;exact ⟨rfl, KE.out⟩
theorem remove_none (F : Nat -> Prop) (d room : Nat) (L : DiskL) (s : ByteArray) (w : World) (hD : DiskAt w F d room L) (hs : s.size <= 1099511627776) (hg : getK s.data.toList L = none) :
  Calls Tryz.prog 91 #[.pointer (some ⟨d, 0, none⟩), .string s] w fun e w' => e = .returned (.int .i64 7) /\ Below w.heap.size w w' := by
 obtain ⟨X, rfl, hS, hf, hx⟩ := disk_missing hD hg;have FS := hide (find_none F d room X s w hS hs hx);clear hD hg hS hf hx;go_enter Tryz.func91, Tryz.ntmps91;go_wp2_with fail
 refine FS.out.mono ?_;rintro e w1 ⟨rfl, k1⟩;have K2 := hide (below_step k1 (below_alloc w1 (.cells #[.slice none 0 0, .int .i64 0] 74)));clear k1;go_wp2_with fail
 go_ret;exact ⟨rfl, K2.out⟩
set_option maxHeartbeats 800000 in
theorem sync_some (F : Nat -> Prop) (d room : Nat) (L : DiskL) (s : ByteArray) (xs : List Nat) (l : Nat) (w : World) (hD : DiskAt w F d room L) (hs : s.size <= 1099511627776) (hg : getK s.data.toList L = some (xs, l)) :
  Calls Tryz.prog 70 #[.pointer (some ⟨d, 0, none⟩), .string s] w fun e w' => e = .returned (.int .i64 0) /\ ∃ F', DiskAt w' F' d room (putK s.data.toList (xs, xs.length) L) /\ Next F w F' w' := by
 obtain ⟨X, A, c, rfl, hS, hf, hx, ho, hb, hl, hlen⟩ := disk_found hD hg;obtain ⟨n, hn⟩ : ∃ n, n = xs.length := ⟨_, rfl⟩;rw [<- hn] at hx ho hl hlen ⊢;have FS := hide (find_some F d room X s A n c l xs w hS hs hx);have HS := hide hS;have HF := hide hf;have HX := hide hx;have HO := hide ho;have HB := hide hb;have HN := hide hn;have HFG : Hid (∀ g, (Value.slice A n c).ownBlock = some g -> F g /\ ∀ p ∈ delK s.data.toList X, p.2.1.ownBlock ≠ some g) := fun g hg => ⟨(hf.each _ (getK_mem hx)).2.1 g hg, fun p hp => hf.apart _ (getK_mem hx) p (mem_delK.1 hp).1 (fun e => (mem_delK.1 hp).2 e.symm) g hg⟩
 have HU : Hid (sumK filL (delK s.data.toList X) + n <= room) := by
  have h1 := sumK_del filL s.data.toList hS.rise;rw [hx] at h1;have h4 : ((some ((Value.slice A n c, xs, l) : Fil)).map filL).getD 0 = xs.length := rfl;rw [h4] at h1;have h2 := hS.used;unfold Hid;omega
 clear hD hg hS hf hx ho hn;go_enter Tryz.func70, Tryz.ntmps70;go_wp2_with fail
 refine FS.out.mono ?_;rintro e w1 ⟨rfl, k1⟩;have k2 := below_step k1 (below_alloc w1 (.cells #[.slice A n c, .int .i64 (n : Int)] 74));have S2 := hide (HS.out.below k2);have F2 := hide (HF.out.turn (S := fun _ => False) (Turn.of_below _ k2) (fun _ _ => id));have O2 := hide (HO.out.turn (S := fun _ => False) (Turn.of_below _ k2) (fun _ _ => id));have K2 := hide k2;clear k1 k2;go_wp2_with fail
 refine (lay_disk F d room X s A n c n xs _ S2.out (F2.out.sub (fun p hp => (mem_delK.1 hp).1)) (HS.out.names _ (getK_mem HX.out)) HN.out.symm (Nat.le_refl _) O2.out HB.out HFG.out HU.out (.inl (by rw [HX.out]; rfl))).mono ?_;rintro e w3 ⟨rfl, F', d3, n3⟩;have KE := hide (And.intro d3 ((Next.of_below F K2.out).trans n3));clear d3 n3;go_wp2_with fail
 go_ret;exact ⟨rfl, F', KE.out⟩
theorem sync_none (F : Nat -> Prop) (d room : Nat) (L : DiskL) (s : ByteArray) (w : World) (hD : DiskAt w F d room L) (hs : s.size <= 1099511627776) (hg : getK s.data.toList L = none) :
  Calls Tryz.prog 70 #[.pointer (some ⟨d, 0, none⟩), .string s] w fun e w' => e = .returned (.int .i64 7) /\ Below w.heap.size w w' := by
 obtain ⟨X, rfl, hS, hf, hx⟩ := disk_missing hD hg;have FS := hide (find_none F d room X s w hS hs hx);clear hD hg hS hf hx;go_enter Tryz.func70, Tryz.ntmps70;go_wp2_with fail
 refine FS.out.mono ?_;rintro e w1 ⟨rfl, k1⟩;have K2 := hide (below_step k1 (below_alloc w1 (.cells #[.slice none 0 0, .int .i64 0] 74)));clear k1;go_wp2_with fail
 go_ret;exact ⟨rfl, K2.out⟩
end Go.Proofs.YtedlibkkeegnaaaGreat
namespace Go.Proofs.YtedlibkkeegnaaaGreat
open Go.RowKit
set_option maxRecDepth 100000 in
set_option maxHeartbeats 1600000 in
theorem cutF_any (A : Option Addr) (n c l k : Nat) (xs : List Nat) (w : World) (hA : IsB w (.slice A n c) xs) (hn : xs.length = n) (hk : k <= n) (h3 : n <= 1099511627776) :
  Calls Tryz.prog 28 #[.agg #[.slice A n c, .int .i64 (l : Int)], .int .i64 (k : Int)] w fun e w' => ∃ A' c', e = .returned (.agg #[.slice A' k c', .int .i64 ((min l k : Nat) : Int)]) /\ Own w' w.heap.size (.slice A' k c') (xs.take k) /\ Below w.heap.size w w' := by
 have HA := hide hA;have HN := hide hn;have hc := hA.form (n := n) hn;obtain ⟨_, _, e, hi, hnc, hc63⟩ := hc;cases e
 clear hi;have hkc : (k : Int) <= (c : Int) := by omega
 have HT : Hid ((xs.take k).length = k) := by unfold Hid; rw [List.length_take]; omega
 clear hA hn;go_enter Tryz.func28, Tryz.ntmps28;go_wp2_with fail
 have k1 := below_alloc w (.cells #[.slice A n c, .int .i64 (l : Int)] 74);have b1 := Blk.new (B := 0) w 74 #[.slice A n c, .int .i64 (l : Int)] (Nat.zero_le _);have k2 := below_alloc (w.alloc (.cells #[.slice A n c, .int .i64 (l : Int)] 74)) (.cells #[.slice none 0 0, .int .i64 0] 74);have b2 := Blk.new (B := 0) (w.alloc (.cells #[.slice A n c, .int .i64 (l : Int)] 74)) 74 #[.slice none 0 0, .int .i64 0] (Nat.zero_le _);have e1 : (w.alloc (.cells #[.slice A n c, .int .i64 (l : Int)] 74)).heap.size = w.heap.size + 1 := by simp
 rw [e1] at b2;have b1 := b1.keep k2;obtain ⟨W2, hW2⟩ : ∃ W2, W2 = (w.alloc (.cells #[.slice A n c, .int .i64 (l : Int)] 74)).alloc (.cells #[.slice none 0 0, .int .i64 0] 74) := ⟨_, rfl⟩;have K2 := below_step k1 k2;rw [<- hW2] at b1 b2 K2 ⊢;have HW2 := hide hW2;clear hW2 e1 k1 k2;have f0 : W2.cell? ⟨w.heap.size, 0, none⟩ = some (.slice A n c) := b1.cell 0;have f1 : W2.cell? ⟨w.heap.size, 1, none⟩ = some (.int .i64 (l : Int)) := b1.cell 1;have q0 : W2.cell? ⟨w.heap.size + 1, 0, none⟩ = some (.slice none 0 0) := b2.cell 0;have q1 : W2.cell? ⟨w.heap.size + 1, 1, none⟩ = some (.int .i64 0) := b2.cell 1;have HB2 := hide b2;have KK := hide K2;have IT := hide ((HA.out.keep K2).take k hk);clear b1 b2 K2
 go_region_with (go_at_call 43; refine (clone_any A k c (xs.take k) _ (by exact IT.out) HT.out (by omega)).mono ?_; rintro e w5 ⟨s5, rfl, o5, k5⟩; obtain ⟨A5, c5, rfl, i5, l5, m5⟩ := o5.isB.form (n := k) HT.out; have K5 : Below W2.heap.size W2 w5 := ⟨k5.os, k5.tape, k5.output, k5.size, k5.block⟩; have f05 := (K5.cell (cell_lt f0)).trans f0; have f15 := (K5.cell (cell_lt f1)).trans f1; have q05 := (K5.cell (cell_lt q0)).trans q0; have q15 := (K5.cell (cell_lt q1)).trans q1; have B5 := HB2.out.keep K5; have z0 := B5.frozen 0; have z1 := B5.frozen 1)
 all_goals
  have B7 := (B5.stored 0 (.slice A5 k c5)).stored 1 (.int .i64 (min (l : Int) (k : Int)));have g7 : w5.grownBy ((w5.setCell ⟨w.heap.size + 1, 0, none⟩ (.slice A5 k c5)).setCell ⟨w.heap.size + 1, 1, none⟩ (.int .i64 (min (l : Int) (k : Int)))) (some (w.heap.size + 1)) := (grown_set w5 _ 0 _).trans (grown_set _ _ 1 _);have o7 : Own ((w5.setCell ⟨w.heap.size + 1, 0, none⟩ (.slice A5 k c5)).setCell ⟨w.heap.size + 1, 1, none⟩ (.int .i64 (min (l : Int) (k : Int)))) w.heap.size (.slice A5 k c5) (xs.take k) := by
   refine Own.turn (o5.more (by exact KK.out.size)) (Turn.of_grown g7) ?_;intro g hg e;have e : g = w.heap.size + 1 := by simpa using e
   subst e;have h1 := (o5.lt _ hg).1;have h2 := HB2.out.lt;have h3 : W2.drew.heap.size = W2.heap.size := rfl;omega
  have K7 : Below w.heap.size w ((w5.setCell ⟨w.heap.size + 1, 0, none⟩ (.slice A5 k c5)).setCell ⟨w.heap.size + 1, 1, none⟩ (.int .i64 (min (l : Int) (k : Int)))) :=
   ((below_step KK.out K5)).grown g7 (Nat.le_trans KK.out.size K5.size) (fun j e => by cases e; omega)
  obtain ⟨W7, hW7⟩ : ∃ W7, W7 = ((w5.setCell ⟨w.heap.size + 1, 0, none⟩ (.slice A5 k c5)).setCell ⟨w.heap.size + 1, 1, none⟩ (.int .i64 (min (l : Int) (k : Int)))) := ⟨_, rfl⟩;rw [<- hW7] at B7 o7 K7 ⊢;clear f05 f15 q05 q15 z0 z1 f0 f1 q0 q1 hW7 g7 k5;have x0 : W7.cell? ⟨w.heap.size + 1, 0, none⟩ = some (.slice A5 k c5) := B7.cell 0;have x1 : W7.cell? ⟨w.heap.size + 1, 1, none⟩ = some (.int .i64 (min (l : Int) (k : Int))) := B7.cell 1;go_wp2_with fail
  have em : ((min l k : Nat) : Int) = min (l : Int) (k : Int) := by omega
  rw [em];refine bodyPost_ret (v := .agg #[.slice A5 k c5, .int .i64 (min (l : Int) (k : Int))]) (by simp [results, Tryz.results28, go_sem, x0, x1]) rfl ⟨A5, c5, rfl, o7, K7⟩
end Go.Proofs.YtedlibkkeegnaaaGreat
namespace Go.Proofs.YtedlibkkeegnaaaGreat
open Go.RowKit Go.Maps
variable {w w1 : World} {F : Nat -> Prop}
theorem length_del {α : Type} {k : Str} {a : α} {l : List (Str × α)} (h : Rise l) (hg : getK k l = some a) : (delK k l).length + 1 = l.length := by
 have h1 := length_put (k := k) (a := a) h;rw [hg] at h1;have h2 : (putK k a l).length = (delK k l).length + 1 := length_insK _ _;rw [h2] at h1;simpa using h1
theorem cutD_none (F : Nat -> Prop) (d room : Nat) (L : DiskL) (s : ByteArray) (z : Int) (w : World) (hD : DiskAt w F d room L) (hs : s.size <= 1099511627776) (hg : getK s.data.toList L = none) :
  Calls Tryz.prog 93 #[.pointer (some ⟨d, 0, none⟩), .string s, .int .i64 z] w fun e w' => e = .returned (.int .i64 7) /\ Below w.heap.size w w' := by
 obtain ⟨X, rfl, hS, hf, hx⟩ := disk_missing hD hg;have FS := hide (find_none F d room X s w hS hs hx);clear hD hg hS hf hx;go_enter Tryz.func93, Tryz.ntmps93;go_wp2_with fail
 refine FS.out.mono ?_;rintro e w1 ⟨rfl, k1⟩;have K2 := hide (below_step k1 (below_alloc w1 (.cells #[.slice none 0 0, .int .i64 0] 74)));clear k1;go_wp2_with fail
 go_ret;exact ⟨rfl, K2.out⟩
theorem cutD_arg (F : Nat -> Prop) (d room : Nat) (L : DiskL) (s : ByteArray) (xs : List Nat) (l : Nat) (z : Int) (w : World) (hD : DiskAt w F d room L) (hs : s.size <= 1099511627776) (hg : getK s.data.toList L = some (xs, l)) (hz : z < 0 \/ (xs.length : Int) < z) :
  Calls Tryz.prog 93 #[.pointer (some ⟨d, 0, none⟩), .string s, .int .i64 z] w fun e w' => e = .returned (.int .i64 1) /\ Below w.heap.size w w' := by
 obtain ⟨X, A, c, rfl, hS, hf, hx, ho, hb, hl, hlen⟩ := disk_found hD hg;obtain ⟨n, hn⟩ : ∃ n, n = xs.length := ⟨_, rfl⟩;rw [<- hn] at hx ho hl hlen hz;have FS := hide (find_some F d room X s A n c l xs w hS hs hx);clear hD hg hS hf hx ho hn;rcases hz with hz | hz
 ·go_enter Tryz.func93, Tryz.ntmps93;go_wp2_with fail
  refine FS.out.mono ?_;rintro e w1 ⟨rfl, k1⟩;have K2 := hide (below_step k1 (below_alloc w1 (.cells #[.slice A n c, .int .i64 (l : Int)] 74)));clear k1;go_wp2_with fail
  go_ret;exact ⟨rfl, K2.out⟩
 ·have hz0 : ¬ z < 0 := by omega
  go_enter Tryz.func93, Tryz.ntmps93;go_wp2_with fail
  refine FS.out.mono ?_;rintro e w1 ⟨rfl, k1⟩;have K2 := hide (below_step k1 (below_alloc w1 (.cells #[.slice A n c, .int .i64 (l : Int)] 74)));clear k1;go_wp2_with fail
  go_ret;exact ⟨rfl, K2.out⟩
theorem off_others {X : List (Str × Fil)} {k : Str} {v : Value} {xs : List Nat} (hf : Files w F X) (hlow : ∀ g, F g -> g < w.heap.size) (ho : Own w1 w.heap.size v xs) :
  ∀ g, v.ownBlock = some g -> ∀ p ∈ delK k X, p.2.1.ownBlock ≠ some g := fun g hg p hp e => by
 have h1 := (ho.lt g hg).1;have h2 := hlow g ((hf.each p (mem_delK.1 hp).1).2.1 g e);omega
set_option maxHeartbeats 1600000 in
theorem cutD_ok (F : Nat -> Prop) (d room : Nat) (L : DiskL) (s : ByteArray) (xs : List Nat) (l k : Nat) (w : World) (hD : DiskAt w F d room L) (hs : s.size <= 1099511627776) (hg : getK s.data.toList L = some (xs, l)) (hk : k <= xs.length) :
  Calls Tryz.prog 93 #[.pointer (some ⟨d, 0, none⟩), .string s, .int .i64 (k : Int)] w fun e w' => e = .returned (.int .i64 0) /\ ∃ F', DiskAt w' F' d room (putK s.data.toList (xs.take k, min l k) L) /\ Next F w F' w' := by
 obtain ⟨X, A, c, rfl, hS, hf, hx, ho, hb, hl, hlen⟩ := disk_found hD hg;obtain ⟨n, hn⟩ : ∃ n, n = xs.length := ⟨_, rfl⟩;rw [<- hn] at hx ho hl hlen hk;have FS := hide (find_some F d room X s A n c l xs w hS hs hx);have HS := hide hS;have HF := hide hf;have HX := hide hx;have HI := hide ho.isB;have HB := hide hb;have HN := hide hn;have HT : Hid ((xs.take k).length = k) := by unfold Hid; rw [List.length_take]; omega
 have HU : Hid (sumK filL (delK s.data.toList X) + k <= room) := by
  have h1 := sumK_del filL s.data.toList hS.rise;rw [hx] at h1;have h4 : ((some ((Value.slice A n c, xs, l) : Fil)).map filL).getD 0 = xs.length := rfl;rw [h4] at h1;have h2 := hS.used;unfold Hid;omega
 have hkz : ¬ ((k : Int) < 0) := by omega
 have hkn : (k : Int) <= (n : Int) := by omega
 have hkn2 : ¬ ((n : Int) < (k : Int)) := by omega
 clear hD hg hS hf hx ho hn;go_enter Tryz.func93, Tryz.ntmps93;go_wp2_with fail
 refine FS.out.mono ?_;rintro e w1 ⟨rfl, k1⟩;have k2 := below_step k1 (below_alloc w1 (.cells #[.slice A n c, .int .i64 (l : Int)] 74));have S2 := hide (HS.out.below k2);have F2 := hide (HF.out.turn (S := fun _ => False) (Turn.of_below _ k2) (fun _ _ => id));have I2 := hide (HI.out.keep k2);have K2 := hide k2;clear k1 k2;go_wp2_with fail
 refine (cutF_any A n c l k xs _ I2.out HN.out.symm hk (by omega)).mono ?_;rintro e w3 ⟨A3, c3, rfl, o3, k3⟩;have F3 := F2.out.turn (S := fun _ => False) (Turn.of_below _ k3) (fun _ _ => id);have hlow2 : ∀ g, F g -> g < (w1.alloc (.cells #[.slice A n c, .int .i64 (l : Int)] 74)).heap.size := fun g hg => Nat.lt_of_lt_of_le (HS.out.low g hg) K2.out.size
 have OO := hide (off_others (k := s.data.toList) F2.out hlow2 o3);have S3 := (S2.out.below k3).more (F' := fun g => F g \/ (Value.slice A3 k c3).ownBlock = some g) (fun g => .inl) (fun g hg => by
  rcases hg with h | h
  ·exact Nat.lt_of_lt_of_le (hlow2 g h) k3.size
  ·exact (o3.lt g h).2)
 have hG : ∀ g, (F g \/ (Value.slice A3 k c3).ownBlock = some g) -> F g \/ w.heap.size <= g := fun g hg => by
  rcases hg with h | h
  ·exact .inl h
  ·exact .inr (Nat.le_trans K2.out.size (o3.lt g h).1)
 have S3 := hide S3;have F3 := hide ((F3.sub (fun p (hp : p ∈ delK s.data.toList X) => (mem_delK.1 hp).1)).u8 (U8.refl w3) (F' := fun g => F g \/ (Value.slice A3 k c3).ownBlock = some g) (fun g => .inl));have O3 := hide (o3.down (Nat.zero_le _));have K3 := hide (below_step K2.out k3);have HG := hide hG;clear o3 k3 hlow2 hG;go_wp2_with fail
 refine (lay_disk _ d room X s A3 k c3 (min l k) (xs.take k) _ S3.out F3.out (HS.out.names _ (getK_mem HX.out)) HT.out (Nat.min_le_right _ _) O3.out (fun x hx => HB.out x (List.mem_of_mem_take hx)) (fun g hg => ⟨.inr hg, OO.out g hg⟩) HU.out (.inl (by rw [HX.out]; rfl))).mono ?_;rintro e w4 ⟨rfl, F', d4, n4⟩;have KE := hide (And.intro d4 (Next.of_more (Turn.of_below F K3.out) n4 HG.out));clear d4 n4;go_wp2_with fail
 go_ret;exact ⟨rfl, F', KE.out⟩
end Go.Proofs.YtedlibkkeegnaaaGreat
