/- The contracts of the disk's own lay and drop. Condition: a name is no longer than the model's strings. The contract of the disk's own drop: a file is taken away -/
import Derived.Test.YtbmhfnhfhdgdgaaVn12
import Derived.Test.YtbmhfnhfhdgdgaaVn17
import Derived.Deep.RegionLaw
import Derived.Deep.Cut
namespace Go.Proofs.Ytbmhfnhfhdgdgaa
open Go.RowKit Go.Maps Go.WideMaps
variable {w w5 w6 : World} {F : Nat -> Prop} {room l d m n c b : Nat}
theorem field_data (A : Option Addr) (n c : Nat) (l : Int) (w : World) : (Instr.field 77 (.agg #[.slice A n c, .int .i64 l]) 0).run Try.prog w = .ok (.slice A n c) w := by kernel_rfl
theorem lay_end {X : List (Str × Fil)} {k : Str} {A : Option Addr} {xs : List Nat} {W3 : World} (hS : Shell w F d room X) (hn : xs.length = n) (hl : l <= n)
  (hp : sumK filL (putK k ((.slice A n c, xs, l) : Fil) X) = m) (hu : sumK filL (putK k ((.slice A n c, xs, l) : Fil) X) <= room) (hfew : (putK k ((.slice A n c, xs, l) : Fil) X).length <= 256)
  (hk : k.length <= 64) (hb : F b \/ w.heap.size <= b) (hB : Blk W3 0 56 d [.int .i64 (room : Int), .int .i64 ((m : Nat) : Int), .map (some b)]) (ht : Turn F w W3) (hu8 : U8 w W3) (m3 : W3.ownsMap Try.prog 9 tok b X.length (strP filV X)) (K5 : Below W3.heap.size W3 w5)
  (m6 : w6.ownsMap Try.prog 9 tok b (X.length + 1) ((strP filV X).put (.string k) (.held (.agg #[.slice A n c, .int .i64 (l : Int)])))) (g6 : w5.grownBy w6 (some b)) :
  ∃ F', Shell w6 F' d room (putK k ((.slice A n c, xs, l) : Fil) X) /\ Next F w F' w6 /\ U8 w w6 /\ (∀ k, F k -> F' k) := by
 have hd : d < w.heap.size := hS.low d hS.own;have em : (strP filV X).put (.string k) (.held (.agg #[.slice A n c, .int .i64 (l : Int)])) = strP filV (putK k ((.slice A n c, xs, l) : Fil) X) := strP_put filV k ((.slice A n c, xs, l) : Fil) X;rw [em] at m6;have m7 := ownsMap_tight m6;rw [strP_size] at m7;have m5 := ownsMap_turn (S := fun _ => False) m3 (Turn.of_below _ K5) id;have B5 := hB.keep K5;have hbd : ¬ (some d = some b) := by
  intro e;have e : d = b := by simpa using e
  subst e;obtain ⟨_, c5, h5, _⟩ := B5;exact not_map_cells m5 h5
 have t6 : Turn (fun i => some i = some b) w5 w6 := Turn.of_grown g6;have h35 : W3.heap.size <= w5.heap.size := K5.size;have T6 : Turn F w w6 := (ht.trans (Turn.of_below F K5)).then t6 (fun i e => by
  have e : i = b := by simpa using e
  subst e;exact hb)
 have hb6 : b < w6.heap.size := m6.lt;refine ⟨fun i => F i \/ (w.heap.size <= i /\ i < w6.heap.size), ⟨⟨some b, ?_, .inr ⟨b, rfl, ?_, m7⟩⟩, .inl hS.own, ?_, hS.most, hu, hfew, ?_, putK_rise hS.rise, ?_⟩, ⟨T6, fun i hi => ?_⟩, ?_, fun i => .inl⟩
 ·rw [hp];exact B5.turn t6 hbd
 ·rcases hb with h | h
  ·exact .inl h
  ·exact .inr ⟨h, hb6⟩
 ·rintro i (h | h)
  ·exact Nat.lt_of_lt_of_le (hS.low i h) T6.size
  ·exact h.2
 ·intro p hp;rcases mem_putK.1 hp with rfl | ⟨hp, _⟩
  ·exact ⟨⟨A, c, by show Value.slice A n c = _; rw [hn]⟩, by show l <= xs.length; omega⟩
  ·exact hS.shape p hp
 ·intro p hp;rcases mem_putK.1 hp with rfl | ⟨hp, _⟩
  ·exact hk
  ·exact hS.names p hp
 ·rcases hi with h | h
  ·exact .inl h
  ·exact .inr h.1
 ·refine (hu8.trans (U8.of_below K5)).trans ?_;intro g cur hg;rw [g6.block g (heap_lt hg) ?_]
  ·exact hg
  ·intro e;have e : g = b := by simpa using e
   subst e;exact not_map_cells m5 hg
set_option maxRecDepth 100000 in
set_option maxHeartbeats 1600000 in
theorem lay_any (F : Nat -> Prop) (d room : Nat) (X : List (Str × Fil)) (s : ByteArray) (A : Option Addr) (n c l : Nat) (xs : List Nat) (w : World) (hS : Shell w F d room X) (hs : s.size <= 64) (hn : xs.length = n) (hl : l <= n)
  (hu : sumK filL (putK s.data.toList ((.slice A n c, xs, l) : Fil) X) <= room) (hfew : (putK s.data.toList ((.slice A n c, xs, l) : Fil) X).length <= 256) :
  Calls Try.prog 32 #[.pointer (some ⟨d, 0, none⟩), .string s, .agg #[.slice A n c, .int .i64 l]] w fun e w' => e = .returned (.tuple #[]) /\
   ∃ F', Shell w' F' d room (putK s.data.toList ((.slice A n c, xs, l) : Fil) X) /\ Next F w F' w' /\ U8 w w' /\ (∀ k, F k -> F' k) := by
 obtain ⟨mv, hB, hm⟩ := hS.cells;have c2 : w.cell? ⟨d, 2, none⟩ = some (.map mv) := hB.cell 2;have f2 := hB.frozen 2;have hd : d < w.heap.size := hB.lt;have qe : ∀ (w : World) (r : Option Nat), (binOp .eql 54 (.map r) (.map none)).run Try.prog w = .ok (.bool r.isNone) w := fun w r => run_eql_map_nil w _ _ _ r Try.underlying54
 have qm := @run_makeMap Try.prog;obtain ⟨u, hu0⟩ : ∃ u, u = sumK filL X := ⟨_, rfl⟩;rw [<- hu0] at hB;have HU0 := hide hu0;have HU := hide hu;have HFEW := hide hfew;have HS := hide hS;have HB := hide hB;have HM := hide hm;clear hu0 hu hfew hB hm hS;go_enter Try.func32, Try.ntmps32
 go_upto_if 10 with fail
 go_cut [5] from 6 (fun s5 wr => s5 = .pointer (some ⟨w.heap.size, 0, none⟩) /\ Hid (∃ b, (F b \/ w.heap.size <= b) /\ Blk wr 0 77 w.heap.size [.slice A n c, .int .i64 l] /\ Blk wr 0 56 d [.int .i64 (room : Int), .int .i64 (u : Int), .map (some b)] /\
   wr.ownsMap Try.prog 9 tok b X.length (strP filV X) /\ Turn F w wr /\ U8 w wr))
 case first =>
  have nb := below_alloc w (.cells #[.slice A n c, .int .i64 l] 77);rcases HM.out with ⟨rfl, rfl⟩ | ⟨b, rfl, hFb, hm⟩
  ·go_wp2_with fail
   have e0 : (w.setCell ⟨d, 2, none⟩ (.map (some (w.heap.size + 1)))).heap.size = w.heap.size := by simp
   have k1 := below_alloc (w.setCell ⟨d, 2, none⟩ (.map (some (w.heap.size + 1)))) (.cells #[.slice A n c, .int .i64 l] 77);have b1 := (HB.out.stored 2 (.map (some (w.heap.size + 1)))).keep k1;have b2 := Blk.new (B := 0) (w.setCell ⟨d, 2, none⟩ (.map (some (w.heap.size + 1)))) 77 #[.slice A n c, .int .i64 l] (Nat.zero_le _);rw [e0] at b2;obtain ⟨W1, hW1⟩ : ∃ W1, W1 = ((w.setCell ⟨d, 2, none⟩ (.map (some (w.heap.size + 1)))).alloc (.cells #[.slice A n c, .int .i64 l] 77)) := ⟨_, rfl⟩;have e1 : W1.heap.size = w.heap.size + 1 := by rw [hW1]; simp
   rw [<- hW1] at k1 b1 b2 ⊢;have k2 := below_alloc W1 (.map #[] 0);have m2 := World.ownsMap_made W1 Try.prog 9 tok;rw [e1] at m2;have t1 : Turn F w W1 := (((Turn.of_grown (grown_set w d 2 _)).mono (S' := F) (fun i e => by cases e; exact HS.out.own))).then (Turn.of_below F k1) fun _ => .inl
   have u1 : U8 w W1 := by
    intro g cur hg;rw [k1.block g (by rw [e0]; exact heap_lt hg), heap_setCell_other w ⟨d, 2, none⟩ g _ ?_]
    ·exact hg
    ·intro e;have e : g = d := by simpa using e
     subst e;obtain ⟨_, c3, h3, _⟩ := HB.out;rw [hg] at h3;simp only [Option.some.injEq, Obj.cells.injEq] at h3;exact absurd h3.2.1 (by decide)
   clear hW1
   go_meet
   case rel => exact ⟨rfl, w.heap.size + 1, .inr (Nat.le_succ _), b2.keep k2, b1.keep k2, m2, t1.trans (Turn.of_below F k2), u1.trans (U8.of_below k2)⟩
  ·go_wp2_with fail
   go_meet
   case rel => exact ⟨rfl, b, .inl hFb, Blk.new (B := 0) w _ _ (Nat.zero_le _), HB.out.keep nb, ownsMap_turn (S := fun _ => False) hm (Turn.of_below _ nb) id, Turn.of_below _ nb, U8.of_below nb⟩
 case rest =>
  clear c2 f2;obtain ⟨rfl, hcut⟩ := hcut;obtain ⟨b, hb, bF, bD, hm, ht, hu8⟩ := hcut.out;obtain ⟨A1, n1, c1, l1, hf, hn1, hrest⟩ := found_form HS.out s.data.toList;have hlook := look_val hm.drew s (by unfold maxLen; omega);rw [hf] at hlook;have qf := field_data A1 n1 c1 l1;have hsum := sumK_del filL s.data.toList HS.out.rise;rw [<- HU0.out, <- hn1] at hsum;have hput := sumK_put filL s.data.toList ((.slice A n c, xs, l) : Fil) X;have hput2 : sumK filL (putK s.data.toList ((.slice A n c, xs, l) : Fil) X) = u + n - n1 := by
   rw [hput, hsum]
   show _ + xs.length = _
   rw [hn];omega
  have hle : n1 <= u := by omega
  have hub : u + n <= 1073741824 + n1 := by
   have := HU.out;have := HS.out.most;omega
  have hub2 : u <= 1073741824 := by
   have h1 := HS.out.used;have h2 := HS.out.most;rw [<- HU0.out] at h1;omega
  have f0 : wc.cell? ⟨w.heap.size, 0, none⟩ = some (.slice A n c) := bF.cell 0;have f1 : wc.cell? ⟨w.heap.size, 1, none⟩ = some (.int .i64 l) := bF.cell 1;have d1 : wc.cell? ⟨d, 1, none⟩ = some (.int .i64 (u : Int)) := bD.cell 1;have d2 : wc.cell? ⟨d, 2, none⟩ = some (.map (some b)) := bD.cell 2;have g1 := bD.frozen 1;have hne : ¬ d = w.heap.size := by omega
  have hne2 : ¬ w.heap.size = d := by omega
  have HP := hide hput2;have HBF := hide bF;have HBD := hide bD;have HMM := hide hm;have HT := hide ht;have HU8 := hide hu8;have HN := hide hn;clear hrest hput2 hput hsum bF bD hm ht hu8 hn hn1 hf qm qe hcut;go_wp2_with fail
  go_region
  have E1 : ((u : Int) + ((n : Int) - (n1 : Int))) = ((u + n - n1 : Nat) : Int) := by omega
  rw [E1];have t3 := (Turn.of_grown (grown_set wc d 1 (.int .i64 ((u + n - n1 : Nat) : Int)))).mono (S' := F) (fun i e => by cases e; exact HS.out.own);have bD3 := HBD.out.stored 1 (.int .i64 ((u + n - n1 : Nat) : Int));have bF3 := HBF.out.kept (grown_set wc d 1 (.int .i64 ((u + n - n1 : Nat) : Int))) (fun e => hne (by simpa using e));have m3 := ownsMap_turn HMM.out (Turn.of_grown (grown_set wc d 1 (.int .i64 ((u + n - n1 : Nat) : Int)))) (by
   intro e;have e : b = d := by simpa using e
   subst e;obtain ⟨_, c3, h3, _⟩ := HBD.out;exact not_map_cells HMM.out h3)
  have u3 : U8 wc (wc.setCell ⟨d, 1, none⟩ (.int .i64 ((u + n - n1 : Nat) : Int))) := by
   intro g cur hg;rw [heap_setCell_other wc ⟨d, 1, none⟩ g _ ?_]
   ·exact hg
   ·intro e;have e : g = d := by simpa using e
    subst e;obtain ⟨_, c3, h3, _⟩ := HBD.out;rw [hg] at h3;simp only [Option.some.injEq, Obj.cells.injEq] at h3;exact absurd h3.2.1 (by decide)
  have hlow : ∀ k, F k \/ (w.heap.size <= k /\ k < wc.heap.size) -> k < wc.heap.size := by
   rintro k (hk | hk)
   ·exact Nat.lt_of_lt_of_le (HS.out.low k hk) HT.out.size
   ·exact hk.2
  have hsz3 : (wc.setCell ⟨d, 1, none⟩ (.int .i64 ((u + n - n1 : Nat) : Int))).heap.size = wc.heap.size := by simp
  have hbl : b < wc.heap.size := HMM.out.lt;obtain ⟨W3, hW3⟩ : ∃ W3, W3 = (wc.setCell ⟨d, 1, none⟩ (.int .i64 ((u + n - n1 : Nat) : Int))) := ⟨_, rfl⟩;rw [<- hW3] at t3 bD3 bF3 m3 u3 hsz3 ⊢;have T3 := hide (HT.out.trans t3);have U3 := hide (HU8.out.trans u3);have BD3 := hide bD3;have BF3 := hide bF3;have M3 := hide m3;have LOW := hide hlow;have SZ := hide hsz3;clear t3 u3 bD3 bF3 m3 hlow hsz3 hW3 hlook qf E1 f0 f1 d1 d2 g1;have f0 : W3.cell? ⟨w.heap.size, 0, none⟩ = some (.slice A n c) := BF3.out.cell 0;have f1 : W3.cell? ⟨w.heap.size, 1, none⟩ = some (.int .i64 l) := BF3.out.cell 1;have d2 : W3.cell? ⟨d, 2, none⟩ = some (.map (some b)) := BD3.out.cell 2;have hup := fun (W : World) (hk : Below W3.heap.size W3 W) => (ownsMap_turn (S := fun _ => False) M3.out (Turn.of_below _ hk) id).update (string_keyed Try.underlying9) Try.underlying54 (by have := HS.out.few; unfold maxLen; omega) (keyOf_string_mk Try.underlying9 (s := s) (by unfold maxLen; omega)) (val := .agg #[.slice A n c, .int .i64 l]) (d := .held (.agg #[.slice A n c, .int .i64 l])) (ps := []) rfl
  have HUP := hide hup;clear hup;go_wp2_with fail
  go_region_with (go_at_call 54; refine (strClone_any s _ (by omega)).mono ?_; rintro e w5 ⟨rfl, k5⟩; have K5 : Below W3.heap.size W3 w5 := ⟨k5.os, k5.tape, k5.output, k5.size, k5.block⟩; obtain ⟨w6, r6, m6, g6⟩ := HUP.out w5 K5; have f05 := (K5.cell (cell_lt f0)).trans f0; have f15 := (K5.cell (cell_lt f1)).trans f1; have d25 := (K5.cell (cell_lt d2)).trans d2)
  all_goals
   have KE := lay_end HS.out HN.out hl HP.out HU.out HFEW.out hs hb BD3.out T3.out U3.out M3.out K5 m6 g6;clear r6 m6 g6 f05 f15 d25 f0 f1 d2;go_end0;exact ⟨rfl, KE⟩

end Go.Proofs.Ytbmhfnhfhdgdgaa
namespace Go.Proofs.Ytbmhfnhfhdgdgaa
open Go.RowKit Go.Maps
variable {w w' : World} {F G F' : Nat -> Prop} {L : DiskL} {B room l d : Nat}
theorem Next.of_more {w0 : World} (t : Turn F w0 w) (h : Next G w F' w') (hG : ∀ k, G k -> F k \/ w0.heap.size <= k) : Next F w0 F' w' :=
 ⟨t.then h.turn hG, fun k hk => by
  rcases h.foot k hk with h1 | h1
  ·exact hG k h1
  ·exact .inr (Nat.le_trans t.size h1)⟩
theorem disk_found {k : Str} {xs : List Nat} (h : DiskAt w F d room L) (hg : getK k L = some (xs, l)) :
  ∃ X A c, L = absX X /\ Shell w F d room X /\ Files w F X /\ getK k X = some (.slice A xs.length c, xs, l) /\ Own w 0 (.slice A xs.length c) xs /\ (∀ x ∈ xs, x < 256) /\ l <= xs.length /\ xs.length <= 1073741824 := by
 obtain ⟨X, rfl, hs, hf⟩ := h;rw [absX_get] at hg;rcases hx : getK k X with _ | a
 ·rw [hx] at hg; cases hg
 ·rw [hx] at hg;simp only [Option.map_some, Option.some.injEq] at hg;have hm := getK_mem hx;obtain ⟨⟨A, c, e⟩, hl⟩ := hs.shape _ hm;obtain ⟨ho, _, hb⟩ := hf.each _ hm;obtain ⟨v, ys, m⟩ := a;simp only [Prod.mk.injEq] at hg e hl ho hb;obtain ⟨rfl, rfl⟩ := hg;subst e;refine ⟨X, A, c, rfl, hs, hf, hx, ho, hb, hl, ?_⟩;have h1 := sumK_del filL k hs.rise;rw [hx] at h1;have h2 := hs.used;have h3 := hs.most;have h4 : ((some ((Value.slice A ys.length c, ys, m) : Fil)).map filL).getD 0 = ys.length := rfl;rw [h4] at h1;omega
theorem disk_missing {k : Str} (h : DiskAt w F d room L) (hg : getK k L = none) : ∃ X, L = absX X /\ Shell w F d room X /\ Files w F X /\ getK k X = none := by
 obtain ⟨X, rfl, hs, hf⟩ := h;rw [absX_get] at hg;rcases hx : getK k X with _ | a
 ·exact ⟨X, rfl, hs, hf, hx⟩
 ·rw [hx] at hg; cases hg
theorem find_some (F : Nat -> Prop) (d room : Nat) (X : List (Str × Fil)) (s : ByteArray) (A : Option Addr) (n c l : Nat) (xs : List Nat) (w : World) (hS : Shell w F d room X) (hs : s.size <= 1099511627776) (hg : getK s.data.toList X = some (.slice A n c, xs, l)) :
  Calls Try.prog 38 #[.pointer (some ⟨d, 0, none⟩), .string s] w fun e w' => e = .returned (.tuple #[.agg #[.slice A n c, .int .i64 (l : Int)], .bool true]) /\ Below w.heap.size w w' := by
 have h := find_any F d room X s w hS (by unfold maxLen; omega);rw [hg] at h;exact h
theorem find_none (F : Nat -> Prop) (d room : Nat) (X : List (Str × Fil)) (s : ByteArray) (w : World) (hS : Shell w F d room X) (hs : s.size <= 1099511627776) (hg : getK s.data.toList X = none) :
  Calls Try.prog 38 #[.pointer (some ⟨d, 0, none⟩), .string s] w fun e w' => e = .returned (.tuple #[.agg #[.slice none 0 0, .int .i64 0], .bool false]) /\ Below w.heap.size w w' := by
 have h := find_any F d room X s w hS (by unfold maxLen; omega);rw [hg] at h;exact h
theorem lay_disk (F : Nat -> Prop) (d room : Nat) (X : List (Str × Fil)) (s : ByteArray) (A : Option Addr) (n c l : Nat) (xs : List Nat) (w : World) (hS : Shell w F d room X) (hf : Files w F (delK s.data.toList X)) (hs : s.size <= 64) (hn : xs.length = n) (hl : l <= n)
  (ho : Own w 0 (.slice A n c) xs) (hb : ∀ x ∈ xs, x < 256) (hF : ∀ g, (Value.slice A n c).ownBlock = some g -> F g /\ ∀ p ∈ delK s.data.toList X, p.2.1.ownBlock ≠ some g)
  (hu : sumK filL (delK s.data.toList X) + n <= room) (hfew : (getK s.data.toList X).isSome = true \/ X.length < 256) :
  Calls Try.prog 32 #[.pointer (some ⟨d, 0, none⟩), .string s, .agg #[.slice A n c, .int .i64 l]] w fun e w' => e = .returned (.tuple #[]) /\
   ∃ F', DiskAt w' F' d room (putK s.data.toList (xs, l) (absX X)) /\ Next F w F' w' := by
 refine (lay_any F d room X s A n c l xs w hS hs hn hl ?_ ?_).mono ?_
 ·rw [sumK_put]
  show _ + xs.length <= room
  omega
 ·rw [length_put hS.rise];have := hS.few;rcases hfew with h | h
  ·rw [h]; exact this
  ·split <;> omega
 ·rintro e w' ⟨rfl, F', h1, h2, h3, h4⟩;refine ⟨rfl, F', ⟨putK s.data.toList ((.slice A n c, xs, l) : Fil) X, (absX_put s.data.toList ((.slice A n c, xs, l) : Fil) X).symm, h1, ?_⟩, h2⟩;exact (hf.u8 h3 h4).put (h3.own ho) (fun g hg => h4 g (hF g hg).1) hb (fun p hp g hg => (hF g hg).2 p hp)
theorem Files.grown {X : List (Str × Fil)} {k : Str} {a : Fil} (h : Files w F X) (hx : getK k X = some a) (g : w.grownBy w' a.1.ownBlock) : Files w' F (delK k X) := by
 have hs := h.sub (Y := delK k X) (fun p hp => (mem_delK.1 hp).1);refine ⟨fun p hp => ⟨?_, (hs.each p hp).2⟩, hs.apart⟩;refine (hs.each p hp).1.turn (Turn.of_grown g) ?_;intro i hi e;have h1 := h.apart p (mem_delK.1 hp).1 _ (getK_mem hx) (mem_delK.1 hp).2 i hi;exact h1 e.symm
theorem Shell.grown {X : List (Str × Fil)} {v : Value} {xs : List Nat} (h : Shell w F d room X) (ho : Own w B v xs) (g : w.grownBy w' v.ownBlock) : Shell w' F d room X := by
 unfold Own at ho;rcases ho.2 with ⟨rfl, _⟩ | ⟨i, cap, cur, rfl, _, hi, _⟩
 ·refine h.turn (S := fun _ => False) ⟨g.os, g.tape, g.output, g.size, fun k hk _ => g.block k hk ?_⟩ (fun _ _ => id);simp [Value.ownBlock]
 ·exact h.bytes hi g
theorem Own.down {B' : Nat} {v : Value} {xs : List Nat} (h : Own w B v xs) (hb : B' <= B) : Own w B' v xs := h.more hb
theorem new_any (room : Nat) (w : World) (h : room <= 1073741824) :
  Calls Try.prog 7 #[.int .i64 (room : Int)] w fun e w' => ∃ d F, e = .returned (.tuple #[.pointer (some ⟨d, 0, none⟩), .int .i64 0]) /\ DiskAt w' F d room [] /\ (∀ k, F k -> w.heap.size <= k) /\ Below w.heap.size w w' := by
 go_enter Try.func7, Try.ntmps7;go_wp2_with fail
 go_ret2;refine ⟨w.heap.size, fun k => k = w.heap.size, rfl, ⟨[], rfl, ⟨⟨none, Blk.new (B := 0) w _ _ (Nat.zero_le _), .inl ⟨rfl, rfl⟩⟩, rfl, ?_, h, Nat.zero_le _, Nat.zero_le _, (fun p hp => by cases hp), List.Pairwise.nil, (fun p hp => by cases hp)⟩, ⟨(fun p hp => by cases hp), fun p hp => by cases hp⟩⟩, fun k hk => by omega, below_alloc _ _⟩;rintro k rfl;simp
set_option maxHeartbeats 800000 in
theorem read_some (F : Nat -> Prop) (d room : Nat) (L : DiskL) (s : ByteArray) (xs : List Nat) (l : Nat) (w : World) (hD : DiskAt w F d room L) (hs : s.size <= 1099511627776) (hg : getK s.data.toList L = some (xs, l)) :
  Calls Try.prog 33 #[.pointer (some ⟨d, 0, none⟩), .string s] w fun e w' => ∃ v, e = .returned (.tuple #[v, .int .i64 0]) /\ Own w' w.heap.size v xs /\ Below w.heap.size w w' := by
 obtain ⟨X, A, c, rfl, hS, hf, hx, ho, hb, hl, hlen⟩ := disk_found hD hg;obtain ⟨n, hn⟩ : ∃ n, n = xs.length := ⟨_, rfl⟩;rw [<- hn] at hx ho hl hlen;have FS := hide (find_some F d room X s A n c l xs w hS hs hx);have HI := hide ho.isB;have HN := hide hn;clear hD hg hS hf hx ho hn;go_enter Try.func33, Try.ntmps33;go_wp2_with fail
 refine FS.out.mono ?_;rintro e w1 ⟨rfl, k1⟩;have k2 := below_step k1 (below_alloc w1 (.cells #[.slice A n c, .int .i64 (l : Int)] 77));have b2 := Blk.new (B := 0) w1 77 #[.slice A n c, .int .i64 (l : Int)] (Nat.zero_le _);have I2 := hide (HI.out.keep k2);have K2 := hide k2;clear k1 k2 b2;go_wp2_with fail
 refine (clone_any A n c xs _ I2.out HN.out.symm (by omega)).mono ?_;rintro e w3 ⟨v, rfl, o3, k3⟩;have O3 := hide (o3.down K2.out.size);have K3 := hide (below_step K2.out k3);clear o3 k3;go_wp2_with fail
 go_ret2;exact ⟨v, rfl, O3.out, K3.out⟩
theorem read_none (F : Nat -> Prop) (d room : Nat) (L : DiskL) (s : ByteArray) (w : World) (hD : DiskAt w F d room L) (hs : s.size <= 1099511627776) (hg : getK s.data.toList L = none) :
  Calls Try.prog 33 #[.pointer (some ⟨d, 0, none⟩), .string s] w fun e w' => e = .returned (.tuple #[.slice none 0 0, .int .i64 7]) /\ Below w.heap.size w w' := by
 obtain ⟨X, rfl, hS, hf, hx⟩ := disk_missing hD hg;have FS := hide (find_none F d room X s w hS hs hx);clear hD hg hS hf hx;go_enter Try.func33, Try.ntmps33;go_wp2_with fail
 refine FS.out.mono ?_;rintro e w1 ⟨rfl, k1⟩;have K2 := hide (below_step k1 (below_alloc w1 (.cells #[.slice none 0 0, .int .i64 0] 77)));clear k1;go_wp2_with fail
 go_ret2;exact ⟨rfl, K2.out⟩
set_option maxHeartbeats 800000 in
theorem sync_some (F : Nat -> Prop) (d room : Nat) (L : DiskL) (s : ByteArray) (xs : List Nat) (l : Nat) (w : World) (hD : DiskAt w F d room L) (hs : s.size <= 1099511627776) (hg : getK s.data.toList L = some (xs, l)) :
  Calls Try.prog 46 #[.pointer (some ⟨d, 0, none⟩), .string s] w fun e w' => e = .returned (.int .i64 0) /\ ∃ F', DiskAt w' F' d room (putK s.data.toList (xs, xs.length) L) /\ Next F w F' w' := by
 obtain ⟨X, A, c, rfl, hS, hf, hx, ho, hb, hl, hlen⟩ := disk_found hD hg;obtain ⟨n, hn⟩ : ∃ n, n = xs.length := ⟨_, rfl⟩;rw [<- hn] at hx ho hl hlen ⊢;have FS := hide (find_some F d room X s A n c l xs w hS hs hx);have HS := hide hS;have HF := hide hf;have HX := hide hx;have HO := hide ho;have HB := hide hb;have HN := hide hn;have HFG : Hid (∀ g, (Value.slice A n c).ownBlock = some g -> F g /\ ∀ p ∈ delK s.data.toList X, p.2.1.ownBlock ≠ some g) := fun g hg => ⟨(hf.each _ (getK_mem hx)).2.1 g hg, fun p hp => hf.apart _ (getK_mem hx) p (mem_delK.1 hp).1 (fun e => (mem_delK.1 hp).2 e.symm) g hg⟩
 have HU : Hid (sumK filL (delK s.data.toList X) + n <= room) := by
  have h1 := sumK_del filL s.data.toList hS.rise;rw [hx] at h1;have h4 : ((some ((Value.slice A n c, xs, l) : Fil)).map filL).getD 0 = xs.length := rfl;rw [h4] at h1;have h2 := hS.used;unfold Hid;omega
 clear hD hg hS hf hx ho hn;go_enter Try.func46, Try.ntmps46;go_wp2_with fail
 refine FS.out.mono ?_;rintro e w1 ⟨rfl, k1⟩;have k2 := below_step k1 (below_alloc w1 (.cells #[.slice A n c, .int .i64 (n : Int)] 77));have S2 := hide (HS.out.below k2);have F2 := hide (HF.out.turn (S := fun _ => False) (Turn.of_below _ k2) (fun _ _ => id));have O2 := hide (HO.out.turn (S := fun _ => False) (Turn.of_below _ k2) (fun _ _ => id));have K2 := hide k2;clear k1 k2;go_wp2_with fail
 refine (lay_disk F d room X s A n c n xs _ S2.out (F2.out.sub (fun p hp => (mem_delK.1 hp).1)) (HS.out.names _ (getK_mem HX.out)) HN.out.symm (Nat.le_refl _) O2.out HB.out HFG.out HU.out (.inl (by rw [HX.out]; rfl))).mono ?_;rintro e w3 ⟨rfl, F', d3, n3⟩;have KE := hide (And.intro d3 ((Next.of_below F K2.out).trans n3));clear d3 n3;go_wp2_with fail
 go_ret;exact ⟨rfl, F', KE.out⟩
theorem sync_none (F : Nat -> Prop) (d room : Nat) (L : DiskL) (s : ByteArray) (w : World) (hD : DiskAt w F d room L) (hs : s.size <= 1099511627776) (hg : getK s.data.toList L = none) :
  Calls Try.prog 46 #[.pointer (some ⟨d, 0, none⟩), .string s] w fun e w' => e = .returned (.int .i64 7) /\ Below w.heap.size w w' := by
 obtain ⟨X, rfl, hS, hf, hx⟩ := disk_missing hD hg;have FS := hide (find_none F d room X s w hS hs hx);clear hD hg hS hf hx;go_enter Try.func46, Try.ntmps46;go_wp2_with fail
 refine FS.out.mono ?_;rintro e w1 ⟨rfl, k1⟩;have K2 := hide (below_step k1 (below_alloc w1 (.cells #[.slice none 0 0, .int .i64 0] 77)));clear k1;go_wp2_with fail
 go_ret;exact ⟨rfl, K2.out⟩
end Go.Proofs.Ytbmhfnhfhdgdgaa
namespace Go.Proofs.Ytbmhfnhfhdgdgaa
open Go.RowKit

end Go.Proofs.Ytbmhfnhfhdgdgaa
namespace Go.Proofs.Ytbmhfnhfhdgdgaa
open Go.RowKit Go.Maps
variable {w w' : World} {F : Nat -> Prop} {room d n b : Nat}

theorem map_size {X : List (Str × Fil)} (h : w.ownsMap Try.prog 9 tok b n (strP filV X)) (ty : TypeId) : (Builtin.len_ #[54] ty #[.map (some b)]).run Try.prog w = .ok (.int .i64 (X.length : Int)) w := by
 have := h.len Try.underlying54 ty;rw [strP_size] at this;exact this
theorem Shell.map_len {X : List (Str × Fil)} (h : Shell w F d room X) : ∃ mv, w.cell? ⟨d, 2, none⟩ = some (.map mv) /\ ∀ W ty, Below w.heap.size w W -> (Builtin.len_ #[54] ty #[.map mv]).run Try.prog W = .ok (.int .i64 (X.length : Int)) W := by
 obtain ⟨mv, hB, hm⟩ := h.cells;refine ⟨mv, hB.cell 2, fun W ty hW => ?_⟩;rcases hm with ⟨rfl, rfl⟩ | ⟨b, rfl, _, hm⟩
 ·exact Maps.len_nil Try.underlying54 ty
 ·exact map_size (ownsMap_turn (S := fun _ => False) hm (Turn.of_below _ hW) id) ty
theorem Files.off {X : List (Str × Fil)} {row : Option Nat} (h : Files w F X) (g : w.grownBy w' row) (ho : ∀ p ∈ X, ∀ i, p.2.1.ownBlock = some i -> some i ≠ row) : Files w' F X :=
 ⟨fun p hp => ⟨(h.each p hp).1.turn (Turn.of_grown g) (fun i hi e => ho p hp i hi e), (h.each p hp).2⟩, h.apart⟩
set_option maxRecDepth 100000 in
set_option maxHeartbeats 3200000 in
theorem append_core (F : Nat -> Prop) (d room : Nat) (X : List (Str × Fil)) (s : ByteArray) (A P : Option Addr) (n c l m cp : Nat) (xs p : List Nat) (is : Bool) (w : World) (hS : Shell w F d room X) (hf : Files w F X) (hs : 1 <= s.size /\ s.size <= 64)
  (hfind : Calls Try.prog 38 #[.pointer (some ⟨d, 0, none⟩), .string s] w fun e w' => e = .returned (.tuple #[.agg #[.slice A n c, .int .i64 (l : Int)], .bool is]) /\ Below w.heap.size w w')
  (hn : xs.length = n) (hl : l <= n) (ho : Own w 0 (.slice A n c) xs) (hoff : ∀ g, (Value.slice A n c).ownBlock = some g -> F g /\ ∀ q ∈ delK s.data.toList X, q.2.1.ownBlock ≠ some g)
  (hbx : ∀ x ∈ xs ++ p, x < 256) (hsum : sumK filL (delK s.data.toList X) + n = sumK filL X) (his : is = true /\ (getK s.data.toList X).isSome = true \/ is = false /\ X.length < 256) (hP : IsB w (.slice P m cp) p) (hm : p.length = m) (hroom : sumK filL X + m <= room) :
  Calls Try.prog 45 #[.pointer (some ⟨d, 0, none⟩), .string s, .slice P m cp] w fun e w' => e = .returned (.int .i64 0) /\ ∃ F', DiskAt w' F' d room (putK s.data.toList (xs ++ p, l) (absX X)) /\ Next F w F' w' := by
 have HIN := hide (isName_any s w (by omega));rw [decide_eq_true hs] at HIN;obtain ⟨mv, c2, hml⟩ := hS.map_len;obtain ⟨mv', hB, hmm⟩ := hS.cells;clear hmm;obtain ⟨u, hu⟩ : ∃ u, u = sumK filL X := ⟨_, rfl⟩;rw [<- hu] at hB hroom hsum;have c0 : w.cell? ⟨d, 0, none⟩ = some (.int .i64 (room : Int)) := hB.cell 0;have c1 : w.cell? ⟨d, 1, none⟩ = some (.int .i64 (u : Int)) := hB.cell 1;have hd : d < w.heap.size := hB.lt;have hr := hS.most;have hnr : n <= 1073741824 := by omega
 have hmr : m <= 1073741824 := by omega
 have hgo : ¬ ((room : Int) - (u : Int) < (m : Int)) := by omega
 have HFI := hide hfind;have HML := hide hml;have HP := hide hP;have HM := hide hm;have HN := hide hn;have HS := hide hS;have HF := hide hf;have HO := hide ho;have HOFF := hide hoff;have HBB := hide hbx;have HU : Hid (sumK filL (delK s.data.toList X) + (n + m) <= room) := by unfold Hid; omega
 clear hfind hml hu hB hP hm hn hS hf ho hoff hbx hsum;rcases his with ⟨rfl, hsome⟩ | ⟨rfl, hfew⟩
 ·have HFEW : Hid ((getK s.data.toList X).isSome = true \/ X.length < 256) := .inl hsome;clear hsome;go_enter Try.func45, Try.ntmps45;go_wp2_with fail
  refine HIN.out.mono ?_;rintro e w0 ⟨rfl, e0⟩;obtain rfl : w = w0 := e0.symm;clear e0;go_wp2_with fail
  refine HFI.out.mono ?_;rintro e w1 ⟨rfl, k1⟩;have c01 := (k1.cell (cell_lt c0)).trans c0;have c11 := (k1.cell (cell_lt c1)).trans c1;have c21 := (k1.cell (cell_lt c2)).trans c2;have hd1 : d < w1.heap.size := Nat.lt_of_lt_of_le hd k1.size;clear c0 c1 c2;go_wp2_with fail
  go_region
  clear c01 c11 c21;have ka := below_alloc w1 (.cells #[.slice A n c, .int .i64 (l : Int)] 77);have b2 := Blk.new (B := 0) w1 77 #[.slice A n c, .int .i64 (l : Int)] (Nat.zero_le _);have k2 := below_step k1 ka;have hw1 : w.heap.size <= w1.heap.size := k1.size;have es : (w1.alloc (.cells #[.slice A n c, .int .i64 (l : Int)] 77)).heap.size = w1.heap.size + 1 := by simp
  obtain ⟨W2, hW2⟩ : ∃ W2, W2 = (w1.alloc (.cells #[.slice A n c, .int .i64 (l : Int)] 77)).drew := ⟨_, rfl⟩;have k2' : Below w.heap.size w W2 := by rw [hW2]; exact ⟨k2.os, k2.tape, k2.output, k2.size, k2.block⟩
  have b2' : Blk W2 0 77 w1.heap.size [.slice A n c, .int .i64 (l : Int)] := by rw [hW2]; exact b2
  have es' : W2.heap.size = w1.heap.size + 1 := by rw [hW2]; exact es
  rw [<- hW2];have f0 : W2.cell? ⟨w1.heap.size, 0, none⟩ = some (.slice A n c) := b2'.cell 0;have S2 := hide (HS.out.below k2');have F2 := hide (HF.out.turn (S := fun _ => False) (Turn.of_below _ k2') (fun _ _ => id));have O2 := hide (HO.out.turn (S := fun _ => False) (Turn.of_below _ k2') (fun _ _ => id));have P2 := hide (HP.out.keep k2');have B2 := hide b2';have K2 := hide k2';have ES := hide es';clear ka b2 k2 es hW2 k2' b2' es' k1;go_wp2_with (at_builtin; refine halt ?_)
  refine ⟨?_⟩;refine wpList_append_at rfl (.tmp 47) (.tmp 48) rfl 0 (.slice A n c) xs rfl O2.out _ p rfl P2.out (by rw [HN.out, HM.out]; omega) (Nat.zero_le _) ?_;intro v w3 o3 g3 l3;have hlv : ∀ g, v.ownBlock = some g -> F g \/ w.heap.size <= g := fun g hg => by
   rcases l3 with e | e
   ·exact .inl ((HOFF.out g (by rw [<- e]; exact hg)).1)
   ·rw [hg] at e;have e : g = W2.heap.size := by simpa using e
    have := K2.out.size;exact .inr (by omega)
  have hvo : ∀ g, v.ownBlock = some g -> ∀ q ∈ delK s.data.toList X, q.2.1.ownBlock ≠ some g := fun g hg q hq => by
   rcases l3 with e | e
   ·exact (HOFF.out g (by rw [<- e]; exact hg)).2 q hq
   ·intro e2;rw [hg] at e;have e : g = W2.heap.size := by simpa using e
    have h1 := HS.out.low g ((HF.out.each q (mem_delK.1 hq).1).2.1 g e2);have := K2.out.size;omega
  have hfb : ¬ (some w1.heap.size = (Value.slice A n c).ownBlock) := fun e => by
   have h1 := HS.out.low _ (HOFF.out _ e.symm).1;omega
  have hvb : ¬ (v.ownBlock = some w1.heap.size) := fun e => by
   rcases l3 with e' | e'
   ·exact hfb (by rw [<- e', e])
   ·rw [e] at e';have e' : w1.heap.size = W2.heap.size := by simpa using e'
    have := ES.out;omega
  have b3 := B2.out.turn (Turn.of_grown g3) hfb;have s3 := S2.out.grown O2.out g3;have f3 : Files w3 F (delK s.data.toList X) := (F2.out.sub (fun q (hq : q ∈ delK s.data.toList X) => (mem_delK.1 hq).1)).off g3 (fun q hq g hg e => (HOFF.out g e.symm).2 q hq hg);have t3 : Turn F w w3 := (Turn.of_below F K2.out).then (Turn.of_grown g3) (fun i e => .inl (HOFF.out i e.symm).1)
  obtain ⟨A3, c3, rfl, _⟩ := o3.isB.form (n := n + m) (by rw [List.length_append, HN.out, HM.out]);have c30 : w3.cell? ⟨w1.heap.size, 0, none⟩ = some (.slice A n c) := b3.cell 0;have c31 : w3.cell? ⟨w1.heap.size, 1, none⟩ = some (.int .i64 (l : Int)) := b3.cell 1;have z30 := b3.frozen 0;have gs := grown_set w3 w1.heap.size 0 (.slice A3 (n + m) c3);have hnF : ¬ F w1.heap.size := fun h => by
   have := HS.out.low _ h;omega
  have s4 := s3.turn (Turn.of_grown gs) (fun i hi e => hnF (by
   have e : i = w1.heap.size := by simpa using e
   subst e;exact hi))
  have f4 := f3.turn (Turn.of_grown gs) (fun i hi e => hnF (by
   have e : i = w1.heap.size := by simpa using e
   subst e;exact hi))
  have o4 := o3.turn (Turn.of_grown gs) (fun i hi e => hvb (by
   have e : i = w1.heap.size := by simpa using e
   subst e;exact hi))
  have t4 := t3.then (Turn.of_grown gs) (fun i e => .inr (by
   have e : i = w1.heap.size := by simpa using e
   omega))
  have hlo4 := o4.lt;have hG : ∀ g, (F g \/ (Value.slice A3 (n + m) c3).ownBlock = some g) -> F g \/ w.heap.size <= g := fun g hg => by
   rcases hg with h | h
   ·exact .inl h
   ·exact hlv g h
  have S4 := hide (s4.more (F' := fun g => F g \/ (Value.slice A3 (n + m) c3).ownBlock = some g) (fun g => .inl) (fun g hg => by
   rcases hg with h | h
   ·exact s4.low g h
   ·exact (hlo4 g h).2))
  have F4 := hide (f4.u8 (U8.refl _) (F' := fun g => F g \/ (Value.slice A3 (n + m) c3).ownBlock = some g) (fun g => .inl));have O4 := hide o4;have T4 := hide t4;have HG := hide hG;have HVO := hide hvo;clear f0 o3 g3 l3 hlv hvo hfb hvb b3 s3 f3 t3 gs hnF s4 f4 o4 t4 hlo4 hG;go_wp2_with fail
  clear c30 c31 z30;refine (lay_disk _ d room X s A3 (n + m) c3 l (xs ++ p) _ S4.out F4.out (by omega) (by rw [List.length_append, HN.out, HM.out]) (by omega) O4.out HBB.out (fun g hg => ⟨.inr hg, HVO.out g hg⟩) (by have := HU.out; omega) HFEW.out).mono ?_;rintro e w5 ⟨rfl, F', d5, n5⟩;have KE := hide (And.intro d5 (Next.of_more T4.out n5 HG.out));clear d5 n5;go_wp2_with fail
  go_ret;exact ⟨rfl, F', KE.out⟩
 ·have HFEW : Hid ((getK s.data.toList X).isSome = true \/ X.length < 256) := .inr hfew;have hlenb : ((X.length : Int) == 256) = false := by simp; omega
  go_enter Try.func45, Try.ntmps45;go_wp2_with fail
  refine HIN.out.mono ?_;rintro e w0 ⟨rfl, e0⟩;obtain rfl : w = w0 := e0.symm;clear e0;go_wp2_with fail
  refine HFI.out.mono ?_;rintro e w1 ⟨rfl, k1⟩;have c01 := (k1.cell (cell_lt c0)).trans c0;have c11 := (k1.cell (cell_lt c1)).trans c1;have c21 := (k1.cell (cell_lt c2)).trans c2;have hd1 : d < w1.heap.size := Nat.lt_of_lt_of_le hd k1.size;have kd : Below w.heap.size w (w1.alloc (.cells #[.slice A n c, .int .i64 (l : Int)] 77)).drew := by
   have k2 := below_step k1 (below_alloc w1 (.cells #[.slice A n c, .int .i64 (l : Int)] 77));exact ⟨k2.os, k2.tape, k2.output, k2.size, k2.block⟩
  have hml2 := fun ty => HML.out _ ty kd
  clear c0 c1 c2;go_wp2_with fail
  go_region
  clear hml2 kd;clear c01 c11 c21;have ka := below_alloc w1 (.cells #[.slice A n c, .int .i64 (l : Int)] 77);have b2 := Blk.new (B := 0) w1 77 #[.slice A n c, .int .i64 (l : Int)] (Nat.zero_le _);have k2 := below_step k1 ka;have hw1 : w.heap.size <= w1.heap.size := k1.size;have es : (w1.alloc (.cells #[.slice A n c, .int .i64 (l : Int)] 77)).heap.size = w1.heap.size + 1 := by simp
  obtain ⟨W2, hW2⟩ : ∃ W2, W2 = (w1.alloc (.cells #[.slice A n c, .int .i64 (l : Int)] 77)).drew := ⟨_, rfl⟩;have k2' : Below w.heap.size w W2 := by rw [hW2]; exact ⟨k2.os, k2.tape, k2.output, k2.size, k2.block⟩
  have b2' : Blk W2 0 77 w1.heap.size [.slice A n c, .int .i64 (l : Int)] := by rw [hW2]; exact b2
  have es' : W2.heap.size = w1.heap.size + 1 := by rw [hW2]; exact es
  rw [<- hW2];have f0 : W2.cell? ⟨w1.heap.size, 0, none⟩ = some (.slice A n c) := b2'.cell 0;have S2 := hide (HS.out.below k2');have F2 := hide (HF.out.turn (S := fun _ => False) (Turn.of_below _ k2') (fun _ _ => id));have O2 := hide (HO.out.turn (S := fun _ => False) (Turn.of_below _ k2') (fun _ _ => id));have P2 := hide (HP.out.keep k2');have B2 := hide b2';have K2 := hide k2';have ES := hide es';clear ka b2 k2 es hW2 k2' b2' es' k1;go_wp2_with (at_builtin; refine halt ?_)
  refine ⟨?_⟩;refine wpList_append_at rfl (.tmp 47) (.tmp 48) rfl 0 (.slice A n c) xs rfl O2.out _ p rfl P2.out (by rw [HN.out, HM.out]; omega) (Nat.zero_le _) ?_;intro v w3 o3 g3 l3;have hlv : ∀ g, v.ownBlock = some g -> F g \/ w.heap.size <= g := fun g hg => by
   rcases l3 with e | e
   ·exact .inl ((HOFF.out g (by rw [<- e]; exact hg)).1)
   ·rw [hg] at e;have e : g = W2.heap.size := by simpa using e
    have := K2.out.size;exact .inr (by omega)
  have hvo : ∀ g, v.ownBlock = some g -> ∀ q ∈ delK s.data.toList X, q.2.1.ownBlock ≠ some g := fun g hg q hq => by
   rcases l3 with e | e
   ·exact (HOFF.out g (by rw [<- e]; exact hg)).2 q hq
   ·intro e2;rw [hg] at e;have e : g = W2.heap.size := by simpa using e
    have h1 := HS.out.low g ((HF.out.each q (mem_delK.1 hq).1).2.1 g e2);have := K2.out.size;omega
  have hfb : ¬ (some w1.heap.size = (Value.slice A n c).ownBlock) := fun e => by
   have h1 := HS.out.low _ (HOFF.out _ e.symm).1;omega
  have hvb : ¬ (v.ownBlock = some w1.heap.size) := fun e => by
   rcases l3 with e' | e'
   ·exact hfb (by rw [<- e', e])
   ·rw [e] at e';have e' : w1.heap.size = W2.heap.size := by simpa using e'
    have := ES.out;omega
  have b3 := B2.out.turn (Turn.of_grown g3) hfb;have s3 := S2.out.grown O2.out g3;have f3 : Files w3 F (delK s.data.toList X) := (F2.out.sub (fun q (hq : q ∈ delK s.data.toList X) => (mem_delK.1 hq).1)).off g3 (fun q hq g hg e => (HOFF.out g e.symm).2 q hq hg);have t3 : Turn F w w3 := (Turn.of_below F K2.out).then (Turn.of_grown g3) (fun i e => .inl (HOFF.out i e.symm).1)
  obtain ⟨A3, c3, rfl, _⟩ := o3.isB.form (n := n + m) (by rw [List.length_append, HN.out, HM.out]);have c30 : w3.cell? ⟨w1.heap.size, 0, none⟩ = some (.slice A n c) := b3.cell 0;have c31 : w3.cell? ⟨w1.heap.size, 1, none⟩ = some (.int .i64 (l : Int)) := b3.cell 1;have z30 := b3.frozen 0;have gs := grown_set w3 w1.heap.size 0 (.slice A3 (n + m) c3);have hnF : ¬ F w1.heap.size := fun h => by
   have := HS.out.low _ h;omega
  have s4 := s3.turn (Turn.of_grown gs) (fun i hi e => hnF (by
   have e : i = w1.heap.size := by simpa using e
   subst e;exact hi))
  have f4 := f3.turn (Turn.of_grown gs) (fun i hi e => hnF (by
   have e : i = w1.heap.size := by simpa using e
   subst e;exact hi))
  have o4 := o3.turn (Turn.of_grown gs) (fun i hi e => hvb (by
   have e : i = w1.heap.size := by simpa using e
   subst e;exact hi))
  have t4 := t3.then (Turn.of_grown gs) (fun i e => .inr (by
   have e : i = w1.heap.size := by simpa using e
   omega))
  have hlo4 := o4.lt;have hG : ∀ g, (F g \/ (Value.slice A3 (n + m) c3).ownBlock = some g) -> F g \/ w.heap.size <= g := fun g hg => by
   rcases hg with h | h
   ·exact .inl h
   ·exact hlv g h
  have S4 := hide (s4.more (F' := fun g => F g \/ (Value.slice A3 (n + m) c3).ownBlock = some g) (fun g => .inl) (fun g hg => by
   rcases hg with h | h
   ·exact s4.low g h
   ·exact (hlo4 g h).2))
  have F4 := hide (f4.u8 (U8.refl _) (F' := fun g => F g \/ (Value.slice A3 (n + m) c3).ownBlock = some g) (fun g => .inl));have O4 := hide o4;have T4 := hide t4;have HG := hide hG;have HVO := hide hvo;clear f0 o3 g3 l3 hlv hvo hfb hvb b3 s3 f3 t3 gs hnF s4 f4 o4 t4 hlo4 hG;go_wp2_with fail
  clear c30 c31 z30;refine (lay_disk _ d room X s A3 (n + m) c3 l (xs ++ p) _ S4.out F4.out (by omega) (by rw [List.length_append, HN.out, HM.out]) (by omega) O4.out HBB.out (fun g hg => ⟨.inr hg, HVO.out g hg⟩) (by have := HU.out; omega) HFEW.out).mono ?_;rintro e w5 ⟨rfl, F', d5, n5⟩;have KE := hide (And.intro d5 (Next.of_more T4.out n5 HG.out));clear d5 n5;go_wp2_with fail
  go_ret;exact ⟨rfl, F', KE.out⟩
theorem append_ok (F : Nat -> Prop) (d room : Nat) (L : DiskL) (s : ByteArray) (P : Option Addr) (m cp : Nat) (p : List Nat) (w : World) (hD : DiskAt w F d room L) (hs : 1 <= s.size /\ s.size <= 64) (hP : IsB w (.slice P m cp) p) (hm : p.length = m) (hb : ∀ x ∈ p, x < 256)
  (hcase : (getK s.data.toList L).isSome = true \/ L.length < 256) (hroom : usedL L + m <= room) :
  Calls Try.prog 45 #[.pointer (some ⟨d, 0, none⟩), .string s, .slice P m cp] w fun e w' => e = .returned (.int .i64 0) /\ ∃ F', DiskAt w' F' d room (putK s.data.toList (oldB s.data.toList L ++ p, oldN s.data.toList L) L) /\ Next F w F' w' := by
 unfold oldB oldN;rcases hg : getK s.data.toList L with _ | ⟨xs, l⟩
 ·rw [hg] at hcase;obtain ⟨X, rfl, hS, hf, hx⟩ := disk_missing hD hg;rw [absX_used] at hroom;rw [absX_length] at hcase;have hd := delK_of_none hx;refine append_core F d room X s none P 0 0 0 m cp [] p false w hS hf hs (find_none F d room X s w hS (by omega) hx) rfl (Nat.le_refl _) (World.ownsRow_nil _ _ _ _) (fun g hg => by simp [Value.ownBlock] at hg) hb (by rw [hd]; rfl) (.inr ⟨rfl, ?_⟩) hP hm hroom;rcases hcase with h | h
  ·cases h
  ·exact h
 ·obtain ⟨X, A, c, rfl, hS, hf, hx, ho, hbx, hl, hlen⟩ := disk_found hD hg;rw [absX_used] at hroom;refine append_core F d room X s A P xs.length c l m cp xs p true w hS hf hs (find_some F d room X s A xs.length c l xs w hS (by omega) hx) rfl hl ho (fun g hg => ⟨(hf.each _ (getK_mem hx)).2.1 g hg, fun q hq => hf.apart _ (getK_mem hx) q (mem_delK.1 hq).1 (fun e => (mem_delK.1 hq).2 e.symm) g hg⟩) (byte_app hbx hb) ?_ (.inl ⟨rfl, by rw [hx]; rfl⟩) hP hm hroom;have h1 := sumK_del filL s.data.toList hS.rise;rw [hx] at h1;exact h1.symm
theorem append_arg (d : Nat) (s : ByteArray) (v : Value) (w : World) (hs : ¬ (1 <= s.size /\ s.size <= 64)) (hb : s.size <= 9223372036854775807) :
  Calls Try.prog 45 #[.pointer (some ⟨d, 0, none⟩), .string s, v] w fun e w' => e = .returned (.int .i64 1) /\ Below w.heap.size w w' := by
 have HIN := hide (isName_any s w hb);rw [decide_eq_false hs] at HIN;go_enter Try.func45, Try.ntmps45;go_wp2_with fail
 refine HIN.out.mono ?_;rintro e w1 ⟨rfl, rfl⟩;go_wp2_with fail
 go_ret;exact ⟨rfl, Below.refl _ _⟩
set_option maxRecDepth 100000 in
set_option maxHeartbeats 1600000 in
theorem append_full_core (F : Nat -> Prop) (d room : Nat) (X : List (Str × Fil)) (s : ByteArray) (A P : Option Addr) (n c l m cp : Nat) (is : Bool) (w : World) (hS : Shell w F d room X) (hs : 1 <= s.size /\ s.size <= 64)
  (hfind : Calls Try.prog 38 #[.pointer (some ⟨d, 0, none⟩), .string s] w fun e w' => e = .returned (.tuple #[.agg #[.slice A n c, .int .i64 (l : Int)], .bool is]) /\ Below w.heap.size w w')
  (his : (is = true \/ is = false /\ ¬ X.length = 256) /\ room < sumK filL X + m \/ is = false /\ X.length = 256) (hmr : m <= 1099511627776) :
  Calls Try.prog 45 #[.pointer (some ⟨d, 0, none⟩), .string s, .slice P m cp] w fun e w' => e = .returned (.int .i64 6) /\ Below w.heap.size w w' := by
 have HIN := hide (isName_any s w (by omega));rw [decide_eq_true hs] at HIN;obtain ⟨mv, c2, hml⟩ := hS.map_len;obtain ⟨mv', hB, hmm⟩ := hS.cells;clear hmm;have hr := hS.most;have hur := hS.used;obtain ⟨u, hu⟩ : ∃ u, u = sumK filL X := ⟨_, rfl⟩;rw [<- hu] at hB his hur;have c0 : w.cell? ⟨d, 0, none⟩ = some (.int .i64 (room : Int)) := hB.cell 0;have c1 : w.cell? ⟨d, 1, none⟩ = some (.int .i64 (u : Int)) := hB.cell 1;have hd : d < w.heap.size := hB.lt;have HFI := hide hfind;have HML := hide hml;clear hfind hml hu hB hS;rcases his with ⟨rfl | ⟨rfl, hfew⟩, hful⟩ | ⟨rfl, hfew⟩
 ·have hgo : (room : Int) - (u : Int) < (m : Int) := by omega
  go_enter Try.func45, Try.ntmps45;go_wp2_with fail
  refine HIN.out.mono ?_;rintro e w0 ⟨rfl, e0⟩;obtain rfl : w = w0 := e0.symm;clear e0;go_wp2_with fail
  refine HFI.out.mono ?_;rintro e w1 ⟨rfl, k1⟩;have c01 := (k1.cell (cell_lt c0)).trans c0;have c11 := (k1.cell (cell_lt c1)).trans c1;have c21 := (k1.cell (cell_lt c2)).trans c2;have hd1 : d < w1.heap.size := Nat.lt_of_lt_of_le hd k1.size;have K2 := hide (below_step k1 (below_alloc w1 (.cells #[.slice A n c, .int .i64 (l : Int)] 77)));clear c0 c1 c2 k1;go_wp2_with fail
  go_region
  clear c01 c11 c21;go_wp2_with fail
  go_ret;exact ⟨rfl, K2.out.os, K2.out.tape, K2.out.output, K2.out.size, K2.out.block⟩
 ·have hgo : (room : Int) - (u : Int) < (m : Int) := by omega
  have hlenb : ((X.length : Int) == 256) = false := by simp; omega
  clear hfew;go_enter Try.func45, Try.ntmps45;go_wp2_with fail
  refine HIN.out.mono ?_;rintro e w0 ⟨rfl, e0⟩;obtain rfl : w = w0 := e0.symm;clear e0;go_wp2_with fail
  refine HFI.out.mono ?_;rintro e w1 ⟨rfl, k1⟩;have c01 := (k1.cell (cell_lt c0)).trans c0;have c11 := (k1.cell (cell_lt c1)).trans c1;have c21 := (k1.cell (cell_lt c2)).trans c2;have hd1 : d < w1.heap.size := Nat.lt_of_lt_of_le hd k1.size;have K2 := hide (below_step k1 (below_alloc w1 (.cells #[.slice A n c, .int .i64 (l : Int)] 77)));have kd : Below w.heap.size w (w1.alloc (.cells #[.slice A n c, .int .i64 (l : Int)] 77)).drew := ⟨K2.out.os, K2.out.tape, K2.out.output, K2.out.size, K2.out.block⟩;have hml2 := fun ty => HML.out _ ty kd
  clear c0 c1 c2 k1;go_wp2_with fail
  go_region
  clear c01 c11 c21 hml2 kd;go_wp2_with fail
  go_ret;exact ⟨rfl, K2.out.os, K2.out.tape, K2.out.output, K2.out.size, K2.out.block⟩
 ·have hlenb : ((X.length : Int) == 256) = true := by simp; omega
  clear hfew;go_enter Try.func45, Try.ntmps45;go_wp2_with fail
  refine HIN.out.mono ?_;rintro e w0 ⟨rfl, e0⟩;obtain rfl : w = w0 := e0.symm;clear e0;go_wp2_with fail
  refine HFI.out.mono ?_;rintro e w1 ⟨rfl, k1⟩;have c01 := (k1.cell (cell_lt c0)).trans c0;have c11 := (k1.cell (cell_lt c1)).trans c1;have c21 := (k1.cell (cell_lt c2)).trans c2;have hd1 : d < w1.heap.size := Nat.lt_of_lt_of_le hd k1.size;have K2 := hide (below_step k1 (below_alloc w1 (.cells #[.slice A n c, .int .i64 (l : Int)] 77)));have kd : Below w.heap.size w (w1.alloc (.cells #[.slice A n c, .int .i64 (l : Int)] 77)).drew := ⟨K2.out.os, K2.out.tape, K2.out.output, K2.out.size, K2.out.block⟩;have hml2 := fun ty => HML.out _ ty kd
  clear c0 c1 c2 k1;go_wp2_with fail
  go_region
  clear c01 c11 c21 hml2 kd;go_wp2_with fail
  go_ret;exact ⟨rfl, K2.out.os, K2.out.tape, K2.out.output, K2.out.size, K2.out.block⟩
theorem append_any (F : Nat -> Prop) (d room : Nat) (L : DiskL) (s : ByteArray) (P : Option Addr) (m cp : Nat) (p : List Nat) (w : World) (hD : DiskAt w F d room L) (hs : s.size <= 1099511627776) (hP : IsB w (.slice P m cp) p) (hm : p.length = m) (hb : ∀ x ∈ p, x < 256) (hmr : m <= 1099511627776) :
  Calls Try.prog 45 #[.pointer (some ⟨d, 0, none⟩), .string s, .slice P m cp] w fun e w' => e = .returned (.int .i64 ((appL room s.data.toList p L).2 : Nat)) /\ ∃ F', DiskAt w' F' d room (appL room s.data.toList p L).1 /\ Next F w F' w' := by
 unfold appL;rw [str_len];obtain ⟨hrise, hlen, _, _, _⟩ := hD.facts;by_cases hn : 1 <= s.size /\ s.size <= 64
 ·rw [if_neg (fun h => h hn)];by_cases hf : (getK s.data.toList L = none /\ 256 <= L.length) \/ room < usedL L + p.length
  ·rw [if_pos hf];have fin : Calls Try.prog 45 #[.pointer (some ⟨d, 0, none⟩), .string s, .slice P m cp] w fun e w' => e = .returned (.int .i64 6) /\ Below w.heap.size w w' := by
    rcases hg : getK s.data.toList L with _ | ⟨xs, l⟩
    ·obtain ⟨X, rfl, hS, _, hx⟩ := disk_missing hD hg;refine append_full_core F d room X s none P 0 0 0 m cp false w hS hn (find_none F d room X s w hS hs hx) ?_ hmr;rw [absX_length] at hf hlen;rw [absX_used, hm] at hf;by_cases h256 : X.length = 256
     ·exact .inr ⟨rfl, h256⟩
     ·refine .inl ⟨.inr ⟨rfl, h256⟩, ?_⟩;rcases hf with ⟨_, h⟩ | h
      ·omega
      ·exact h
    ·obtain ⟨X, A, c, rfl, hS, _, hx, _, _, _, _⟩ := disk_found hD hg;refine append_full_core F d room X s A P xs.length c l m cp true w hS hn (find_some F d room X s A xs.length c l xs w hS hs hx) (.inl ⟨.inl rfl, ?_⟩) hmr;rw [absX_used, hm] at hf;rcases hf with ⟨h, _⟩ | h
     ·rw [hg] at h; cases h
     ·exact h
   refine fin.mono ?_;rintro e w' ⟨rfl, k⟩;exact ⟨rfl, F, hD.below k, Next.of_below F k⟩
  ·rw [if_neg hf];refine append_ok F d room L s P m cp p w hD hn hP hm hb ?_ (by rw [hm] at hf; omega);rcases hg : getK s.data.toList L with _ | a
   ·right
    rcases Nat.lt_or_ge L.length 256 with h | h
    ·exact h
    ·exact absurd (.inl ⟨hg, h⟩) hf
   ·exact .inl rfl
 ·rw [if_pos hn];refine (append_arg d s (.slice P m cp) w hn (by omega)).mono ?_;rintro e w' ⟨rfl, k⟩;exact ⟨rfl, F, hD.below k, Next.of_below F k⟩
theorem size_some (F : Nat -> Prop) (d room : Nat) (L : DiskL) (s : ByteArray) (xs : List Nat) (l : Nat) (w : World) (hD : DiskAt w F d room L) (hs : s.size <= 1099511627776) (hg : getK s.data.toList L = some (xs, l)) :
  Calls Try.prog 22 #[.pointer (some ⟨d, 0, none⟩), .string s] w fun e w' => e = .returned (.tuple #[.int .i64 (xs.length : Int), .bool true]) /\ Below w.heap.size w w' := by
 obtain ⟨X, A, c, rfl, hS, hf, hx, ho, hb, hl, hlen⟩ := disk_found hD hg;obtain ⟨n, hn⟩ : ∃ n, n = xs.length := ⟨_, rfl⟩;rw [<- hn] at hx ho hl hlen ⊢;have FS := hide (find_some F d room X s A n c l xs w hS hs hx);clear hD hg hS hf hx ho hn;go_enter Try.func22, Try.ntmps22;go_wp2_with fail
 refine FS.out.mono ?_;rintro e w1 ⟨rfl, k1⟩;have K2 := hide (below_step k1 (below_alloc w1 (.cells #[.slice A n c, .int .i64 (l : Int)] 77)));clear k1;go_wp2_with fail
 go_ret2;exact ⟨rfl, K2.out⟩
theorem size_none (F : Nat -> Prop) (d room : Nat) (L : DiskL) (s : ByteArray) (w : World) (hD : DiskAt w F d room L) (hs : s.size <= 1099511627776) (hg : getK s.data.toList L = none) :
  Calls Try.prog 22 #[.pointer (some ⟨d, 0, none⟩), .string s] w fun e w' => e = .returned (.tuple #[.int .i64 0, .bool false]) /\ Below w.heap.size w w' := by
 obtain ⟨X, rfl, hS, hf, hx⟩ := disk_missing hD hg;have FS := hide (find_none F d room X s w hS hs hx);clear hD hg hS hf hx;go_enter Try.func22, Try.ntmps22;go_wp2_with fail
 refine FS.out.mono ?_;rintro e w1 ⟨rfl, k1⟩;have K2 := hide (below_step k1 (below_alloc w1 (.cells #[.slice none 0 0, .int .i64 0] 77)));clear k1;go_wp2_with fail
 go_ret2;exact ⟨rfl, K2.out⟩
end Go.Proofs.Ytbmhfnhfhdgdgaa
