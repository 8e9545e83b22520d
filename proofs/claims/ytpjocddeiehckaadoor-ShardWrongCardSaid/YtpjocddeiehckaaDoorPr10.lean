/- The contracts of matrix's withOne and behind, and of matrix.Invert. No condition but the widths. -/
import Derived.Test.YtpjocddeiehckaaDoorPr9
import Derived.Test.YtpjocddeiehckaaDoorPr5
import Derived.Laws.CopyOwn
namespace Go.Proofs.YtpjocddeiehckaaDoor
open Go.RowKit
def updRow (f : Mat) (i : Nat) (h : Nat → G) : Mat := fun a b => if a = i then h b else f a b
theorem Grid.setRow {w : World} {B g n m : Nat} {R : Nat → Nat} {f : Mat} (hg : Grid w B g n m R f) (i : Nat) (hi : i < n) (h : Nat → G) :
    Grid (w.setRow (R i) ((List.range m).map fun j => Value.int .u8 ((h j).n : Int)).toArray) B g n m R (updRow f i h) := by
  obtain ⟨hb, cur, hh, hc⟩ := hg.row i hi
  have hgr : w.grownBy (w.setRow (R i) ((List.range m).map fun j => Value.int .u8 ((h j).n : Int)).toArray) (some (R i)) :=
    ⟨rfl, rfl, rfl, by simp [World.setRow], fun k _ hk => setRow_other w (R i) k _ (fun e => hk (by rw [e]))⟩
  refine ⟨hg.outer.kept hgr (fun e => hg.ne i hi (by simpa using e)), fun a ha => ?_, hg.apart⟩
  by_cases e : a = i
  · subst e
    refine ⟨hb, _, setRow_heap w (R a) cur _ _ _ hh, ?_⟩
    unfold cellsG updRow
    simp
  · rw [show cellsG (updRow f i h) a m = cellsG f a m from List.map_congr_left (fun b _ => by unfold updRow; rw [if_neg e])]
    exact (hg.row a ha).kept hgr (fun q => e (hg.apart a i ha hi (by simpa using q.symm)))
theorem Grid.heap {w : World} {B g n m : Nat} {R : Nat → Nat} {f : Mat} (hg : Grid w B g n m R f) (i : Nat) (hi : i < n) : ∃ cur : Array Value, w.heap[R i]? = some (.cells cur 5 (0, 0)) ∧ cur.toList = cellsG f i m := (hg.row i hi).2
theorem Grid.belowRow {w a : World} {B g n m : Nat} {R : Nat → Nat} {f : Mat} (h : Grid w B g n m R f) (i : Nat) (hi : i < n) (cs : Array Value) (hb : Below B a w) : Below B a (w.setRow (R i) cs) := below_setRow hb (h.base i hi) cs
/-- The walk stops at a copy. -/
theorem halt_copy {P : Program} {ops : Array Oper} {Q : Exit → Act → World → Prop} {rest : List Oper} {o : Oper} {a : Act} {w : World} (d s : Operand) (dT sT : TypeId)
    (_ho : o.op = .call { callee := .builtin .copy, args := #[d, s], argTypes := #[dT, sT] }) (h : Halt (wpList P ops Q (o :: rest) a w)) : wpList P ops Q (o :: rest) a w := h.out
/-- Bytes are copied over the first places of a row of the call's own. -/
theorem wpList_copy_grid {w : World} {ops : Array Oper} {rest : List Oper} {o : Oper} {a : Act} {Q : Exit → Act → World → Prop} (hgd : o.guard = none) (d s : Operand)
    (ho : o.op = .call { callee := .builtin .copy, args := #[d, s], argTypes := #[34, 34] })
    {B g n m : Nat} {R : Nat → Nat} {f : Mat} (hg : Grid w B g n m R f) (i : Nat) (hi : i < n) (A : Option Addr) (k c : Nat) (xs : List Nat) (hd : a.eval d = .slice (some ⟨R i, 0, none⟩) m m) (hs : a.eval s = .slice A k c)
    (hx : Rd w A xs) (hk : xs.length = k) (h0 : 1 ≤ k) (hkm : k ≤ m) (h8 : ∀ x ∈ xs, x < 256)
    (h : ∀ w', Grid w' B g n m R (updRow f i (fun j => if j < k then G.of (xs.getD j 0) else f i j)) → (∀ a0, Below B a0 w → Below B a0 w') → wpList Tryd.prog ops Q rest (a.put o.dst (goInt k)) w') : wpList Tryd.prog ops Q (o :: rest) a w := by
  obtain ⟨i0, hi0, hz0, hz1, hz2⟩ := info_parts Tryd.info_u8'
  obtain ⟨cur, hh, hc⟩ := hg.heap i hi
  obtain ⟨b, off, rfl, hcell⟩ := hx (by intro e; rw [e] at hk; simp at hk; omega)
  have hsz : cur.size = m := by rw [← Array.length_toList, hc]; simp [cellsG]
  have hmin : (xs.map fun x : Nat => Value.int .u8 (x : Int)).length = Nat.min k m := by rw [List.length_map, hk]; exact (Nat.min_eq_left hkm).symm
  refine wpList_copy_own hgd d s _ _ ho 5 Tryd.underlying34 (by rw [hi0, Option.map_some, hz1]) (R i) 0 m m ⟨b, off, none⟩ k c hd hs cur _ hh (xs.map fun x : Nat => Value.int .u8 (x : Int)) hmin ?_ (by rw [List.length_map]; omega) (fun v hv => by obtain ⟨x, _, rfl⟩ := List.mem_map.1 hv; rfl) ?_
  · intro j v hv
    have hj : j < xs.length := by
      rcases Nat.lt_or_ge j xs.length with h | h
      · exact h
      · simp [h] at hv
    have := hcell j hj
    simp [hj] at hv
    subst hv
    simpa [add_off, hj] using this
  · rw [show ((xs.map fun x : Nat => Value.int .u8 (x : Int)).length : Int) = (k : Int) by rw [List.length_map, hk]]
    have hl : cur.toList.take 0 ++ ((xs.map fun x : Nat => Value.int .u8 (x : Int)) ++ cur.toList.drop (0 + (xs.map fun x : Nat => Value.int .u8 (x : Int)).length)) = (List.range m).map fun j => Value.int .u8 (((if j < k then G.of (xs.getD j 0) else f i j)).n : Int) := by
      rw [hc]
      apply List.ext_getElem
      · simp [cellsG, hk]; omega
      · intro j h1 h2
        simp only [List.take_zero, List.nil_append, List.length_map, Nat.zero_add, List.getElem_map, List.getElem_range]
        by_cases e : j < k
        · rw [List.getElem_append_left (by rw [List.length_map]; omega)]
          rw [if_pos e]
          have hj : j < xs.length := by omega
          simp only [List.getElem_map]
          rw [G.of_n (getD_lt h8 j)]
          simp [hj]
        · rw [List.getElem_append_right (by rw [List.length_map]; omega)]
          rw [if_neg e]
          simp only [List.length_map, List.getElem_drop, cellsG, List.getElem_map, List.getElem_range]
          rw [show xs.length + (j - xs.length) = j by omega]
    rw [hl]
    exact h _ (hg.setRow i hi _) (fun a0 hb => hg.belowRow i hi _ hb)
set_option maxHeartbeats 1600000 in
theorem withOne_any (A : Option Addr) (n c : Nat) (xss : ML) (w : World) (hA : IsM w A xss) (hs : Shape xss n n) (h1 : 1 ≤ n) (h2 : n ≤ 64) :
    Calls Tryd.prog 69 #[.slice A n c] w fun e w' => ∃ g R, e = .returned (.slice (some ⟨g, 0, none⟩) n n) ∧ Grid w' w.heap.size g n (n + n) R (besides n (en xss)) ∧ Below w.heap.size w w' := by
  have HA := hide hA
  have HS := hide hs
  have HN := noughts_any n (n + n) w (by omega) (by omega)
  rw [show ((n + n : Nat) : Int) = 2 * (n : Int) by omega] at HN
  have HN := hide HN
  obtain ⟨m, hm⟩ : ∃ m, m = n + n := ⟨_, rfl⟩
  rw [← hm] at HN ⊢
  have HM := hide hm
  have hnm : n ≤ m := by omega
  obtain ⟨B, hB⟩ : ∃ B, B = w.heap.size := ⟨_, rfl⟩
  rw [← hB] at HN ⊢
  have HB := hide hB
  clear hA hs hB hm
  go_enter Tryd.func69, Tryd.ntmps69
  go_wp2_with fail
  refine HN.out.mono ?_
  rintro e w1 ⟨g, R, rfl, gr, kb⟩
  have GR := hide gr
  have KB := hide kb
  clear gr kb HN
  go_wp2_with fail
  go_loopw [14] (fun i wr => ∃ k : Nat, k ≤ n ∧ i = .int .i64 (k : Int) ∧ Hid (∃ f, Grid wr B g n m R f ∧ ∀ x y, y < m → f x y = if x < k then besides n (en xss) x y else G.zero) ∧ Hid (Below B w wr)) (fun i _ => n - (intOf i).toNat)
  case atStart => exact ⟨0, Nat.zero_le _, rfl, hide ⟨_, GR.out, fun x y _ => (if_neg (Nat.not_lt_zero x)).symm⟩, KB⟩
  case round =>
    obtain ⟨k, hk, rfl, hf, hbel⟩ := hrel
    by_cases hlt : k < n
    · obtain ⟨b2, off2, A2, c2, rfl, cr0, ir, l2, m2⟩ := HA.out.at_ k (by rw [HS.out.high]; exact hlt)
      have hrow := HS.out.row hlt
      rw [hrow.1] at cr0 l2 ir
      have kw : Below w.heap.size w wr := by rw [← HB.out]; exact hbel.out
      have cr := (kw.cell (cell_lt cr0)).trans cr0
      have rd := (ir.keep kw).rd
      obtain ⟨f, gf, ef⟩ := hf.out
      have cc := gf.cell k hlt
      have HRD := hide rd
      have HRW := hide hrow
      have HGF := hide gf
      have HEF := hide ef
      clear cr0 ir rd hrow kw gf ef
      go_wp2_with (with_reducible refine halt_copy _ _ _ _ rfl ?_)
      refine ⟨?_⟩
      refine wpList_copy_grid rfl (.tmp 19) (.tmp 23) rfl HGF.out k hlt A2 n c2 (xss.getD k []) rfl rfl HRD.out HRW.out.1 h1 hnm HRW.out.2 ?_
      intro w2 g2 hb2
      have cn := g2.num k (n + k) hlt (by rw [HM.out]; omega)
      have fn := g2.frozen k (n + k) hlt
      have st := g2.set k (n + k) hlt G.one
      have BL := hide (g2.below k (n + k) hlt (.int .u8 (G.one.n : Int)) (hb2 _ hbel.out))
      have NX : Hid (∃ f, Grid (w2.setCell ⟨R k, n + k, none⟩ (.int .u8 (G.one.n : Int))) B g n m R f ∧ ∀ x y, y < m → f x y = if x < k + 1 then besides n (en xss) x y else G.zero) := by
        refine ⟨_, st, fun x y hy => ?_⟩
        by_cases e1 : x = k
        · subst e1
          rw [if_pos (by omega)]
          by_cases e2 : y = n + x
          · subst e2
            rw [upd_at]
            unfold besides
            rw [if_neg (by omega), show n + x - n = x by omega, dl_eq]
          · rw [upd_col e2]
            unfold updRow besides
            rw [if_pos rfl]
            dsimp only
            by_cases e3 : y < n
            · rw [if_pos e3, if_pos e3]
              rfl
            · rw [if_neg e3, if_neg e3, HEF.out _ _ hy, if_neg (by omega), dl_ne (by omega)]
        · rw [upd_row e1]
          unfold updRow
          rw [if_neg e1, HEF.out _ _ hy]
          by_cases e2 : x < k
          · rw [if_pos e2, if_pos (by omega)]
          · rw [if_neg e2, if_neg (by omega)]
      rw [show ((G.one.n : Nat) : Int) = 1 from rfl] at NX BL
      have hnk : ((n + k : Nat) : Int) = (n : Int) + (k : Int) := by omega
      have hlm : (n : Int) + (k : Int) < (m : Int) := by have := HM.out; omega
      clear st g2 hb2 hf hbel HGF HEF HRD
      go_wp2_with fail
      go_roundw
      case rel => exact ⟨k + 1, by omega, by go_num, NX, BL⟩
      case measure => simp [intOf]; omega
    · obtain rfl : k = n := by omega
      go_wp2_with fail
      go_ret
      obtain ⟨f, gf, ef⟩ := hf.out
      refine ⟨g, R, rfl, ⟨gf.outer, fun i hi => ?_, gf.apart⟩, hbel.out⟩
      have := gf.row i hi
      rwa [show cellsG f i m = cellsG (besides k (en xss)) i m from List.map_congr_left (fun y hy => by rw [ef i y (List.mem_range.1 hy), if_pos hi])] at this
set_option maxHeartbeats 1600000 in
theorem behind_any (B g n c m : Nat) (W : ML) (w : World) (hO : OwnMt w B (.slice (some ⟨g, 0, none⟩) n c) W) (hs : Shape W n m) (hm : m = n + n) (h1 : 1 ≤ n) (h2 : n ≤ 64) :
    Calls Tryd.prog 74 #[.slice (some ⟨g, 0, none⟩) n c] w fun e w' => ∃ g2, e = .returned (.slice (some ⟨g2, 0, none⟩) n n) ∧ OwnMt w' w.heap.size (.slice (some ⟨g2, 0, none⟩) n n) (rightL n W) ∧ Below w.heap.size w w' := by
  have HO := hide hO
  have HS := hide hs
  have HN := hide (noughts_any n n w (by omega) (by omega))
  have HM := hide hm
  have hnm : n ≤ m := by omega
  have hm1 : 1 ≤ m := by omega
  rw [← second_right hs hm]
  obtain ⟨B2, hB⟩ : ∃ B, B = w.heap.size := ⟨_, rfl⟩
  rw [← hB] at HN ⊢
  have HB := hide hB
  clear hO hs hB hm
  go_enter Tryd.func74, Tryd.ntmps74
  go_wp2_with fail
  refine HN.out.mono ?_
  rintro e w1 ⟨g1, R, rfl, gr, kb⟩
  have GR := hide gr
  have KB := hide kb
  clear gr kb HN
  go_wp2_with fail
  go_loopw [13] (fun i wr => ∃ k : Nat, k ≤ n ∧ i = .int .i64 (k : Int) ∧ Hid (∃ f, Grid wr B2 g1 n n R f ∧ ∀ x y, y < n → x < k → f x y = secondG n W x y) ∧ Hid (Below B2 w wr)) (fun i _ => n - (intOf i).toNat)
  case atStart => exact ⟨0, Nat.zero_le _, rfl, hide ⟨_, GR.out, fun x y _ hx => absurd hx (Nat.not_lt_zero x)⟩, KB⟩
  case round =>
    obtain ⟨k, hk, rfl, hf, hbel⟩ := hrel
    by_cases hlt : k < n
    · have kw : Below w.heap.size w wr := by rw [← HB.out]; exact hbel.out
      obtain ⟨b2, c2, r1, r2, r3, r4, r5, r6⟩ := (HO.out.keep kw).rowAt HS.out hm1 k hlt
      have hrow := HS.out.row hlt
      have rd := r2.isB.tailAt n hnm
      obtain ⟨f, gf, ef⟩ := hf.out
      have cc := gf.cell k hlt
      have HRD := hide rd
      have HRW := hide hrow
      have HGF := hide gf
      have HEF := hide ef
      have hcn : ¬ c2 = n := by have := HM.out; omega
      have hcn2 : (n : Int) ≤ (c2 : Int) := by omega
      have hnm2 : (n : Int) ≤ (m : Int) := by omega
      have hmn : m - n = n := by have := HM.out; omega
      have hmni : (m : Int) - (n : Int) = (n : Int) := by have := HM.out; omega
      clear rd hrow kw gf ef r2 r3 r4
      go_wp2_with (with_reducible refine halt_copy _ _ _ _ rfl ?_)
      refine ⟨?_⟩
      refine wpList_copy_grid rfl (.tmp 18) (.tmp 25) rfl HGF.out k hlt (some ⟨b2, n, none⟩) n (c2 - n) ((W.getD k []).drop n) rfl rfl (by have := HRD.out; rwa [Nat.zero_add] at this) (by rw [List.length_drop, HRW.out.1, hmn]) h1 (Nat.le_refl _) (fun x hx => HRW.out.2 x (List.mem_of_mem_drop hx)) ?_
      intro w2 g2 hb2
      have BL := hide (hb2 _ hbel.out)
      have NX : Hid (∃ f, Grid w2 B2 g1 n n R f ∧ ∀ x y, y < n → x < k + 1 → f x y = secondG n W x y) := by
        refine ⟨_, g2, fun x y hy hx => ?_⟩
        unfold updRow
        by_cases e1 : x = k
        · subst e1
          rw [if_pos rfl]
          dsimp only
          rw [if_pos hy]
          unfold secondG en
          congr 1
          simp
        · rw [if_neg e1]
          exact HEF.out x y hy (by omega)
      clear g2 hb2 hf hbel HGF HEF HRD
      go_wp2_with fail
      go_roundw
      case rel => exact ⟨k + 1, by omega, by go_num, NX, BL⟩
      case measure => simp [intOf]; omega
    · obtain rfl : k = n := by omega
      go_wp2_with fail
      go_ret
      obtain ⟨f, gf, ef⟩ := hf.out
      refine ⟨g1, rfl, ?_, hbel.out⟩
      have := gf.own (by omega) (by omega)
      rwa [show laid k k f = laid k k (secondG k W) from laid_congr (fun i hi j hj => ef i j hj hi)] at this
theorem inv_bad (A : Option Addr) (n c : Nat) (xss : ML) (w : World) (hA : IsM w A xss) (hn : xss.length = n) (h63 : n ≤ 9223372036854775807) (h : ¬ (isMt xss = true ∧ (xss.getD 0 []).length = xss.length)) :
    Calls Tryd.prog 64 #[.slice A n c] w fun e w' => e = .returned (.tuple #[.slice none 0 0, .int .i64 1]) ∧ Below w.heap.size w w' := by
  have HA := hide hA
  have H1 := hide (isMatrix_any A n c xss w hA hn h63)
  have HN := hide hn
  clear hA hn
  rcases h1 : isMt xss with _ | _
  · rw [h1] at H1
    clear h h1
    go_enter Tryd.func64, Tryd.ntmps64
    go_wp2_with fail
    refine H1.out.mono ?_
    rintro e w1 ⟨rfl, k1⟩
    have K1 := hide k1
    clear k1
    go_wp2_with fail
    go_ret2
    exact ⟨rfl, K1.out⟩
  · rw [h1] at H1
    have hne : (xss.getD 0 []).length ≠ n := fun e => h ⟨h1, by rw [e, HN.out]⟩
    have hd := of_decide_eq_true h1
    obtain ⟨b, off, A', c', rfl, ck, -, l1, m1⟩ := HA.out.at_ 0 (by omega)
    have ck0 : w.cell? ⟨b, off, none⟩ = some (.slice A' (xss.getD 0 []).length c') := ck
    obtain ⟨m, hm⟩ : ∃ m, m = (xss.getD 0 []).length := ⟨_, rfl⟩
    rw [← hm] at ck0 l1 hne
    have CK := hide ck0
    have g1 : 0 < (n : Int) := by rw [← HN.out]; omega
    have hne0 : ((m : Int) != (n : Int)) = true := by simp; omega
    clear h h1 hd ck ck0 hne hm
    go_enter Tryd.func64, Tryd.ntmps64
    go_wp2_with fail
    refine H1.out.mono ?_
    rintro e w1 ⟨rfl, k1⟩
    have K1 := hide k1
    have ck2 := (K1.out.cell (cell_lt CK.out)).trans CK.out
    clear k1
    go_wp2_with fail
    go_ret2
    exact ⟨rfl, K1.out⟩
set_option maxHeartbeats 6400000 in
set_option maxRecDepth 100000 in
theorem inv_mat (A : Option Addr) (n c : Nat) (xss : ML) (w : World) (hA : IsM w A xss) (hs : Shape xss n n) (h1 : 1 ≤ n) (h2 : n ≤ 64) :
    Calls Tryd.prog 64 #[.slice A n c] w fun e w' => ∃ v L k, e = .returned (.tuple #[v, .int .i64 k]) ∧ OwnMt w' w.heap.size v L ∧ invAns xss L k ∧ Below w.heap.size w w' := by
  have H1 := isMatrix_any A n c xss w hA hs.high (by omega)
  have him := hs.isMt h1 h2 h1 h2
  rw [him] at H1
  have hl0 := hs.len_at 0 (by omega)
  have HSQ := hide (show isMt xss = true ∧ (xss.getD 0 []).length = xss.length from ⟨him, by rw [hl0, hs.high]⟩)
  have HLN := hide hs.high
  have H1 := hide H1
  have H2 := hide (fun w' (k : Below w.heap.size w w') => withOne_any A n c xss w' (hA.below k) hs h1 h2)
  obtain ⟨b, off, A', c', rfl, ck, -, l1, m1⟩ := hA.at_ 0 (by rw [hs.high]; omega)
  rw [hl0] at ck l1
  have CK : Hid (w.cell? ⟨b, off, none⟩ = some (.slice A' n c')) := hide ck
  have g1 : 0 < (n : Int) := by omega
  have hne0 : ((n : Int) != (n : Int)) = false := by simp
  clear hA hs ck him hl0
  go_enter Tryd.func64, Tryd.ntmps64
  go_wp2_with fail
  refine H1.out.mono ?_
  rintro e w1 ⟨rfl, k1⟩
  have K1 := hide k1
  have ck2 := (K1.out.cell (cell_lt CK.out)).trans CK.out
  clear k1 H1
  go_wp2_with fail
  refine (H2.out _ K1.out).mono ?_
  rintro e w2 ⟨g, R, rfl, gr, k2⟩
  have OM2 := hide ((gr.own (by omega) (by omega)).more K1.out.size)
  have K2 := hide (below_step K1.out k2)
  clear k2 H2 gr ck2
  go_wp2_with fail
  refine (first_any n w2 h1 h2).mono ?_
  rintro e w3 ⟨rfl, rfl⟩
  obtain ⟨B, hB⟩ : ∃ B, B = w.heap.size := ⟨_, rfl⟩
  rw [← hB] at OM2 K2
  have HB := hide hB
  clear hB
  go_wp2_with fail
  go_loopw [5, 28] (fun l i wr => ∃ k : Nat, k ≤ n ∧ i = .int .i64 (k : Int) ∧ l = .int .u64 (setS n k : Nat) ∧ Hid (∃ W, OwnMt wr B (.slice (some ⟨g, 0, none⟩) n n) W ∧ Half n k (en xss) W) ∧ Hid (Below B w wr)) (fun _ i _ => n - (intOf i).toNat)
  case atStart => exact ⟨0, Nat.zero_le _, rfl, rfl, hide ⟨_, OM2.out, besides_half⟩, K2⟩
  case round =>
    obtain ⟨k, hk, rfl, rfl, hv, hbel⟩ := hrel
    by_cases hlt : k < n
    · obtain ⟨W, ow, hw⟩ := hv.out
      have HO := hide ow
      have HW := hide hw
      have HL := hide (lead_any (some ⟨g, 0, none⟩) n (n + n) n k W wr ow.isM.1 hw.shape hlt h2 (by omega) (by omega))
      have HWO := hide (fun w' => without_any n k w' hlt h2)
      have HSZ := hide (show B ≤ wr.heap.size by rw [HB.out]; exact hbel.out.size)
      obtain ⟨s, hs⟩ : ∃ s, s = setS n k := ⟨_, rfl⟩
      rw [← hs] at HL HWO ⊢
      clear hv ow hw hs
      go_wp2_with fail
      refine HL.out.mono ?_
      rintro e w4 ⟨v, rfl, hld, rfl⟩
      rcases hld with ⟨p, rfl, hp1, hp2, hp3⟩ | ⟨rfl, hno⟩
      · have sv := HW.out.shape
        obtain ⟨bp, cp, p1, p2, p3, -, -, -⟩ := HO.out.rowAt sv (by omega) p hp2
        obtain ⟨bk, ck, r1, r2, r3, -, -, -⟩ := HO.out.rowAt sv (by omega) k hlt
        have HP2 := hide p2
        have HR2 := hide r2
        have HPZ := hide (And.intro hp1 hp3)
        have hp2' : (p : Int) < (n : Int) := by omega
        have SW := hide ((HO.out.put HR2.out p).put (HP2.out.putIn (k := p) (u := .slice (some ⟨bk, 0, none⟩) (n + n) ck) HO.out) k)
        have KW := hide ((HO.out.put HR2.out p).below (k := k) (u := .slice (some ⟨bp, 0, none⟩) (n + n) cp) (HO.out.below (k := p) (u := .slice (some ⟨bk, 0, none⟩) (n + n) ck) hbel.out))
        clear p2 r2 sv hp1 hp3
        by_cases hpk : p = k
        · subst hpk
          obtain ⟨rfl, rfl⟩ : bp = bk ∧ cp = ck := by
            rw [p1] at r1
            simp only [Option.some.injEq, Value.slice.injEq, Addr.mk.injEq, and_true, true_and] at r1
            exact r1
          clear r1 r3
          go_wp2_with fail
          go_region
          clear p1 p3
          obtain ⟨W5, hW5⟩ : ∃ W5, W5 = ((w4.setCell ⟨g, p, none⟩ (.slice (some ⟨bp, 0, none⟩) (n + n) cp)).setCell ⟨g, p, none⟩ (.slice (some ⟨bp, 0, none⟩) (n + n) cp)).drew := ⟨_, rfl⟩
          have SW5 := hide (show OwnMt W5 B (.slice (some ⟨g, 0, none⟩) n n) (swapL W p p) by rw [hW5]; exact SW.out.drewN 1)
          have KW5 := hide (show Below B w W5 by rw [hW5]; exact below_drewN KW.out 1)
          rw [← hW5]
          clear hW5 SW KW
          go_wp2_with fail
          refine (HWO.out _).mono ?_
          rintro e w6 ⟨rfl, rfl⟩
          go_wp2_with fail
          refine (settle_any B g n n p (en xss) (swapL W p p) W5 SW5.out (swap_shape HW.out.shape hp2 hlt) h2 hlt (by rw [swap_en HW.out.shape hlt]; exact HPZ.out.2) (HW.out.clear HPZ.out.1 hp2 HPZ.out.2) (by rw [HB.out]; exact KW5.out.size)).mono ?_
          rintro e w7 ⟨rfl, W7, o7, h7, k7⟩
          have O7 := hide o7
          have H7 := hide h7
          have K7 := hide (KW5.out.trans k7)
          clear o7 h7 k7
          go_wp2_with fail
          go_roundw
          case rel => exact ⟨p + 1, by omega, by go_num, rfl, hide ⟨W7, O7.out, H7.out⟩, K7⟩
          case measure => simp [intOf]; omega
        · have hkp : ¬ k = p := fun q => hpk q.symm
          go_wp2_with fail
          go_region
          clear p1 p3 r1 r3
          obtain ⟨W5, hW5⟩ : ∃ W5, W5 = ((w4.setCell ⟨g, p, none⟩ (.slice (some ⟨bk, 0, none⟩) (n + n) ck)).setCell ⟨g, k, none⟩ (.slice (some ⟨bp, 0, none⟩) (n + n) cp)).drew := ⟨_, rfl⟩
          have SW5 := hide (show OwnMt W5 B (.slice (some ⟨g, 0, none⟩) n n) (swapL W p k) by rw [hW5]; exact SW.out.drewN 1)
          have KW5 := hide (show Below B w W5 by rw [hW5]; exact below_drewN KW.out 1)
          rw [← hW5]
          clear hW5 SW KW
          go_wp2_with fail
          refine (HWO.out _).mono ?_
          rintro e w6 ⟨rfl, rfl⟩
          go_wp2_with fail
          refine (settle_any B g n n k (en xss) (swapL W p k) W5 SW5.out (swap_shape HW.out.shape hp2 hlt) h2 hlt (by rw [swap_en HW.out.shape hlt]; exact HPZ.out.2) (HW.out.clear HPZ.out.1 hp2 HPZ.out.2) (by rw [HB.out]; exact KW5.out.size)).mono ?_
          rintro e w7 ⟨rfl, W7, o7, h7, k7⟩
          have O7 := hide o7
          have H7 := hide h7
          have K7 := hide (KW5.out.trans k7)
          clear o7 h7 k7
          go_wp2_with fail
          go_roundw
          case rel => exact ⟨k + 1, by omega, by go_num, rfl, hide ⟨W7, O7.out, H7.out⟩, K7⟩
          case measure => simp [intOf]; omega
      · go_wp2_with fail
        go_ret2
        exact ⟨_, [], _, rfl, OwnMt.nil _ _, .inr ⟨HSQ.out.1, HSQ.out.2, .inl ⟨rfl, rfl, by rw [HLN.out]; exact HW.out.flat hlt hno⟩⟩, by rw [← HB.out]; exact hbel.out⟩
    · obtain rfl : k = n := by omega
      obtain ⟨W, ow, hw⟩ := hv.out
      have HBH := hide (behind_any B g k k (k + k) W wr ow hw.shape rfl h1 h2)
      have HR := hide hw.right
      clear hv ow hw
      go_wp2_with fail
      refine HBH.out.mono ?_
      rintro e w5 ⟨g5, rfl, o5, k5⟩
      have O5 := hide (o5.more hbel.out.size)
      have K5 := hide (hbel.out.trans (k5.mono (by rw [HB.out]; exact hbel.out.size)))
      clear o5 k5
      go_wp2_with fail
      go_ret2
      exact ⟨_, _, _, rfl, O5.out, .inr ⟨HSQ.out.1, HSQ.out.2, .inr ⟨rfl, by rw [HLN.out]; exact HR.out⟩⟩, by rw [← HB.out]; exact K5.out⟩
theorem inv_all (A : Option Addr) (n c : Nat) (xss : ML) (w : World) (hA : IsM w A xss) (hn : xss.length = n) (h63 : n ≤ 9223372036854775807) (bA : ∀ r ∈ xss, ∀ x ∈ r, x < 256) :
    Calls Tryd.prog 64 #[.slice A n c] w fun e w' => ∃ v L k, e = .returned (.tuple #[v, .int .i64 k]) ∧ OwnMt w' w.heap.size v L ∧ invAns xss L k ∧ Below w.heap.size w w' := by
  by_cases h : isMt xss = true ∧ (xss.getD 0 []).length = xss.length
  · have d := of_decide_eq_true h.1
    have hs : Shape xss n n := ⟨hn, fun r hr => by rw [d.2.2.2.2 r hr, h.2, hn], bA⟩
    exact inv_mat A n c xss w hA hs (by rw [← hn]; exact d.1) (by rw [← hn]; exact d.2.1)
  · refine (inv_bad A n c xss w hA hn h63 h).mono ?_
    rintro e w' ⟨rfl, hb⟩
    exact ⟨_, [], 1, rfl, OwnMt.nil _ _, .inl ⟨rfl, rfl, h⟩, hb⟩
end Go.Proofs.YtpjocddeiehckaaDoor
