/- The contract of the program's name of a segment. Condition: a number below 2 to the 40. The contracts of a segment's size and next, and of an append to its entr -/
import Derived.Test.YtedlibkkeegnaaaGreatRp12
import Derived.Test.YtedlibkkeegnaaaGreatRp4
import Derived.Deep.RegionHeld3
namespace Go.Proofs.YtedlibkkeegnaaaGreat
open Go.RowKit Go.Maps
variable {w w' : World} {G : Nat -> Prop}
def rowD (j n : Nat) : List Value := (fillD j n).map fun x : Nat => Value.int .u8 (x : Int)
theorem rowD_set (j n : Nat) (h : j < 8) : (rowD j n).set (7 - j) (.int .u8 ((48 + n / 10 ^ j % 10 : Nat) : Int)) = rowD (j + 1) n := by
 unfold rowD;rw [<- fillD_step j n h, List.map_set]
theorem rowD_at (j n i : Nat) (hj : j <= 8) (hi : i < 8) : ∃ x : Nat, (rowD j n)[i]? = some (.int .u8 (x : Int)) := by
 have h : i < (fillD j n).length := by rw [fillD_len j n hj]; exact hi
 exact ⟨(fillD j n)[i], by unfold rowD; simp [h]⟩
set_option maxRecDepth 100000 in
set_option maxHeartbeats 3200000 in
theorem pname_any (l : Nat) (s : ByteArray) (n : Nat) (w : World) (c1 : w.cell? ⟨l, 1, none⟩ = some (.string s)) (hs : s.size <= 1099511627776) (hn : n <= 1099511627776) :
  Calls Tryz.prog 71 #[.pointer (some ⟨l, 0, none⟩), .int .i64 (n : Int)] w fun e w' => ∃ t : ByteArray, e = .returned (.string t) /\ t.data.toList = nameL s.data.toList n /\ Below w.heap.size w w' := by
 have hll := cell_lt c1;go_enter Tryz.func71, Tryz.ntmps71;go_wp2_with fail
 have ka := below_alloc w (.cells #[.int .u8 0, .int .u8 0, .int .u8 0, .int .u8 0, .int .u8 0, .int .u8 0, .int .u8 0, .int .u8 0] 148);have b0 : Blk (w.alloc (.cells #[.int .u8 0, .int .u8 0, .int .u8 0, .int .u8 0, .int .u8 0, .int .u8 0, .int .u8 0, .int .u8 0] 148)) 0 148 w.heap.size (rowD 0 n) := Blk.new w 148 #[.int .u8 0, .int .u8 0, .int .u8 0, .int .u8 0, .int .u8 0, .int .u8 0, .int .u8 0, .int .u8 0] (Nat.zero_le _);have KA := hide ka;have B0 := hide b0;obtain ⟨b, hb⟩ : ∃ b, b = w.heap.size := ⟨_, rfl⟩;rw [<- hb] at B0 ⊢;have HB := hide hb;clear ka b0 hb
 go_loopw [1, 7] (fun m i7 wr => ∃ (j k : Nat), j <= 8 /\ m = .int .i64 (k : Int) /\ k <= 1099511627776 /\ i7 = .int .i64 (j : Int) /\ Hid (k = n / 10 ^ j) /\ Hid (Blk wr 0 148 b (rowD j n)) /\ Hid (Below w.heap.size w wr)) (fun _ i7 _ => 8 - (intOf i7).toNat)
 case atStart => exact ⟨0, n, Nat.zero_le _, rfl, hn, rfl, by simp [Hid], B0.out, KA.out⟩
 case round =>
  obtain ⟨j, k, hj, rfl, hk, rfl, hK, hR, hB⟩ := hrel;by_cases hlt : j < 8
  ·obtain ⟨q, hq⟩ : ∃ q, q = 7 - j := ⟨_, rfl⟩;have hsub : (7 : Int) - (j : Int) = (q : Int) := by omega
   obtain ⟨x, hx⟩ := rowD_at j n q (by omega) (by omega);have hc := hR.out.cell q;rw [hx] at hc;have hf := hR.out.frozen q;have hq8 : (q : Int) < 8 := by omega
   have hdig : IntKind.u8.wrap (48 + (k : Int) % 10) = ((48 + k % 10 : Nat) : Int) := by rw [IntKind.wrap_u8]; omega
   have HK2 : Hid (k / 10 = n / 10 ^ (j + 1)) := by
    unfold Hid;rw [hK.out, Nat.div_div_eq_div_mul, Nat.pow_succ]
   have HR2 : Hid (Blk (wr.setCell ⟨b, q, none⟩ (.int .u8 ((48 + k % 10 : Nat) : Int))) 0 148 b (rowD (j + 1) n)) := by
    have := hR.out.stored q (.int .u8 ((48 + k % 10 : Nat) : Int));rw [hK.out, hq, rowD_set j n hlt, <- hK.out, <- hq] at this;exact this
   have HB2 := hide (hB.out.setCell (p := ⟨b, q, none⟩) (by rw [HB.out]; exact Nat.le_refl _) (.int .u8 ((48 + k % 10 : Nat) : Int)));clear hx hq;go_wp2_with fail
   go_roundw
   case rel =>
    have e : (48 + (k : Int) % 10) = ((48 + k % 10 : Nat) : Int) := by omega
    exact ⟨j + 1, k / 10, by omega, by go_num, by omega, by go_num, HK2, by rw [e]; exact HR2.out, by rw [e]; exact HB2.out⟩
   case measure => simp [intOf]; omega
  ·obtain rfl : j = 8 := by omega
   obtain ⟨u, hu⟩ : ∃ u : ByteArray, u = ⟨(digs 8 n).toArray⟩ := ⟨_, rfl⟩;have hud : u.data.toList = digs 8 n := by rw [hu]
   have hu8 : u.size = 8 := by
    have h1 : u.data.toList.length = u.size := rfl;rw [hud, digs_len] at h1;exact h1.symm
   have k1 := (hB.out.cell (p := ⟨l, 1, none⟩) hll).trans c1;have cv1 : (convert 32 9 (.slice (some ⟨b, 0, none⟩) 8 8)).run Tryz.prog wr.drew = .ok (.string u) wr.drew := by
    have h := run_convert_bytes_back (P := Tryz.prog) wr.drew 32 9 5 ⟨b, 0, none⟩ 8 (digs 8 n) Tryz.underlying32 Tryz.underlying5 Tryz.underlying9 (fun j hj => by
     have ea : Addr.add ⟨b, 0, none⟩ j = ⟨b, j, none⟩ := by rw [add_off, Nat.zero_add]
     have hc := hR.out.cell j;rw [ea]
     show wr.cell? ⟨b, j, none⟩ = _
     rw [hc];unfold rowD;rw [fillD_all];simp [hj])
    rw [digs_len] at h;rw [hu];exact h
   have n1 : ¬ 9223372036854775807 < s.size + 1 := by omega
   have n2 : ¬ 9223372036854775807 < s.size + 1 + 8 := by omega
   have HU := hide hud;clear hu hud;go_wp2_with fail
   refine Ways.start (fun W => W.cell? ⟨l, 1, none⟩ = some (.string s) /\ (convert 32 9 (.slice (some ⟨b, 0, none⟩) 8 8)).run Tryz.prog W = .ok (.string u) W) 8 9 #[false, false, false, false, false, false, false, false, false] (by kernel_rfl) (by kernel_rfl) (by kernel_rfl) ?_;have hHeld : wr.drew.cell? ⟨l, 1, none⟩ = some (.string s) /\ (convert 32 9 (.slice (some ⟨b, 0, none⟩) 8 8)).run Tryz.prog wr.drew = .ok (.string u) wr.drew := ⟨k1, cv1⟩
   iterate 8
    first | refine' tkW 0 rfl hHeld rfl ?_ ?_ | refine' tkW 1 rfl hHeld rfl ?_ ?_ | refine' tkW 2 rfl hHeld rfl ?_ ?_ | refine' tkW 3 rfl hHeld rfl ?_ ?_ | refine' tkW 4 rfl hHeld rfl ?_ ?_ | refine' tkW 5 rfl hHeld rfl ?_ ?_ | refine' tkW 6 rfl hHeld rfl ?_ ?_ | refine' tkW 7 rfl hHeld rfl ?_ ?_
    rotate_left
    ·(intro W hW; (try dsimp only at hW); go_simp; (try with_reducible rfl))
    try simp only [Act.put, List.setIfInBounds_toArray, List.set_cons_zero, List.set_cons_succ]
   refine Ways.last (by kernel_rfl) rfl (by kernel_rfl) (fun K hK => ?_);go_simp;refine hK.out _ _ ?_;clear hK hHeld;go_wp2_with fail
   go_ret;refine ⟨_, rfl, ?_, ?_⟩
   ·rw [ByteArray.data_append, Array.toList_append, ByteArray.data_append, Array.toList_append, HU.out]
    rfl
   ·have := hB.out;exact ⟨this.os, this.tape, this.output, this.size, this.block⟩
set_option maxRecDepth 100000 in
theorem psize_any (w : World) (G : Nat -> Prop) (g o : Nat) (v : Value) (f : Nat) (es : List (List Nat)) (h1 : w.cell? ⟨g, o + 1, none⟩ = some v) (hE : SegE G w v f es) (hl : (recsL f es).length <= 1099511627776) :
  Calls Tryz.prog 90 #[.pointer (some ⟨g, o, none⟩)] w fun e w' => e = .returned (.int .i64 ((recsL f es).length : Int)) /\ ∃ d, w' = w.drewN d := by
 obtain ⟨A, c, rfl, hlc, hc63, hnil, hcell⟩ := hE.form;rcases hes : es.length with _ | m
 ·have e0 : es = [] := List.eq_nil_of_length_eq_zero hes;subst e0;have h1 : w.cell? ⟨g, o + 1, none⟩ = some (.slice A 0 c) := h1;clear hcell hE hes hnil;go_enter Tryz.func90, Tryz.ntmps90;go_wp2_with fail
  go_ret;exact ⟨rfl, 0, rfl⟩
 ·obtain ⟨b, u, rfl, hb, q0, q1, _⟩ := hcell m (by omega);have et : es.take (m + 1) = es := by rw [<- hes]; exact List.take_length
  rw [et] at q1;obtain ⟨N, hN⟩ : ∃ N, N = (recsL f es).length := ⟨_, rfl⟩;rw [<- hN] at q1 hl ⊢;obtain ⟨n, hn⟩ : ∃ n, n = es.length := ⟨_, rfl⟩;rw [<- hn] at h1 hlc;have hpos : m < n := by omega
  have hs : (n : Int) - 1 = (m : Int) := by omega
  have hz0 : ((n : Int) == 0) = false := by simp; omega
  clear hcell hE hes hnil et hN hn;go_enter Tryz.func90, Tryz.ntmps90;go_wp2_with fail
  go_quiet (fail)
  go_wp2_with fail
  go_ret;exact ⟨rfl, _, rfl⟩
theorem pnext_any (w : World) (g o f n c : Nat) (A : Option Addr) (h0 : w.cell? ⟨g, o, none⟩ = some (.int .i64 (f : Int))) (h1 : w.cell? ⟨g, o + 1, none⟩ = some (.slice A n c)) (hf : f <= 1099511627776) (hn : n <= 1099511627776) :
  Calls Tryz.prog 92 #[.pointer (some ⟨g, o, none⟩)] w fun e w' => e = .returned (.int .i64 ((f + n : Nat) : Int)) /\ ∃ d, w' = w.drewN d := by
 obtain ⟨t, ht⟩ : ∃ t, t = f + n := ⟨_, rfl⟩;rw [<- ht];have hs : (f : Int) + (n : Int) = (t : Int) := by omega
 have hb : t <= 2199023255552 := by omega
 clear ht;go_enter Tryz.func92, Tryz.ntmps92;go_wp2_with fail
 go_quiet (fail)
 go_wp2_with fail
 go_ret;exact ⟨rfl, _, rfl⟩
theorem Tryz.info_ent : (Tryz.prog.info? 121).map (fun i => (i.zero, i.size, i.bytes)) = some (some (.agg #[.slice none 0 0, .int .i64 0]), 2, 32) := by kernel_rfl
theorem wp_append_own_pl {P : Program} {o : Oper} {a : Act} {K : Act -> World -> Prop} {Q : Exit -> Act -> World -> Prop} (s x : Operand) (t : TypeId)
  (ho : o.op = .call { callee := .builtin .append, args := #[s, x], argTypes := #[t, t] })
  (base : Nat) (e : TypeId) (i : TypeInfo) (z : Value) (size bytes : Nat) (ht : P.underlying t = some (.slice e)) (hi : P.info? e = some i) (hz : i.zero = some z)
  (hsize : i.size = size) (hby : i.bytes = bytes) (hzs : z.cells.size = size) (hsz : 0 < size)
  (v : Value) (n : Nat) (xs : List Value) (hs : a.eval s = v) (hown : w.ownsRow base e size v n xs)
  (ad : Addr) (m c : Nat) (news : List Value) (hx : a.eval x = .slice (some ad) m c) (hl : news.length = m * size) (hnews : ∀ j u, news[j]? = some u -> w.cell? (ad.add j) = some u) (h1 : ∀ u ∈ news, u.oneCell' = true)
  (h63 : n + m <= maxLen) (hbytes : (n + m) * bytes <= 140737488355328) (hbase : base <= w.heap.size)
  (h : ∀ v' w', w'.ownsRow base e size v' (n + m) (xs ++ news) -> w.grownBy w' v.ownBlock -> (v'.ownBlock = v.ownBlock \/ v'.ownBlock = some w.heap.size) -> K (a.put o.dst v') w') : o.wp P a w K Q := by
 obtain ⟨v', w', hr, h2, h3, _, h4⟩ := run_append_own_at (P := P) w base t o.type e i z size bytes ht hi hz hsize hby hzs hsz v n xs hown ad m c news hl hnews h1 h63 hbytes hbase;unfold Oper.wp execOp;simp only [ho, resolve, invoke, builtin, Sem.run_bind, Sem.run_pure, Result.andThen_ok, List.map_toArray, List.map_cons, List.map_nil, hs, hx, hr];exact h v' w' h2 h3 h4
theorem SegE.push {v v' : Value} {f : Nat} {es : List (List Nat)} {u : Value} {p : List Nat} {us : List Value} (h1 : us.length = es.length) (h2 : w.ownsRow 0 121 2 v es.length (cellsN us (endsL 0 f es)))
  (h3 : ∀ g, v.ownBlock = some g -> G g) (h4 : ∀ i, i < us.length -> RowU G w (us.getD i (.slice none 0 0)) (es.getD i [])) (hu : RowU G w u p)
  (o : w'.ownsRow 0 121 2 v' (es.length + 1) (cellsN us (endsL 0 f es) ++ [u, .int .i64 (((recsL f es).length + (recL (f + es.length) p).length : Nat) : Int)])) (g : w.grownBy w' v.ownBlock)
  (hv : v'.ownBlock = v.ownBlock \/ v'.ownBlock = some w.heap.size) : SegE (fun q => G q \/ q = w.heap.size) w' v' f (es ++ [p]) := by
 have t : Turn (fun k => some k = v.ownBlock) w w' := Turn.of_grown g;have hoff : ∀ q, (∃ cur fr, w.heap[q]? = some (.cells cur 5 fr)) -> G q -> ¬ some q = v.ownBlock := fun q hq _ e => by
  obtain ⟨cur, fr, hq⟩ := hq;obtain ⟨cur2, h5⟩ := ownsRow_typed h2 e.symm;rw [hq] at h5;simp only [Option.some.injEq, Obj.cells.injEq] at h5;exact absurd h5.2.1 (by decide)
 refine ⟨us ++ [u], by rw [List.length_append, List.length_append, h1]; rfl, ?_, fun q hq => ?_, fun i hi => ?_⟩
 ·rw [endsL_snoc, cellsN_app us [u] _ _ (by rw [endsL_len, h1]), List.length_append, Nat.zero_add];exact o
 ·rcases hv with e | e
  ·exact .inl (h3 q (by rw [<- e]; exact hq))
  ·rw [e] at hq;exact .inr (Option.some.inj hq).symm
 ·rw [List.length_append, List.length_singleton] at hi;by_cases hlt : i < us.length
  ·have e1 : (us ++ [u]).getD i (.slice none 0 0) = us.getD i (.slice none 0 0) := by simp only [List.getD_eq_getElem?_getD]; rw [List.getElem?_append_left hlt]
   have e2 : (es ++ [p]).getD i [] = es.getD i [] := by simp only [List.getD_eq_getElem?_getD]; rw [List.getElem?_append_left (by omega)]
   rw [e1, e2];exact ((h4 i hlt).turn t hoff).mono (fun _ _ => .inl)
  ·have ei : i = us.length := by omega
   have e1 : (us ++ [u]).getD i (.slice none 0 0) = u := by rw [ei]; simp
   have e2 : (es ++ [p]).getD i [] = p := by rw [ei, h1]; simp
   rw [e1, e2];exact (hu.turn t hoff).mono (fun _ _ => .inl)
theorem step_append_ent {ops : Array Oper} {o : Oper} {a : Act} {K : Act -> World -> Prop} {Q : Exit -> Act -> World -> Prop} {E : Prop} (hgd : o.guard = none) (s x : Operand)
  (ho : o.op = .call { callee := .builtin .append, args := #[s, x], argTypes := #[117, 117] })
  (G : Nat -> Prop) (v : Value) (f : Nat) (es : List (List Nat)) (hs : a.eval s = v) (hown : SegE G w v f es)
  (b : Nat) (u : Value) (p : List Nat) (hx : a.eval x = .slice (some ⟨b, 0, none⟩) 1 1) (h0 : w.cell? ⟨b, 0, none⟩ = some u) (h1 : w.cell? ⟨b, 1, none⟩ = some (.int .i64 (((recsL f es).length + (recL (f + es.length) p).length : Nat) : Int))) (hu : RowU G w u p)
  (hlen : es.length + 1 <= 1073741824)
  (h : ∀ v' w', SegE (fun q => G q \/ q = w.heap.size) w' v' f (es ++ [p]) -> w.grownBy w' v.ownBlock -> (v'.ownBlock = v.ownBlock \/ v'.ownBlock = some w.heap.size) -> K (a.put o.dst v') w') : if Region.wanted o (yielded ops a.tmps) = true then Oper.wp Tryz.prog o a w K Q else E := by
 have hw : Region.wanted o (yielded ops a.tmps) = true := by simp [Region.wanted, hgd]
 rw [if_pos hw];obtain ⟨i0, hi, hz0, hz1, hz2⟩ := info_parts Tryz.info_ent;obtain ⟨us, k1, k2, k3, k4⟩ := hown;refine wp_append_own_pl s x _ ho 0 121 i0 _ 2 32 Tryz.underlying117 hi hz0 hz1 hz2 rfl (by decide) v _ _ hs k2 ⟨b, 0, none⟩ 1 1 [u, .int .i64 (((recsL f es).length + (recL (f + es.length) p).length : Nat) : Int)] hx rfl ?_ ?_ (by unfold maxLen; omega) (by omega) (Nat.zero_le _) ?_
 ·intro j z hj
  match j, hj with
  | 0, hj => simp at hj; subst hj; simpa [Addr.add] using h0
  | 1, hj => simp at hj; subst hj; simpa [Addr.add] using h1
 ·intro z hz;simp at hz;rcases hz with rfl | rfl
  ·exact hu.one
  ·rfl
 ·intro v' w' o' g' hv;exact h v' w' (SegE.push k1 k2 k3 k4 hu o' g' hv) g' hv
end Go.Proofs.YtedlibkkeegnaaaGreat
