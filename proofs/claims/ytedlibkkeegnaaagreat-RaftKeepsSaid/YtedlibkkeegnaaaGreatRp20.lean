/- The contract of the disk's Append. Condition: names no longer than the model's strings, what is laid below 2 to the 40. The contract of the disk's Append, all i -/
import Derived.Test.YtedlibkkeegnaaaGreatRp19
namespace Go.Proofs.YtedlibkkeegnaaaGreat
open Go.RowKit Go.Maps
variable {w w' : World} {F : Nat -> Prop} {room d n b : Nat}
theorem map_size {X : List (Str × Fil)} (h : w.ownsMap Tryz.prog 9 tok b n (strP filV X)) (ty : TypeId) : (Builtin.len_ #[50] ty #[.map (some b)]).run Tryz.prog w = .ok (.int .i64 (X.length : Int)) w := by
 have := h.len Tryz.underlying50 ty;rw [strP_size] at this;exact this
theorem Shell.map_len {X : List (Str × Fil)} (h : Shell w F d room X) : ∃ mv, w.cell? ⟨d, 2, none⟩ = some (.map mv) /\ ∀ W ty, Below w.heap.size w W -> (Builtin.len_ #[50] ty #[.map mv]).run Tryz.prog W = .ok (.int .i64 (X.length : Int)) W := by
 obtain ⟨mv, hB, hm⟩ := h.cells;refine ⟨mv, hB.cell 2, fun W ty hW => ?_⟩;rcases hm with ⟨rfl, rfl⟩ | ⟨b, rfl, _, hm⟩
 ·exact Maps.len_nil Tryz.underlying50 ty
 ·exact map_size (ownsMap_turn (S := fun _ => False) hm (Turn.of_below _ hW) id) ty
theorem Files.off {X : List (Str × Fil)} {row : Option Nat} (h : Files w F X) (g : w.grownBy w' row) (ho : ∀ p ∈ X, ∀ i, p.2.1.ownBlock = some i -> some i ≠ row) : Files w' F X :=
 ⟨fun p hp => ⟨(h.each p hp).1.turn (Turn.of_grown g) (fun i hi e => ho p hp i hi e), (h.each p hp).2⟩, h.apart⟩
set_option maxRecDepth 100000 in
set_option maxHeartbeats 3200000 in
theorem append_core (F : Nat -> Prop) (d room : Nat) (X : List (Str × Fil)) (s : ByteArray) (A P : Option Addr) (n c l m cp : Nat) (xs p : List Nat) (is : Bool) (w : World) (hS : Shell w F d room X) (hf : Files w F X) (hs : 1 <= s.size /\ s.size <= 64)
  (hfind : Calls Tryz.prog 84 #[.pointer (some ⟨d, 0, none⟩), .string s] w fun e w' => e = .returned (.tuple #[.agg #[.slice A n c, .int .i64 (l : Int)], .bool is]) /\ Below w.heap.size w w')
  (hn : xs.length = n) (hl : l <= n) (ho : Own w 0 (.slice A n c) xs) (hoff : ∀ g, (Value.slice A n c).ownBlock = some g -> F g /\ ∀ q ∈ delK s.data.toList X, q.2.1.ownBlock ≠ some g)
  (hbx : ∀ x ∈ xs ++ p, x < 256) (hsum : sumK filL (delK s.data.toList X) + n = sumK filL X) (his : is = true /\ (getK s.data.toList X).isSome = true \/ is = false /\ X.length < 256) (hP : IsB w (.slice P m cp) p) (hm : p.length = m) (hroom : sumK filL X + m <= room) :
  Calls Tryz.prog 118 #[.pointer (some ⟨d, 0, none⟩), .string s, .slice P m cp] w fun e w' => e = .returned (.int .i64 0) /\ ∃ F', DiskAt w' F' d room (putK s.data.toList (xs ++ p, l) (absX X)) /\ Next F w F' w' := by
 have HIN := hide (isName_any s w (by omega));rw [decide_eq_true hs] at HIN;obtain ⟨mv, c2, hml⟩ := hS.map_len;obtain ⟨mv', hB, hmm⟩ := hS.cells;clear hmm;obtain ⟨u, hu⟩ : ∃ u, u = sumK filL X := ⟨_, rfl⟩;rw [<- hu] at hB hroom hsum;have c0 : w.cell? ⟨d, 0, none⟩ = some (.int .i64 (room : Int)) := hB.cell 0;have c1 : w.cell? ⟨d, 1, none⟩ = some (.int .i64 (u : Int)) := hB.cell 1;have hd : d < w.heap.size := hB.lt;have hr := hS.most;have hnr : n <= 1073741824 := by omega
 have hmr : m <= 1073741824 := by omega
 have hgo : ¬ ((room : Int) - (u : Int) < (m : Int)) := by omega
 have HFI := hide hfind;have HML := hide hml;have HP := hide hP;have HM := hide hm;have HN := hide hn;have HS := hide hS;have HF := hide hf;have HO := hide ho;have HOFF := hide hoff;have HBB := hide hbx;have HU : Hid (sumK filL (delK s.data.toList X) + (n + m) <= room) := by unfold Hid; omega
 clear hfind hml hu hB hP hm hn hS hf ho hoff hbx hsum;rcases his with ⟨rfl, hsome⟩ | ⟨rfl, hfew⟩
 ·have HFEW : Hid ((getK s.data.toList X).isSome = true \/ X.length < 256) := .inl hsome;clear hsome;go_enter Tryz.func118, Tryz.ntmps118;go_wp2_with fail
  refine HIN.out.mono ?_;rintro e w0 ⟨rfl, e0⟩;obtain rfl : w = w0 := e0.symm;clear e0;go_wp2_with fail
  refine HFI.out.mono ?_;rintro e w1 ⟨rfl, k1⟩;have c01 := (k1.cell (cell_lt c0)).trans c0;have c11 := (k1.cell (cell_lt c1)).trans c1;have c21 := (k1.cell (cell_lt c2)).trans c2;have hd1 : d < w1.heap.size := Nat.lt_of_lt_of_le hd k1.size;clear c0 c1 c2;go_wp2_with fail
  go_region
  clear c01 c11 c21;have ka := below_alloc w1 (.cells #[.slice A n c, .int .i64 (l : Int)] 74);have b2 := Blk.new (B := 0) w1 74 #[.slice A n c, .int .i64 (l : Int)] (Nat.zero_le _);have k2 := below_step k1 ka;have hw1 : w.heap.size <= w1.heap.size := k1.size;have es : (w1.alloc (.cells #[.slice A n c, .int .i64 (l : Int)] 74)).heap.size = w1.heap.size + 1 := by simp
  obtain ⟨W2, hW2⟩ : ∃ W2, W2 = (w1.alloc (.cells #[.slice A n c, .int .i64 (l : Int)] 74)).drew := ⟨_, rfl⟩;have k2' : Below w.heap.size w W2 := by rw [hW2]; exact ⟨k2.os, k2.tape, k2.output, k2.size, k2.block⟩
  have b2' : Blk W2 0 74 w1.heap.size [.slice A n c, .int .i64 (l : Int)] := by rw [hW2]; exact b2
  have es' : W2.heap.size = w1.heap.size + 1 := by rw [hW2]; exact es
  rw [<- hW2];have f0 : W2.cell? ⟨w1.heap.size, 0, none⟩ = some (.slice A n c) := b2'.cell 0;have S2 := hide (HS.out.below k2');have F2 := hide (HF.out.turn (S := fun _ => False) (Turn.of_below _ k2') (fun _ _ => id));have O2 := hide (HO.out.turn (S := fun _ => False) (Turn.of_below _ k2') (fun _ _ => id));have P2 := hide (HP.out.keep k2');have B2 := hide b2';have K2 := hide k2';have ES := hide es';clear ka b2 k2 es hW2 k2' b2' es' k1;go_wp2_with (at_builtin; refine halt ?_)
  refine ⟨?_⟩;refine wpList_append_at rfl (.tmp 47) (.tmp 48) rfl 0 (.slice A n c) xs rfl O2.out _ p rfl P2.out (by rw [HN.out, HM.out]; omega) (Nat.zero_le _) ?_;intro v w3 o3 g3 l3;have hlv : ∀ g, v.ownBlock = some g -> F g \/ w.heap.size <= g := fun g hg => by
   rcases l3 with e | e
   ·exact .inl ((HOFF.out g (by rw [<- e]; exact hg)).1)
   ·rw [hg] at e;have e : g = W2.heap.size := by simpa using e
    have := K2.out.size;exact .inr (by omega)
  have hvo : ∀ g, v.ownBlock = some g -> ∀ q ∈ delK s.data.toList X, q.2.1.ownBlock ≠ some g := fun g hg q hq => by
   rcases l3 with e | e
   ·exact (HOFF.out g (by rw [<- e]; exact hg)).2 q hq
   ·intro e2;rw [hg] at e;have e : g = W2.heap.size := by simpa using e
    have h1 := HS.out.low g ((HF.out.each q (mem_delK.1 hq).1).2.1 g e2);have := K2.out.size;omega
  have hfb : ¬ (some w1.heap.size = (Value.slice A n c).ownBlock) := fun e => by
   have h1 := HS.out.low _ (HOFF.out _ e.symm).1;omega
  have hvb : ¬ (v.ownBlock = some w1.heap.size) := fun e => by
   rcases l3 with e' | e'
   ·exact hfb (by rw [<- e', e])
   ·rw [e] at e';have e' : w1.heap.size = W2.heap.size := by simpa using e'
    have := ES.out;omega
  have b3 := B2.out.turn (Turn.of_grown g3) hfb;have s3 := S2.out.grown O2.out g3;have f3 : Files w3 F (delK s.data.toList X) := (F2.out.sub (fun q (hq : q ∈ delK s.data.toList X) => (mem_delK.1 hq).1)).off g3 (fun q hq g hg e => (HOFF.out g e.symm).2 q hq hg);have t3 : Turn F w w3 := (Turn.of_below F K2.out).then (Turn.of_grown g3) (fun i e => .inl (HOFF.out i e.symm).1)
  obtain ⟨A3, c3, rfl, _⟩ := o3.isB.form (n := n + m) (by rw [List.length_append, HN.out, HM.out]);have c30 : w3.cell? ⟨w1.heap.size, 0, none⟩ = some (.slice A n c) := b3.cell 0;have c31 : w3.cell? ⟨w1.heap.size, 1, none⟩ = some (.int .i64 (l : Int)) := b3.cell 1;have z30 := b3.frozen 0;have gs := grown_set w3 w1.heap.size 0 (.slice A3 (n + m) c3);have hnF : ¬ F w1.heap.size := fun h => by
   have := HS.out.low _ h;omega
  have s4 := s3.turn (Turn.of_grown gs) (fun i hi e => hnF (by
   have e : i = w1.heap.size := by simpa using e
   subst e;exact hi))
  have f4 := f3.turn (Turn.of_grown gs) (fun i hi e => hnF (by
   have e : i = w1.heap.size := by simpa using e
   subst e;exact hi))
  have o4 := o3.turn (Turn.of_grown gs) (fun i hi e => hvb (by
   have e : i = w1.heap.size := by simpa using e
   subst e;exact hi))
  have t4 := t3.then (Turn.of_grown gs) (fun i e => .inr (by
   have e : i = w1.heap.size := by simpa using e
   omega))
  have hlo4 := o4.lt;have hG : ∀ g, (F g \/ (Value.slice A3 (n + m) c3).ownBlock = some g) -> F g \/ w.heap.size <= g := fun g hg => by
   rcases hg with h | h
   ·exact .inl h
   ·exact hlv g h
  have S4 := hide (s4.more (F' := fun g => F g \/ (Value.slice A3 (n + m) c3).ownBlock = some g) (fun g => .inl) (fun g hg => by
   rcases hg with h | h
   ·exact s4.low g h
   ·exact (hlo4 g h).2))
  have F4 := hide (f4.u8 (U8.refl _) (F' := fun g => F g \/ (Value.slice A3 (n + m) c3).ownBlock = some g) (fun g => .inl));have O4 := hide o4;have T4 := hide t4;have HG := hide hG;have HVO := hide hvo;clear f0 o3 g3 l3 hlv hvo hfb hvb b3 s3 f3 t3 gs hnF s4 f4 o4 t4 hlo4 hG;go_wp2_with fail
  clear c30 c31 z30;refine (lay_disk _ d room X s A3 (n + m) c3 l (xs ++ p) _ S4.out F4.out (by omega) (by rw [List.length_append, HN.out, HM.out]) (by omega) O4.out HBB.out (fun g hg => ⟨.inr hg, HVO.out g hg⟩) (by have := HU.out; omega) HFEW.out).mono ?_;rintro e w5 ⟨rfl, F', d5, n5⟩;have KE := hide (And.intro d5 (Next.of_more T4.out n5 HG.out));clear d5 n5;go_wp2_with fail
  go_ret;exact ⟨rfl, F', KE.out⟩
 ·have HFEW : Hid ((getK s.data.toList X).isSome = true \/ X.length < 256) := .inr hfew;have hlenb : ((X.length : Int) == 256) = false := by simp; omega
  go_enter Tryz.func118, Tryz.ntmps118;go_wp2_with fail
  refine HIN.out.mono ?_;rintro e w0 ⟨rfl, e0⟩;obtain rfl : w = w0 := e0.symm;clear e0;go_wp2_with fail
  refine HFI.out.mono ?_;rintro e w1 ⟨rfl, k1⟩;have c01 := (k1.cell (cell_lt c0)).trans c0;have c11 := (k1.cell (cell_lt c1)).trans c1;have c21 := (k1.cell (cell_lt c2)).trans c2;have hd1 : d < w1.heap.size := Nat.lt_of_lt_of_le hd k1.size;have kd : Below w.heap.size w (w1.alloc (.cells #[.slice A n c, .int .i64 (l : Int)] 74)).drew := by
   have k2 := below_step k1 (below_alloc w1 (.cells #[.slice A n c, .int .i64 (l : Int)] 74));exact ⟨k2.os, k2.tape, k2.output, k2.size, k2.block⟩
  have hml2 := fun ty => HML.out _ ty kd
  clear c0 c1 c2;go_wp2_with fail
  go_region
  clear hml2 kd;clear c01 c11 c21;have ka := below_alloc w1 (.cells #[.slice A n c, .int .i64 (l : Int)] 74);have b2 := Blk.new (B := 0) w1 74 #[.slice A n c, .int .i64 (l : Int)] (Nat.zero_le _);have k2 := below_step k1 ka;have hw1 : w.heap.size <= w1.heap.size := k1.size;have es : (w1.alloc (.cells #[.slice A n c, .int .i64 (l : Int)] 74)).heap.size = w1.heap.size + 1 := by simp
  obtain ⟨W2, hW2⟩ : ∃ W2, W2 = (w1.alloc (.cells #[.slice A n c, .int .i64 (l : Int)] 74)).drew := ⟨_, rfl⟩;have k2' : Below w.heap.size w W2 := by rw [hW2]; exact ⟨k2.os, k2.tape, k2.output, k2.size, k2.block⟩
  have b2' : Blk W2 0 74 w1.heap.size [.slice A n c, .int .i64 (l : Int)] := by rw [hW2]; exact b2
  have es' : W2.heap.size = w1.heap.size + 1 := by rw [hW2]; exact es
  rw [<- hW2];have f0 : W2.cell? ⟨w1.heap.size, 0, none⟩ = some (.slice A n c) := b2'.cell 0;have S2 := hide (HS.out.below k2');have F2 := hide (HF.out.turn (S := fun _ => False) (Turn.of_below _ k2') (fun _ _ => id));have O2 := hide (HO.out.turn (S := fun _ => False) (Turn.of_below _ k2') (fun _ _ => id));have P2 := hide (HP.out.keep k2');have B2 := hide b2';have K2 := hide k2';have ES := hide es';clear ka b2 k2 es hW2 k2' b2' es' k1;go_wp2_with (at_builtin; refine halt ?_)
  refine ⟨?_⟩;refine wpList_append_at rfl (.tmp 47) (.tmp 48) rfl 0 (.slice A n c) xs rfl O2.out _ p rfl P2.out (by rw [HN.out, HM.out]; omega) (Nat.zero_le _) ?_;intro v w3 o3 g3 l3;have hlv : ∀ g, v.ownBlock = some g -> F g \/ w.heap.size <= g := fun g hg => by
   rcases l3 with e | e
   ·exact .inl ((HOFF.out g (by rw [<- e]; exact hg)).1)
   ·rw [hg] at e;have e : g = W2.heap.size := by simpa using e
    have := K2.out.size;exact .inr (by omega)
  have hvo : ∀ g, v.ownBlock = some g -> ∀ q ∈ delK s.data.toList X, q.2.1.ownBlock ≠ some g := fun g hg q hq => by
   rcases l3 with e | e
   ·exact (HOFF.out g (by rw [<- e]; exact hg)).2 q hq
   ·intro e2;rw [hg] at e;have e : g = W2.heap.size := by simpa using e
    have h1 := HS.out.low g ((HF.out.each q (mem_delK.1 hq).1).2.1 g e2);have := K2.out.size;omega
  have hfb : ¬ (some w1.heap.size = (Value.slice A n c).ownBlock) := fun e => by
   have h1 := HS.out.low _ (HOFF.out _ e.symm).1;omega
  have hvb : ¬ (v.ownBlock = some w1.heap.size) := fun e => by
   rcases l3 with e' | e'
   ·exact hfb (by rw [<- e', e])
   ·rw [e] at e';have e' : w1.heap.size = W2.heap.size := by simpa using e'
    have := ES.out;omega
  have b3 := B2.out.turn (Turn.of_grown g3) hfb;have s3 := S2.out.grown O2.out g3;have f3 : Files w3 F (delK s.data.toList X) := (F2.out.sub (fun q (hq : q ∈ delK s.data.toList X) => (mem_delK.1 hq).1)).off g3 (fun q hq g hg e => (HOFF.out g e.symm).2 q hq hg);have t3 : Turn F w w3 := (Turn.of_below F K2.out).then (Turn.of_grown g3) (fun i e => .inl (HOFF.out i e.symm).1)
  obtain ⟨A3, c3, rfl, _⟩ := o3.isB.form (n := n + m) (by rw [List.length_append, HN.out, HM.out]);have c30 : w3.cell? ⟨w1.heap.size, 0, none⟩ = some (.slice A n c) := b3.cell 0;have c31 : w3.cell? ⟨w1.heap.size, 1, none⟩ = some (.int .i64 (l : Int)) := b3.cell 1;have z30 := b3.frozen 0;have gs := grown_set w3 w1.heap.size 0 (.slice A3 (n + m) c3);have hnF : ¬ F w1.heap.size := fun h => by
   have := HS.out.low _ h;omega
  have s4 := s3.turn (Turn.of_grown gs) (fun i hi e => hnF (by
   have e : i = w1.heap.size := by simpa using e
   subst e;exact hi))
  have f4 := f3.turn (Turn.of_grown gs) (fun i hi e => hnF (by
   have e : i = w1.heap.size := by simpa using e
   subst e;exact hi))
  have o4 := o3.turn (Turn.of_grown gs) (fun i hi e => hvb (by
   have e : i = w1.heap.size := by simpa using e
   subst e;exact hi))
  have t4 := t3.then (Turn.of_grown gs) (fun i e => .inr (by
   have e : i = w1.heap.size := by simpa using e
   omega))
  have hlo4 := o4.lt;have hG : ∀ g, (F g \/ (Value.slice A3 (n + m) c3).ownBlock = some g) -> F g \/ w.heap.size <= g := fun g hg => by
   rcases hg with h | h
   ·exact .inl h
   ·exact hlv g h
  have S4 := hide (s4.more (F' := fun g => F g \/ (Value.slice A3 (n + m) c3).ownBlock = some g) (fun g => .inl) (fun g hg => by
   rcases hg with h | h
   ·exact s4.low g h
   ·exact (hlo4 g h).2))
  have F4 := hide (f4.u8 (U8.refl _) (F' := fun g => F g \/ (Value.slice A3 (n + m) c3).ownBlock = some g) (fun g => .inl));have O4 := hide o4;have T4 := hide t4;have HG := hide hG;have HVO := hide hvo;clear f0 o3 g3 l3 hlv hvo hfb hvb b3 s3 f3 t3 gs hnF s4 f4 o4 t4 hlo4 hG;go_wp2_with fail
  clear c30 c31 z30;refine (lay_disk _ d room X s A3 (n + m) c3 l (xs ++ p) _ S4.out F4.out (by omega) (by rw [List.length_append, HN.out, HM.out]) (by omega) O4.out HBB.out (fun g hg => ⟨.inr hg, HVO.out g hg⟩) (by have := HU.out; omega) HFEW.out).mono ?_;rintro e w5 ⟨rfl, F', d5, n5⟩;have KE := hide (And.intro d5 (Next.of_more T4.out n5 HG.out));clear d5 n5;go_wp2_with fail
  go_ret;exact ⟨rfl, F', KE.out⟩
theorem append_ok (F : Nat -> Prop) (d room : Nat) (L : DiskL) (s : ByteArray) (P : Option Addr) (m cp : Nat) (p : List Nat) (w : World) (hD : DiskAt w F d room L) (hs : 1 <= s.size /\ s.size <= 64) (hP : IsB w (.slice P m cp) p) (hm : p.length = m) (hb : ∀ x ∈ p, x < 256)
  (hcase : (getK s.data.toList L).isSome = true \/ L.length < 256) (hroom : usedL L + m <= room) :
  Calls Tryz.prog 118 #[.pointer (some ⟨d, 0, none⟩), .string s, .slice P m cp] w fun e w' => e = .returned (.int .i64 0) /\ ∃ F', DiskAt w' F' d room (putK s.data.toList (oldB s.data.toList L ++ p, oldN s.data.toList L) L) /\ Next F w F' w' := by
 unfold oldB oldN;rcases hg : getK s.data.toList L with _ | ⟨xs, l⟩
 ·rw [hg] at hcase;obtain ⟨X, rfl, hS, hf, hx⟩ := disk_missing hD hg;rw [absX_used] at hroom;rw [absX_length] at hcase;have hd := delK_of_none hx;refine append_core F d room X s none P 0 0 0 m cp [] p false w hS hf hs (find_none F d room X s w hS (by omega) hx) rfl (Nat.le_refl _) (World.ownsRow_nil _ _ _ _) (fun g hg => by simp [Value.ownBlock] at hg) hb (by rw [hd]; rfl) (.inr ⟨rfl, ?_⟩) hP hm hroom;rcases hcase with h | h
  ·cases h
  ·exact h
 ·obtain ⟨X, A, c, rfl, hS, hf, hx, ho, hbx, hl, hlen⟩ := disk_found hD hg;rw [absX_used] at hroom;refine append_core F d room X s A P xs.length c l m cp xs p true w hS hf hs (find_some F d room X s A xs.length c l xs w hS (by omega) hx) rfl hl ho (fun g hg => ⟨(hf.each _ (getK_mem hx)).2.1 g hg, fun q hq => hf.apart _ (getK_mem hx) q (mem_delK.1 hq).1 (fun e => (mem_delK.1 hq).2 e.symm) g hg⟩) (byte_app hbx hb) ?_ (.inl ⟨rfl, by rw [hx]; rfl⟩) hP hm hroom;have h1 := sumK_del filL s.data.toList hS.rise;rw [hx] at h1;exact h1.symm
theorem append_arg (d : Nat) (s : ByteArray) (v : Value) (w : World) (hs : ¬ (1 <= s.size /\ s.size <= 64)) (hb : s.size <= 9223372036854775807) :
  Calls Tryz.prog 118 #[.pointer (some ⟨d, 0, none⟩), .string s, v] w fun e w' => e = .returned (.int .i64 1) /\ Below w.heap.size w w' := by
 have HIN := hide (isName_any s w hb);rw [decide_eq_false hs] at HIN;go_enter Tryz.func118, Tryz.ntmps118;go_wp2_with fail
 refine HIN.out.mono ?_;rintro e w1 ⟨rfl, rfl⟩;go_wp2_with fail
 go_ret;exact ⟨rfl, Below.refl _ _⟩
set_option maxRecDepth 100000 in
set_option maxHeartbeats 1600000 in
theorem append_full_core (F : Nat -> Prop) (d room : Nat) (X : List (Str × Fil)) (s : ByteArray) (A P : Option Addr) (n c l m cp : Nat) (is : Bool) (w : World) (hS : Shell w F d room X) (hs : 1 <= s.size /\ s.size <= 64)
  (hfind : Calls Tryz.prog 84 #[.pointer (some ⟨d, 0, none⟩), .string s] w fun e w' => e = .returned (.tuple #[.agg #[.slice A n c, .int .i64 (l : Int)], .bool is]) /\ Below w.heap.size w w')
  (his : (is = true \/ is = false /\ ¬ X.length = 256) /\ room < sumK filL X + m \/ is = false /\ X.length = 256) (hmr : m <= 1099511627776) :
  Calls Tryz.prog 118 #[.pointer (some ⟨d, 0, none⟩), .string s, .slice P m cp] w fun e w' => e = .returned (.int .i64 6) /\ Below w.heap.size w w' := by
 have HIN := hide (isName_any s w (by omega));rw [decide_eq_true hs] at HIN;obtain ⟨mv, c2, hml⟩ := hS.map_len;obtain ⟨mv', hB, hmm⟩ := hS.cells;clear hmm;have hr := hS.most;have hur := hS.used;obtain ⟨u, hu⟩ : ∃ u, u = sumK filL X := ⟨_, rfl⟩;rw [<- hu] at hB his hur;have c0 : w.cell? ⟨d, 0, none⟩ = some (.int .i64 (room : Int)) := hB.cell 0;have c1 : w.cell? ⟨d, 1, none⟩ = some (.int .i64 (u : Int)) := hB.cell 1;have hd : d < w.heap.size := hB.lt;have HFI := hide hfind;have HML := hide hml;clear hfind hml hu hB hS;rcases his with ⟨rfl | ⟨rfl, hfew⟩, hful⟩ | ⟨rfl, hfew⟩
 ·have hgo : (room : Int) - (u : Int) < (m : Int) := by omega
  go_enter Tryz.func118, Tryz.ntmps118;go_wp2_with fail
  refine HIN.out.mono ?_;rintro e w0 ⟨rfl, e0⟩;obtain rfl : w = w0 := e0.symm;clear e0;go_wp2_with fail
  refine HFI.out.mono ?_;rintro e w1 ⟨rfl, k1⟩;have c01 := (k1.cell (cell_lt c0)).trans c0;have c11 := (k1.cell (cell_lt c1)).trans c1;have c21 := (k1.cell (cell_lt c2)).trans c2;have hd1 : d < w1.heap.size := Nat.lt_of_lt_of_le hd k1.size;have K2 := hide (below_step k1 (below_alloc w1 (.cells #[.slice A n c, .int .i64 (l : Int)] 74)));clear c0 c1 c2 k1;go_wp2_with fail
  go_region
  clear c01 c11 c21;go_wp2_with fail
  go_ret;exact ⟨rfl, K2.out.os, K2.out.tape, K2.out.output, K2.out.size, K2.out.block⟩
 ·have hgo : (room : Int) - (u : Int) < (m : Int) := by omega
  have hlenb : ((X.length : Int) == 256) = false := by simp; omega
  clear hfew;go_enter Tryz.func118, Tryz.ntmps118;go_wp2_with fail
  refine HIN.out.mono ?_;rintro e w0 ⟨rfl, e0⟩;obtain rfl : w = w0 := e0.symm;clear e0;go_wp2_with fail
  refine HFI.out.mono ?_;rintro e w1 ⟨rfl, k1⟩;have c01 := (k1.cell (cell_lt c0)).trans c0;have c11 := (k1.cell (cell_lt c1)).trans c1;have c21 := (k1.cell (cell_lt c2)).trans c2;have hd1 : d < w1.heap.size := Nat.lt_of_lt_of_le hd k1.size;have K2 := hide (below_step k1 (below_alloc w1 (.cells #[.slice A n c, .int .i64 (l : Int)] 74)));have kd : Below w.heap.size w (w1.alloc (.cells #[.slice A n c, .int .i64 (l : Int)] 74)).drew := ⟨K2.out.os, K2.out.tape, K2.out.output, K2.out.size, K2.out.block⟩;have hml2 := fun ty => HML.out _ ty kd
  clear c0 c1 c2 k1;go_wp2_with fail
  go_region
  clear c01 c11 c21 hml2 kd;go_wp2_with fail
  go_ret;exact ⟨rfl, K2.out.os, K2.out.tape, K2.out.output, K2.out.size, K2.out.block⟩
 ·have hlenb : ((X.length : Int) == 256) = true := by simp; omega
  clear hfew;go_enter Tryz.func118, Tryz.ntmps118;go_wp2_with fail
  refine HIN.out.mono ?_;rintro e w0 ⟨rfl, e0⟩;obtain rfl : w = w0 := e0.symm;clear e0;go_wp2_with fail
  refine HFI.out.mono ?_;rintro e w1 ⟨rfl, k1⟩;have c01 := (k1.cell (cell_lt c0)).trans c0;have c11 := (k1.cell (cell_lt c1)).trans c1;have c21 := (k1.cell (cell_lt c2)).trans c2;have hd1 : d < w1.heap.size := Nat.lt_of_lt_of_le hd k1.size;have K2 := hide (below_step k1 (below_alloc w1 (.cells #[.slice A n c, .int .i64 (l : Int)] 74)));have kd : Below w.heap.size w (w1.alloc (.cells #[.slice A n c, .int .i64 (l : Int)] 74)).drew := ⟨K2.out.os, K2.out.tape, K2.out.output, K2.out.size, K2.out.block⟩;have hml2 := fun ty => HML.out _ ty kd
  clear c0 c1 c2 k1;go_wp2_with fail
  go_region
  clear c01 c11 c21 hml2 kd;go_wp2_with fail
  go_ret;exact ⟨rfl, K2.out.os, K2.out.tape, K2.out.output, K2.out.size, K2.out.block⟩
theorem append_any (F : Nat -> Prop) (d room : Nat) (L : DiskL) (s : ByteArray) (P : Option Addr) (m cp : Nat) (p : List Nat) (w : World) (hD : DiskAt w F d room L) (hs : s.size <= 1099511627776) (hP : IsB w (.slice P m cp) p) (hm : p.length = m) (hb : ∀ x ∈ p, x < 256) (hmr : m <= 1099511627776) :
  Calls Tryz.prog 118 #[.pointer (some ⟨d, 0, none⟩), .string s, .slice P m cp] w fun e w' => e = .returned (.int .i64 ((appL room s.data.toList p L).2 : Nat)) /\ ∃ F', DiskAt w' F' d room (appL room s.data.toList p L).1 /\ Next F w F' w' := by
 unfold appL;rw [str_len];obtain ⟨hrise, hlen, _, _, _⟩ := hD.facts;by_cases hn : 1 <= s.size /\ s.size <= 64
 ·rw [if_neg (fun h => h hn)];by_cases hf : (getK s.data.toList L = none /\ 256 <= L.length) \/ room < usedL L + p.length
  ·rw [if_pos hf];have fin : Calls Tryz.prog 118 #[.pointer (some ⟨d, 0, none⟩), .string s, .slice P m cp] w fun e w' => e = .returned (.int .i64 6) /\ Below w.heap.size w w' := by
    rcases hg : getK s.data.toList L with _ | ⟨xs, l⟩
    ·obtain ⟨X, rfl, hS, _, hx⟩ := disk_missing hD hg;refine append_full_core F d room X s none P 0 0 0 m cp false w hS hn (find_none F d room X s w hS hs hx) ?_ hmr;rw [absX_length] at hf hlen;rw [absX_used, hm] at hf;by_cases h256 : X.length = 256
     ·exact .inr ⟨rfl, h256⟩
     ·refine .inl ⟨.inr ⟨rfl, h256⟩, ?_⟩;rcases hf with ⟨_, h⟩ | h
      ·omega
      ·exact h
    ·obtain ⟨X, A, c, rfl, hS, _, hx, _, _, _, _⟩ := disk_found hD hg;refine append_full_core F d room X s A P xs.length c l m cp true w hS hn (find_some F d room X s A xs.length c l xs w hS hs hx) (.inl ⟨.inl rfl, ?_⟩) hmr;rw [absX_used, hm] at hf;rcases hf with ⟨h, _⟩ | h
     ·rw [hg] at h; cases h
     ·exact h
   refine fin.mono ?_;rintro e w' ⟨rfl, k⟩;exact ⟨rfl, F, hD.below k, Next.of_below F k⟩
  ·rw [if_neg hf];refine append_ok F d room L s P m cp p w hD hn hP hm hb ?_ (by rw [hm] at hf; omega);rcases hg : getK s.data.toList L with _ | a
   ·right
    rcases Nat.lt_or_ge L.length 256 with h | h
    ·exact h
    ·exact absurd (.inl ⟨hg, h⟩) hf
   ·exact .inl rfl
 ·rw [if_pos hn];refine (append_arg d s (.slice P m cp) w hn (by omega)).mono ?_;rintro e w' ⟨rfl, k⟩;exact ⟨rfl, F, hD.below k, Next.of_below F k⟩
set_option maxHeartbeats 1600000 in
theorem rename_ok (F : Nat -> Prop) (d room : Nat) (L : DiskL) (s t : ByteArray) (xs : List Nat) (l : Nat) (w : World) (hD : DiskAt w F d room L) (hs : s.size <= 1099511627776) (ht : 1 <= t.size /\ t.size <= 64) (hg : getK s.data.toList L = some (xs, l)) :
  Calls Tryz.prog 121 #[.pointer (some ⟨d, 0, none⟩), .string s, .string t] w fun e w' => e = .returned (.int .i64 0) /\ ∃ F', DiskAt w' F' d room (putK t.data.toList (xs, l) (delK s.data.toList L)) /\ Next F w F' w' := by
 obtain ⟨X, A, c, rfl, hS, hf, hx, ho, hb, hl, hlen⟩ := disk_found hD hg;obtain ⟨n, hn⟩ : ∃ n, n = xs.length := ⟨_, rfl⟩;rw [<- hn] at hx ho hl hlen;have FS := hide (find_some F d room X s A n c l xs w hS hs hx);have HS := hide hS;have HF := hide hf;have HX := hide hx;have HO := hide ho;have HB := hide hb;have HN := hide hn;have HIN := hide (isName_any t w (by omega));rw [decide_eq_true ht] at HIN;have HFG : Hid (∀ g, (Value.slice A n c).ownBlock = some g -> F g /\ ∀ p ∈ delK t.data.toList (delK s.data.toList X), p.2.1.ownBlock ≠ some g) := fun g hg => ⟨(hf.each _ (getK_mem hx)).2.1 g hg, fun p hp => by
  have hp' := (mem_delK.1 (mem_delK.1 hp).1);exact hf.apart _ (getK_mem hx) p hp'.1 (fun e => hp'.2 e.symm) g hg⟩
 have HU : Hid (sumK filL (delK t.data.toList (delK s.data.toList X)) + n <= room) := by
  have h1 := sumK_del filL s.data.toList hS.rise;rw [hx] at h1;have h4 : ((some ((Value.slice A n c, xs, l) : Fil)).map filL).getD 0 = xs.length := rfl;rw [h4] at h1;have h2 := hS.used;have h3 := sumK_del filL t.data.toList (delK_rise (k := s.data.toList) hS.rise);unfold Hid;omega
 have HFEW : Hid ((delK s.data.toList X).length < 256) := by
  have h1 := length_del hS.rise hx;have h2 := hS.few;unfold Hid;omega
 have htb : t.size <= 64 := ht.2;clear hD hg hS hf hx ho hn ht;go_enter Tryz.func121, Tryz.ntmps121;go_wp2_with fail
 refine HIN.out.mono ?_;rintro e w0 ⟨rfl, e0⟩;obtain rfl : w = w0 := e0.symm;clear e0;go_wp2_with fail
 refine FS.out.mono ?_;rintro e w1 ⟨rfl, k1⟩;have k2 := below_step k1 (below_alloc w1 (.cells #[.slice A n c, .int .i64 (l : Int)] 74));have b2 := Blk.new (B := 0) w1 74 #[.slice A n c, .int .i64 (l : Int)] (Nat.zero_le _);have hw1 : w.heap.size <= w1.heap.size := k1.size;obtain ⟨W2, hW2⟩ : ∃ W2, W2 = w1.alloc (.cells #[.slice A n c, .int .i64 (l : Int)] 74) := ⟨_, rfl⟩;rw [<- hW2] at k2 b2;have HW2 := hide hW2;have S2 := hide (HS.out.below k2);have F2 := hide (HF.out.turn (S := fun _ => False) (Turn.of_below _ k2) (fun _ _ => id));have O2 := hide (HO.out.turn (S := fun _ => False) (Turn.of_below _ k2) (fun _ _ => id));have B2 := hide b2;have K2 := hide k2;clear k1 k2 b2 hW2;go_wp2_with fail
 rw [<- HW2.out];refine (drop_any F d room X s _ _ S2.out hs HX.out).mono ?_;rintro e w3 ⟨rfl, s3, n3, u3⟩;have hnF : ¬ F w1.heap.size := fun h => by
  have := HS.out.low _ h;omega
 have b3 := B2.out.turn n3.turn hnF;have f0 : w3.cell? ⟨w1.heap.size, 0, none⟩ = some (.slice A n c) := b3.cell 0;have f1 : w3.cell? ⟨w1.heap.size, 1, none⟩ = some (.int .i64 (l : Int)) := b3.cell 1;have F3 := hide ((F2.out.sub (fun p (hp : p ∈ delK t.data.toList (delK s.data.toList X)) => (mem_delK.1 (mem_delK.1 hp).1).1)).u8 u3 (fun _ => id));have O3 := hide (u3.own O2.out);have S3 := hide s3;have N3 := hide ((Next.of_below F K2.out).trans n3);clear s3 n3 u3 b3;go_wp2_with fail
 clear f0 f1;refine (lay_disk F d room (delK s.data.toList X) t A n c l xs _ S3.out F3.out htb HN.out.symm hl O3.out HB.out HFG.out HU.out (.inr HFEW.out)).mono ?_;rintro e w4 ⟨rfl, F', d4, n4⟩;rw [absX_del] at d4;have KE := hide (And.intro d4 (N3.out.trans n4));clear d4 n4;go_wp2_with fail
 go_ret;exact ⟨rfl, F', KE.out⟩
theorem rename_arg (d : Nat) (s t : ByteArray) (w : World) (ht : ¬ (1 <= t.size /\ t.size <= 64)) (hb : t.size <= 9223372036854775807) :
  Calls Tryz.prog 121 #[.pointer (some ⟨d, 0, none⟩), .string s, .string t] w fun e w' => e = .returned (.int .i64 1) /\ Below w.heap.size w w' := by
 have HIN := hide (isName_any t w hb);rw [decide_eq_false ht] at HIN;go_enter Tryz.func121, Tryz.ntmps121;go_wp2_with fail
 refine HIN.out.mono ?_;rintro e w0 ⟨rfl, e0⟩;obtain rfl : w = w0 := e0.symm;clear e0;go_wp2_with fail
 go_ret;exact ⟨rfl, Below.refl _ _⟩
theorem rename_none (F : Nat -> Prop) (d room : Nat) (L : DiskL) (s t : ByteArray) (w : World) (hD : DiskAt w F d room L) (hs : s.size <= 1099511627776) (ht : 1 <= t.size /\ t.size <= 64) (hg : getK s.data.toList L = none) :
  Calls Tryz.prog 121 #[.pointer (some ⟨d, 0, none⟩), .string s, .string t] w fun e w' => e = .returned (.int .i64 7) /\ Below w.heap.size w w' := by
 obtain ⟨X, rfl, hS, hf, hx⟩ := disk_missing hD hg;have FS := hide (find_none F d room X s w hS hs hx);have HIN := hide (isName_any t w (by omega));rw [decide_eq_true ht] at HIN;clear hD hg hS hf hx ht;go_enter Tryz.func121, Tryz.ntmps121;go_wp2_with fail
 refine HIN.out.mono ?_;rintro e w0 ⟨rfl, e0⟩;obtain rfl : w = w0 := e0.symm;clear e0;go_wp2_with fail
 refine FS.out.mono ?_;rintro e w1 ⟨rfl, k1⟩;have K2 := hide (below_step k1 (below_alloc w1 (.cells #[.slice none 0 0, .int .i64 0] 74)));clear k1;go_wp2_with fail
 go_ret;exact ⟨rfl, K2.out⟩
end Go.Proofs.YtedlibkkeegnaaaGreat
