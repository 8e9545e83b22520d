/- The contracts of firstsOf and of remove. Condition: numbers below 2 to the 40, fewer than 2 to the 30 segments. The program's log beside the document's, as lists: what keeps them so. It names nothing of the program but the disk's lists. -/
import Derived.Test.YtejhoefmcldpnaaGreatRk27
import Derived.Test.YtejhoefmcldpnaaGreatRk8
import Derived.Test.YtejhoefmcldpnaaGreatRk16
namespace Go.Proofs.YtejhoefmcldpnaaGreat
open Go.RowKit Go.Maps
set_option maxRecDepth 100000 in
set_option maxHeartbeats 3200000 in
theorem pfirsts_any (w : World) (B N : Nat) (v : Value) (X : List Sgp) (hN : N = X.length) (hrow : w.ownsRow B 127 3 v X.length (cellsP X)) (hl : N ≤ 1073741824) (hv : ∀ x ∈ X, ∃ A1 n1 c1, x.2.1 = .slice A1 n1 c1) :
    Calls Tryz.prog 108 #[v] w fun e w' => ∃ u, e = .returned u ∧ OwnN w' w.heap.size u (X.map fun x : Sgp => (x.1 : Int)) ∧ Below w.heap.size w w' := by
  obtain ⟨A, c, ev, hlc, hc63, hnil, hcell⟩ := rowP_form hrow
  rw [← hN] at hlc ev
  subst ev
  have HN := hide hN
  have HC := hide hcell
  have HV := hide hv
  clear hcell hrow hN hnil hv
  go_enter Tryz.func108, Tryz.ntmps108
  go_wp2_with fail
  go_loopw [3, 8] (fun u ix wr => ∃ j : Nat, j ≤ N ∧ ix = .int .i64 (j : Int) ∧ Hid (OwnN wr w.heap.size u ((X.take j).map fun x : Sgp => (x.1 : Int))) ∧ Hid (Below w.heap.size w wr)) (fun _ ix _ => N - (intOf ix).toNat)
  case atStart => exact ⟨0, Nat.zero_le _, rfl, hide (World.ownsRow_nil _ _ _ _), Below.refl _ _⟩
  case round =>
    obtain ⟨j, hj, rfl, hO, hB⟩ := hrel
    by_cases hlt : j < N
    · have hjX : j < X.length := by have := HN.out; omega
      obtain ⟨g, rfl, _, hgl, q0, q1, q2, _⟩ := HC.out j hjX
      obtain ⟨f, hf⟩ : ∃ f, f = X[j].1 := ⟨_, rfl⟩
      obtain ⟨A1, n1, c1, hvv⟩ := HV.out X[j] (List.getElem_mem hjX)
      obtain ⟨bb, hbb⟩ : ∃ bb, bb = X[j].2.2.1 := ⟨_, rfl⟩
      rw [← hf] at q0
      rw [hvv] at q1
      rw [← hbb] at q2
      have q0' := (hB.out.cell (p := ⟨g, j * 3, none⟩) hgl).trans q0
      have q1' := (hB.out.cell (p := ⟨g, j * 3 + 1, none⟩) hgl).trans q1
      have q2' := (hB.out.cell (p := ⟨g, j * 3 + 2, none⟩) hgl).trans q2
      have ka := below_alloc wr (.cells #[.int .i64 (f : Int), .slice A1 n1 c1, .bool bb] 127)
      have m0 : (wr.alloc (.cells #[.int .i64 (f : Int), .slice A1 n1 c1, .bool bb] 127)).cell? ⟨wr.heap.size, 0, none⟩ = some (.int .i64 (f : Int)) := by rw [cell_of_row _ _ _ _ _ (0, 0) (heap_alloc_new wr _)]; rfl
      have HF := hide hf
      have KA := hide ka
      clear hf hvv hbb q0 q1 q2 ka
      go_wp2_with (at_builtin; refine halt ?_)
      refine ⟨wpList_of_step (fun K hK => ?_)⟩
      have nb := below_alloc (wr.alloc (.cells #[.int .i64 (f : Int), .slice A1 n1 c1, .bool bb] 127)) (.cells #[.int .i64 (f : Int)] 3)
      have hz : (wr.alloc (.cells #[.int .i64 (f : Int), .slice A1 n1 c1, .bool bb] 127)).heap.size = wr.heap.size + 1 := by simp
      have m5 := cell_new (wr.alloc (.cells #[.int .i64 (f : Int), .slice A1 n1 c1, .bool bb] 127)) (.int .i64 (f : Int)) 3
      rw [hz] at m5
      have K2 := hide (hB.out.trans ((KA.out.trans (nb.mono KA.out.size)).mono hB.out.size))
      have hO2 : OwnN ((wr.alloc (.cells #[.int .i64 (f : Int), .slice A1 n1 c1, .bool bb] 127)).alloc (.cells #[.int .i64 (f : Int)] 3)) w.heap.size u3 ((X.take j).map fun x : Sgp => (x.1 : Int)) := ownsRow_turn hO.out (Turn.of_below (fun _ => False) (KA.out.trans (nb.mono KA.out.size))) (fun _ _ => id)
      refine step_append_num rfl (.tmp 12) (.tmp 15) rfl w.heap.size u3 ((X.take j).map fun x : Sgp => (x.1 : Int)) (by rfl) hO2 (wr.heap.size + 1) (f : Int) (by rfl) m5 (by rw [List.length_map, List.length_take]; omega) K2.out.size ?_
      rintro v9 w9 o9 g9 -
      have O9 : Hid (OwnN w9 w.heap.size v9 ((X.take (j + 1)).map fun x : Sgp => (x.1 : Int))) := hide (by rw [List.take_succ_eq_append_getElem hjX, List.map_append]; show OwnN w9 _ v9 (_ ++ [((X[j].1 : Nat) : Int)]); rw [← HF.out]; exact o9)
      have K9 := hide (K2.out.grown g9 K2.out.size (fun k hk => (World.ownsRow.lt hO2 k hk).1))
      refine hK.out _ _ ?_
      clear hK o9 g9 hO2 m5 hz nb
      simp only [Act.put, List.setIfInBounds_toArray, List.set_cons_zero, List.set_cons_succ]
      go_wp2_with fail
      go_roundw
      case rel => exact ⟨j + 1, by omega, by go_num, O9.out, K9.out⟩
      case measure => simp [intOf]; omega
    · obtain rfl : j = N := by omega
      have hO2 := hO.out
      rw [List.take_of_length_le (by have := HN.out; omega)] at hO2
      have O2 := hide hO2
      clear hO2
      go_wp2_with fail
      go_ret
      exact ⟨_, rfl, O2.out, hB.out⟩
theorem OwnN.cells10 {w : World} {B : Nat} {v : Value} {zs : List Int} (h : OwnN w B v zs) : ∃ A c, v = .slice A zs.length c ∧ zs.length ≤ c ∧ c ≤ 9223372036854775807 ∧ ∀ i (hi : i < zs.length), ∃ g, A = some ⟨g, 0, none⟩ ∧ B ≤ g ∧ g < w.heap.size ∧ w.cell? ⟨g, i, none⟩ = some (.int .i64 zs[i]) := by
  unfold OwnN at h
  rcases h.2 with ⟨rfl, hn⟩ | ⟨g, cap, cur, rfl, hb, hg, h1, h2, _⟩
  · exact ⟨none, 0, by rw [hn], by omega, by decide, fun i hi => by omega⟩
  · refine ⟨_, cap, rfl, h1, by unfold maxLen at h2; omega, fun i hi => ⟨g, rfl, hb, heap_lt hg, ?_⟩⟩
    rw [World.ownsRow.cellAt h i (by omega)]
    simp [hi]
/-- What the removes of some files leave of the disk. -/
def removesL (k : Str) (l : List Nat) (L : DiskL) : DiskL := l.foldl (fun L n => (remL (nameL k n) L).1) L
set_option maxRecDepth 100000 in
set_option maxHeartbeats 6400000 in
theorem premove_any (w : World) (F G : Nat → Prop) (dp l room : Nat) (s : ByteArray) (P : PLog) (L : DiskL) (u : Value) (B : Nat) (fs : List Nat) (h : PBoth w F G dp l room s P L) (hs : s.size ≤ 64) (ho : OwnN w B u (fs.map fun n : Nat => (n : Int))) (hoF : ∀ g, u.ownBlock = some g → ¬ F g) (hf : ∀ n ∈ fs, n ≤ 1099511627776) (hfl : fs.length ≤ 1073741824) :
    Calls Tryz.prog 73 #[.pointer (some ⟨l, 0, none⟩), u] w fun e w' => e = .returned (.tuple #[]) ∧ ∃ F', PBoth w' F' G dp l room s P (removesL s.data.toList fs L) ∧ Next F w F' w' := by
  obtain ⟨vS, X, eP, hP⟩ := h.log
  have c0 : w.cell? ⟨l, 0, none⟩ = some (.pointer (some ⟨dp, 0, none⟩)) := hP.cells.cell 0
  have c1 : w.cell? ⟨l, 1, none⟩ = some (.string s) := hP.cells.cell 1
  have hll := cell_lt c0
  have hnl : Hid (¬ F l) := hide (fun hk => h.apart l hk hP.own)
  obtain ⟨A, c, eD, hlc, hc63, hcell⟩ := ho.cells10
  subst eD
  obtain ⟨N, hN⟩ : ∃ N, N = fs.length := ⟨_, rfl⟩
  have hlen : (fs.map fun n : Nat => (n : Int)).length = N := by rw [List.length_map, hN]
  rw [hlen] at hlc ho hoF ⊢
  have HN := hide hN
  have HC := hide hcell
  have HH := hide h
  have HFF := hide hf
  have HOF := hide hoF
  have hN30 : N ≤ 1073741824 := by rw [hN]; exact hfl
  clear hcell h hf hN hP eP ho hfl
  go_enter Tryz.func73, Tryz.ntmps73
  go_wp2_with fail
  go_loopw [8] (fun ix wr => ∃ (j : Nat) (F' : Nat → Prop), j ≤ N ∧ ix = .int .i64 (j : Int) ∧ Hid (PBoth wr F' G dp l room s P (removesL s.data.toList (fs.take j) L)) ∧ Hid (Next F w F' wr)) (fun ix _ => N - (intOf ix).toNat)
  case atStart => exact ⟨0, F, Nat.zero_le _, rfl, HH.out, Next.refl _ _⟩
  case round =>
    obtain ⟨j, F', hj, rfl, hP, hX⟩ := hrel
    have k0 := (hX.out.far (i := 0) hll hnl.out).trans c0
    have k1 := (hX.out.far (i := 1) hll hnl.out).trans c1
    by_cases hlt : j < N
    · have hjf : j < fs.length := by have := HN.out; omega
      obtain ⟨g, rfl, _, hgl, q⟩ := HC.out j (by rw [List.length_map]; exact hjf)
      have hng := HOF.out g rfl
      obtain ⟨n, hn⟩ : ∃ n, n = fs[j] := ⟨_, rfl⟩
      have q : w.cell? ⟨g, j, none⟩ = some (.int .i64 (n : Int)) := by rw [q, hn]; simp
      have k5 := (hX.out.far (i := j) hgl hng).trans q
      have hn40 : n ≤ 1099511627776 := by rw [hn]; exact HFF.out _ (List.getElem_mem hjf)
      have HST : Hid (removesL s.data.toList (fs.take (j + 1)) L = (remL (nameL s.data.toList n) (removesL s.data.toList (fs.take j) L)).1) := hide (by
        unfold removesL
        rw [List.take_succ_eq_append_getElem hjf, List.foldl_append, hn]
        rfl)
      have hs64 : s.size ≤ 1099511627776 := by omega
      have k1d : wr.drew.cell? ⟨l, 1, none⟩ = some (.string s) := k1
      clear hn q
      go_wp2_with fail
      go_region_held3 (fun W' => W'.cell? ⟨l, 0, none⟩ = some (.pointer (some ⟨dp, 0, none⟩))) (go_keep)
        (first
          | (go_at_call 77; refine (pname_any l s n _ k1d hs64 hn40).mono ?_; rintro e w2 ⟨t, rfl, htl, kn⟩; have kn2 : Below wr.heap.size wr w2 := (by exact ⟨kn.os, kn.tape, kn.output, kn.size, kn.block⟩); have D2 := hide (hP.out.disk.below kn2); have L2 := hide (hP.out.log.below kn2); have N2 := hide (hX.out.trans (Next.of_below F' kn2)); have x0 := (N2.out.far (i := 0) hll hnl.out).trans c0; have TL := hide htl; have TS : t.size ≤ 1099511627776 := (by have h1 : t.data.toList.length = t.size := rfl; have h2 := name_len s.data.toList n; have h3 : s.data.toList.length = s.size := rfl; rw [htl, h2, h3] at h1; omega); clear htl kn kn2)
          | (go_at_call 97; refine (remove_any F' dp room _ t w2 D2.out TS).mono ?_; rintro e w3 ⟨rfl, F3, d3, n3⟩; rw [TL.out] at d3 ⊢; have N3 := hide (N2.out.trans n3); have y0 := (N3.out.far (i := 0) hll hnl.out).trans c0; have D3 := hide d3; have M3 := hide n3; clear d3 n3))
      go_wp2_with fail
      go_roundw
      case rel =>
        have hap : ∀ k, F' k → ¬ G k := hP.out.apart
        have hlow := L2.out.low
        refine ⟨j + 1, F3, by omega, by go_num, ?_, N3.out⟩
        unfold Hid
        rw [HST.out]
        exact ⟨D3.out, L2.out.turn M3.out.turn (fun q hq hd => hap q hd hq), fun q hq hg => (M3.out.foot q hq).elim (fun h => hap q h hg) (fun h => by have := hlow q hg; omega)⟩
      case measure => simp [intOf]; omega
    · obtain rfl : j = N := by omega
      have hP2 := hP.out
      rw [List.take_of_length_le (by have := HN.out; omega)] at hP2
      have P2 := hide hP2
      clear hP2
      go_wp2_with fail
      go_end0
      exact ⟨rfl, F', P2.out, hX.out⟩
end Go.Proofs.YtejhoefmcldpnaaGreat
namespace Go.Proofs.YtejhoefmcldpnaaGreat
open Go.RowKit Go.Maps
def freshP (P : PLog) : Bool := match P.segs.getLast? with
  | none => true
  | some x => decide (1024 ≤ (recsL x.1 x.2.1).length)
/-- Where the program's next entry goes. -/
def whereP (P : PLog) : Nat := if freshP P = true then P.next else (P.segs.getLast?.map (·.1)).getD P.next
def laidP (l : List Sgf) (p : List Nat) : List Sgf := match l.getLast? with
  | none => []
  | some x => l.dropLast ++ [(x.1, x.2.1 ++ [p], true)]
def addP (room : Nat) (k : Str) (p : List Nat) (P : PLog) (L : DiskL) : (PLog × DiskL) × Nat × Nat :=
  if 1048566 < p.length then ((P, L), 0, 5)
  else if 99999999 ≤ P.next then ((P, L), 0, 6)
  else if (appL room (nameL k (whereP P)) (recL P.next p) L).2 ≠ 0 then ((P, L), 0, (appL room (nameL k (whereP P)) (recL P.next p) L).2)
  else ((⟨laidP (if freshP P = true then P.segs ++ [(P.next, [], false)] else P.segs) p, P.next + 1⟩, (appL room (nameL k (whereP P)) (recL P.next p) L).1), P.next, 0)
structure Twin (k : Str) (P : PLog) (M : LogL) (L : DiskL) : Prop where
  segs : M.segs = P.segs.map bareP
  next : M.next = P.next
  chain : ∃ i, Chain i M.segs M.next
  full : ∀ s ∈ M.segs.dropLast, s.2 ≠ []
  low : ∀ s ∈ M.segs, s.1 < 100000000
  file : ∀ s ∈ M.segs, ∃ a, getK (nameL k s.1) L = some a ∧ a.1.length = (recsL s.1 s.2).length
  stray : ∀ n, n < 100000000 → (getK (nameL k n) L).isSome = true → ∃ s ∈ M.segs, s.1 = n
  fresh : ∀ x ∈ P.segs, x.2.2 = true → x.1 ∈ M.dirty
  last : ∀ x ∈ P.segs, x.2.2 = false → ∀ a, getK (nameL k x.1) L = some a → a.2 = a.1.length
  dirt : ∀ n ∈ M.dirty, n < 100000000
theorem app_ok {room : Nat} {n : Str} {p : List Nat} {L : DiskL} (h : (appL room n p L).2 = 0) : (appL room n p L).1 = putK n (oldB n L ++ p, oldN n L) L := by
  unfold appL at h ⊢
  split
  · next h1 => rw [if_pos h1] at h; exact absurd h (by simp)
  · next h1 =>
    rw [if_neg h1] at h
    split
    · next h2 => rw [if_pos h2] at h; exact absurd h (by simp)
    · rfl
theorem chain_le {S : List Sg} {i n : Nat} (h : Chain i S n) : ∀ s ∈ S, i ≤ s.1 ∧ s.1 + s.2.length ≤ n := by
  induction S generalizing i with
  | nil => intro s hs; cases hs
  | cons t r ih =>
    intro s hs
    obtain ⟨h1, h2⟩ := h
    have hle : ∀ {S : List Sg} {i n : Nat}, Chain i S n → i ≤ n := by
      intro S
      induction S with
      | nil => intro i n h; exact Nat.le_of_eq h
      | cons s r ih => intro i n h; have := ih h.2; omega
    rcases List.mem_cons.1 hs with rfl | hs
    · have := hle h2
      omega
    · have := ih h2 s hs
      omega
theorem Twin.sizes {k : Str} {P : PLog} {M : LogL} {L : DiskL} (h : Twin k P M L) : freshL k M L = freshP P ∧ whereL k M L = whereP P := by
  have hs := h.segs
  have hf : freshL k M L = freshP P := by
    unfold freshL freshP
    rw [hs, List.getLast?_map]
    rcases e : P.segs.getLast? with _ | x
    · rfl
    · simp only [Option.map_some]
      have hm : bareP x ∈ M.segs := by rw [hs]; exact List.mem_map.2 ⟨x, List.mem_of_getLast? e, rfl⟩
      obtain ⟨a, h1, h2⟩ := h.file _ hm
      have h1 : getK (nameL k x.1) L = some a := h1
      have h2 : a.1.length = (recsL x.1 x.2.1).length := h2
      show decide (1024 ≤ sizeL (nameL k x.1) L) = _
      unfold sizeL
      rw [h1]
      simp only [Option.map_some, Option.getD_some, h2]
  refine ⟨hf, ?_⟩
  unfold whereL whereP lastL
  rw [hf, h.next, hs, List.getLast?_map]
  rcases P.segs.getLast? with _ | x <;> rfl
theorem laid_bare (l : List Sgf) (p : List Nat) : (laidP l p).map bareP = laidL (l.map bareP) p := by
  unfold laidP laidL
  rw [List.getLast?_map]
  rcases e : l.getLast? with _ | x
  · rfl
  · simp only [Option.map_some, List.map_append, List.map_cons, List.map_nil, List.map_dropLast]
    rfl
theorem chain_last {S : List Sg} {i n : Nat} {s : Sg} (h : Chain i (S ++ [s]) n) : Chain i S s.1 ∧ n = s.1 + s.2.length := by
  obtain ⟨m, h1, h2⟩ := chain_split h
  obtain ⟨e1, e2⟩ := h2
  have e2 : m + s.2.length = n := e2
  rw [e1]
  exact ⟨h1, e2.symm⟩
theorem twin_add {k : Str} {P : PLog} {M : LogL} {L : DiskL} {room : Nat} (p : List Nat) (h : Twin k P M L) (hr : Rise L) :
    (addL room k p M L).2 = (addP room k p P L).2 ∧ (addL room k p M L).1.2 = (addP room k p P L).1.2 ∧ Twin k (addP room k p P L).1.1 (addL room k p M L).1.1 (addP room k p P L).1.2 := by
  obtain ⟨hf, hw⟩ := h.sizes
  unfold addL addP
  rw [hf, hw, h.next]
  split
  · exact ⟨rfl, rfl, h⟩
  · next hp =>
    split
    · exact ⟨rfl, rfl, h⟩
    · next hn =>
      split
      · exact ⟨rfl, rfl, h⟩
      · next ha =>
        have ha := app_ok (Decidable.of_not_not ha)
        rw [ha]
        refine ⟨rfl, rfl, ?_⟩
        obtain ⟨i, hc⟩ := h.chain
        have hn : P.next < 99999999 := by omega
        by_cases hfp : freshP P = true
        · have hwp : whereP P = P.next := by unfold whereP; rw [if_pos hfp]
          have hall : ∀ s ∈ M.segs, s.1 < P.next := fun s hs => by
            have h1 := (chain_le hc s hs).2
            have h2 : s.2 ≠ [] := by
              rcases List.eq_nil_or_concat M.segs with e | ⟨S0, t, e⟩
              · rw [e] at hs
                cases hs
              · rw [List.concat_eq_append] at e
                have hso := h.full
                rw [e, List.dropLast_concat] at hso
                rw [e] at hs
                rcases List.mem_append.1 hs with hs | hs
                · exact hso s hs
                · have hst : s = t := by simpa using hs
                  subst hst
                  rw [← hf] at hfp
                  unfold freshL at hfp
                  rw [e, List.getLast?_concat] at hfp
                  obtain ⟨a, g1, g2⟩ := h.file s (by rw [e]; simp)
                  intro h0
                  have hz : sizeL (nameL k s.1) L = 0 := by
                    unfold sizeL
                    rw [g1]
                    simp only [Option.map_some, Option.getD_some]
                    rw [g2, h0]
                    rfl
                  dsimp only at hfp
                  rw [hz] at hfp
                  exact absurd hfp (by decide)
            have h3 := List.length_pos_iff.2 h2
            rw [h.next] at h1
            omega
          have hno : getK (nameL k P.next) L = none := by
            rcases e : getK (nameL k P.next) L with _ | a
            · rfl
            · obtain ⟨s, hs, e2⟩ := h.stray P.next (by omega) (by rw [e]; rfl)
              have := hall s hs
              omega
          have e1 : oldB (nameL k P.next) L = [] := by unfold oldB; rw [hno]; rfl
          have hget : ∀ n, n < 100000000 → n ≠ P.next → ∀ b, getK (nameL k n) (putK (nameL k P.next) b L) = getK (nameL k n) L := fun n h1 h2 b => getK_put_other hr (fun e => h2 (name_inj k h1 (by omega) e))
          have hlm : laidL (M.segs ++ [(P.next, [])]) p = M.segs ++ [(P.next, [p])] := by
            unfold laidL
            rw [List.getLast?_concat]
            simp
          have hlp : laidP (P.segs ++ [(P.next, [], false)]) p = P.segs ++ [(P.next, [p], true)] := by
            unfold laidP
            rw [List.getLast?_concat]
            simp
          rw [if_pos hfp, if_pos hfp, hwp, hlm, hlp, e1, List.nil_append]
          refine ⟨by rw [List.map_append, h.segs]; rfl, rfl, ⟨i, ?_⟩, ?_, ?_, ?_, ?_, ?_, ?_, ?_⟩
          · refine chain_app hc ⟨?_, ?_⟩
            · exact h.next.symm
            · show M.next + 1 = P.next + 1
              rw [h.next]
          · show ∀ s ∈ (M.segs ++ [(P.next, [p])]).dropLast, s.2 ≠ []
            rw [List.dropLast_concat]
            intro s hs h0
            have h1 := (chain_le hc s hs).2
            have h2 := hall s hs
            rcases List.eq_nil_or_concat M.segs with e | ⟨S0, t, e⟩
            · rw [e] at hs
              cases hs
            · rw [List.concat_eq_append] at e
              have hso := h.full
              rw [e, List.dropLast_concat] at hso
              have hs' := hs
              rw [e] at hs'
              rcases List.mem_append.1 hs' with hs' | hs'
              · exact hso s hs' h0
              · have hst : s = t := by simpa using hs'
                subst hst
                have hcl := hc
                rw [e] at hcl
                have := (chain_last hcl).2
                rw [h0, h.next] at this
                simp at this
                omega
          · intro s hs
            rcases List.mem_append.1 hs with hs | hs
            · exact h.low s hs
            · have e : s = (P.next, [p]) := by simpa using hs
              subst e
              show P.next < 100000000
              omega
          · intro s hs
            rcases List.mem_append.1 hs with hs | hs
            · obtain ⟨a, g1, g2⟩ := h.file s hs
              exact ⟨a, by rw [hget s.1 (h.low s hs) (by have := hall s hs; omega)]; exact g1, g2⟩
            · have e : s = (P.next, [p]) := by simpa using hs
              subst e
              exact ⟨_, getK_put_same hr, by simp [recsL]⟩
          · intro n hn1 hn2
            by_cases e : n = P.next
            · exact ⟨(P.next, [p]), List.mem_append.2 (.inr (by simp)), e.symm⟩
            · rw [hget n hn1 e] at hn2
              obtain ⟨s, hs, e2⟩ := h.stray n hn1 hn2
              exact ⟨s, List.mem_append.2 (.inl hs), e2⟩
          · intro x hx hxt
            rcases List.mem_append.1 hx with hx | hx
            · exact List.mem_append.2 (.inl (h.fresh x hx hxt))
            · have e : x = (P.next, [p], true) := by simpa using hx
              subst e
              exact List.mem_append.2 (.inr (by simp))
          · intro x hx hxf a ha
            rcases List.mem_append.1 hx with hx | hx
            · have hm : bareP x ∈ M.segs := by rw [h.segs]; exact List.mem_map.2 ⟨x, hx, rfl⟩
              rw [hget x.1 (h.low _ hm) (by have := hall _ hm; unfold bareP at this; omega)] at ha
              exact h.last x hx hxf a ha
            · have e : x = (P.next, [p], true) := by simpa using hx
              subst e
              exact absurd hxf (by simp)
          · intro n hn1
            rcases List.mem_append.1 hn1 with hn1 | hn1
            · exact h.dirt n hn1
            · have : n = P.next := by simpa using hn1
              omega
        · have hne : P.segs ≠ [] := fun e => hfp (by unfold freshP; rw [e]; rfl)
          rcases List.eq_nil_or_concat P.segs with e | ⟨S0, x, e⟩
          · exact absurd e hne
          · rw [List.concat_eq_append] at e
            have em : M.segs = S0.map bareP ++ [bareP x] := by rw [h.segs, e, List.map_append]; rfl
            have hwp : whereP P = x.1 := by
              unfold whereP
              rw [if_neg hfp, e, List.getLast?_concat]
              rfl
            have hcl := hc
            rw [em] at hcl
            obtain ⟨c1, c2⟩ := chain_last hcl
            rw [h.next] at c2
            have c2 : P.next = x.1 + x.2.1.length := c2
            have hmx : bareP x ∈ M.segs := by rw [em]; simp
            have hlx : x.1 < 100000000 := h.low _ hmx
            have hso := h.full
            rw [em, List.dropLast_concat] at hso
            have hall : ∀ s ∈ S0.map bareP, s.1 < x.1 := fun s hs => by
              have h1 := (chain_le c1 s hs).2
              have h3 := List.length_pos_iff.2 (hso s hs)
              have h1 : s.1 + s.2.length ≤ x.1 := h1
              omega
            obtain ⟨a, g1, g2⟩ := h.file _ hmx
            have g1 : getK (nameL k x.1) L = some a := g1
            have g2 : a.1.length = (recsL x.1 x.2.1).length := g2
            have e1 : oldB (nameL k x.1) L = a.1 := by unfold oldB; rw [g1]; rfl
            have hget : ∀ n, n < 100000000 → n ≠ x.1 → ∀ b, getK (nameL k n) (putK (nameL k x.1) b L) = getK (nameL k n) L := fun n h1 h2 b => getK_put_other hr (fun e => h2 (name_inj k h1 hlx e))
            have hlm : laidL M.segs p = S0.map bareP ++ [(x.1, x.2.1 ++ [p])] := by
              unfold laidL
              rw [em, List.getLast?_concat]
              simp [bareP]
            have hlp : laidP P.segs p = S0 ++ [(x.1, x.2.1 ++ [p], true)] := by
              unfold laidP
              rw [e, List.getLast?_concat]
              simp
            have er : recsL x.1 (x.2.1 ++ [p]) = recsL x.1 x.2.1 ++ recL P.next p := by
              rw [recs_app, c2]
              show recsL x.1 x.2.1 ++ (recL (x.1 + x.2.1.length) p ++ []) = _
              rw [List.append_nil]
            rw [if_neg hfp, if_neg hfp, hwp, hlm, hlp, e1]
            refine ⟨by rw [List.map_append]; rfl, rfl, ⟨i, ?_⟩, ?_, ?_, ?_, ?_, ?_, ?_, ?_⟩
            · refine chain_app c1 ⟨rfl, ?_⟩
              show x.1 + (x.2.1 ++ [p]).length = P.next + 1
              rw [List.length_append, c2]
              rfl
            · show ∀ s ∈ (S0.map bareP ++ [(x.1, x.2.1 ++ [p])]).dropLast, s.2 ≠ []
              rw [List.dropLast_concat]
              exact hso
            · intro s hs
              rcases List.mem_append.1 hs with hs | hs
              · exact h.low s (by rw [em]; exact List.mem_append.2 (.inl hs))
              · have e : s = (x.1, x.2.1 ++ [p]) := by simpa using hs
                subst e
                exact hlx
            · intro s hs
              rcases List.mem_append.1 hs with hs | hs
              · have hm : s ∈ M.segs := by rw [em]; exact List.mem_append.2 (.inl hs)
                obtain ⟨a2, k1, k2⟩ := h.file s hm
                exact ⟨a2, by rw [hget s.1 (h.low s hm) (by have := hall s hs; omega)]; exact k1, k2⟩
              · have e : s = (x.1, x.2.1 ++ [p]) := by simpa using hs
                subst e
                exact ⟨_, getK_put_same hr, by rw [er, List.length_append, List.length_append, g2]⟩
            · intro n hn1 hn2
              by_cases e3 : n = x.1
              · exact ⟨(x.1, x.2.1 ++ [p]), List.mem_append.2 (.inr (by simp)), e3.symm⟩
              · rw [hget n hn1 e3] at hn2
                obtain ⟨s, hs, e2⟩ := h.stray n hn1 hn2
                rw [em] at hs
                rcases List.mem_append.1 hs with hs | hs
                · exact ⟨s, List.mem_append.2 (.inl hs), e2⟩
                · have : s = bareP x := by simpa using hs
                  subst this
                  exact absurd e2.symm e3
            · intro y hy hyt
              rcases List.mem_append.1 hy with hy | hy
              · exact List.mem_append.2 (.inl (h.fresh y (by rw [e]; exact List.mem_append.2 (.inl hy)) hyt))
              · have e : y = (x.1, x.2.1 ++ [p], true) := by simpa using hy
                subst e
                exact List.mem_append.2 (.inr (by simp))
            · intro y hy hyf b hb
              rcases List.mem_append.1 hy with hy | hy
              · have hm0 : bareP y ∈ S0.map bareP := List.mem_map.2 ⟨y, hy, rfl⟩
                have hm : bareP y ∈ M.segs := by rw [em]; exact List.mem_append.2 (.inl hm0)
                rw [hget y.1 (h.low _ hm) (by have := hall _ hm0; unfold bareP at this; omega)] at hb
                exact h.last y (by rw [e]; exact List.mem_append.2 (.inl hy)) hyf b hb
              · have e : y = (x.1, x.2.1 ++ [p], true) := by simpa using hy
                subst e
                exact absurd hyf (by simp)
            · intro n hn1
              rcases List.mem_append.1 hn1 with hn1 | hn1
              · exact h.dirt n hn1
              · have : n = x.1 := by simpa using hn1
                omega
end Go.Proofs.YtejhoefmcldpnaaGreat
