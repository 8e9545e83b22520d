/- The strict reading of an index, by lists. It names nothing of the program. The contract of strip.ReadIndex: the places whose index the bytes are, or an error. Condition: at most 1000000000 bytes. -/
import Derived.Test.YtdbngchbhoanpaaSr21
import Derived.Test.YtdbngchbhoanpaaSr11
namespace Go.Proofs.Ytdbngchbhoanpaa
open Go.RowKit
def flP (q : Plc) : List Nat := [if q.dead then 1 else 0]
def nmP (q : Plc) : Nat → Nat
  | 0 => q.key
  | 1 => q.at_.toNat
  | _ => q.n.toNat
/-- A place's bytes behind its first numbers. -/
def tlP (q : Plc) : Nat → List Nat
  | 0 => plcL q
  | 1 => uvl q.at_.toNat ++ (uvl q.n.toNat ++ (be32 q.cook ++ flP q))
  | 2 => uvl q.n.toNat ++ (be32 q.cook ++ flP q)
  | _ => be32 q.cook ++ flP q
theorem tlP_step (q : Plc) (j : Nat) (h : j < 3) : tlP q j = uvl (nmP q j) ++ tlP q (j + 1) := by
  match j, h with
  | 0, _ => simp [tlP, nmP, plcL, flP]
  | 1, _ => rfl
  | 2, _ => rfl
theorem nmP_lt {q : Plc} (h : q.Fit) (h1 : bndB q.at_ = true) (h2 : bndB q.n = true) (j : Nat) : nmP q j < 18446744073709551616 := by
  have a := bnd_nat h1
  have b := bnd_nat h2
  match j with
  | 0 => exact h.key
  | 1 => show q.at_.toNat < _; omega
  | j + 2 => show q.n.toNat < _; omega
/-- Between two places. -/
structure OutS (b P : List Nat) (cn i : Nat) (L : List Plc) (r : List Nat) : Prop where
  cat : P = uvl cn ++ (L.flatMap plcL ++ r)
  all : ∀ ps, IxOf b ps → ps.length = cn ∧ L = ps.take i ∧ r = (ps.drop i).flatMap plcL
  f : ∀ p ∈ L, p.Fit
  g : IsIx L
  len : L.length = i
  byt : ∀ x ∈ r, x < 256
/-- Within a place. -/
structure InS (b r0 : List Nat) (i j : Nat) (vs r : List Nat) : Prop where
  cat : r0 = vs.flatMap uvl ++ r
  all : ∀ ps, IxOf b ps → (∀ t, t < j → vs.getD t 0 = nmP (ps.getD i noPlc) t) ∧ r = tlP (ps.getD i noPlc) j ++ (ps.drop (i + 1)).flatMap plcL
  f : ∀ v ∈ vs, v < 18446744073709551616
  len : vs.length = j
  byt : ∀ x ∈ r, x < 256
theorem getD_memP {ps : List Plc} {i : Nat} (h : i < ps.length) : ps.getD i noPlc ∈ ps := by
  rw [List.getD_eq_getElem?_getD, List.getElem?_eq_getElem h]
  exact List.getElem_mem h
theorem OutS.inS {b P : List Nat} {cn i : Nat} {L : List Plc} {r : List Nat} (h : OutS b P cn i L r) (hi : i < cn) : InS b r i 0 [] r := by
  refine ⟨rfl, fun ps hp => ⟨fun t ht => by omega, ?_⟩, fun v hv => (by cases hv), rfl, h.byt⟩
  obtain ⟨h1, _, h3⟩ := h.all ps hp
  have hlt : i < ps.length := by omega
  rw [h3, List.drop_eq_getElem_cons hlt, List.flatMap_cons]
  congr 1
  rw [List.getD_eq_getElem?_getD, List.getElem?_eq_getElem hlt]
  rfl
theorem InS.no {b P r0 vs r : List Nat} {cn i j : Nat} {L : List Plc} {r1 : List Nat} (h : InS b r0 i j vs r) (ho : OutS b P cn i L r1) (hi : i < cn) (hj : j < 3) (he : (rvl 0 0 r).2.2 ≠ 0) : ∀ ps, ¬ IxOf b ps := by
  intro ps hp
  obtain ⟨h1, _, _⟩ := ho.all ps hp
  have hm := getD_memP (ps := ps) (i := i) (by omega)
  have hb := hp.bnd _ hm
  obtain ⟨_, h2⟩ := h.all ps hp
  rw [h2, tlP_step _ j hj, List.append_assoc, rvl_at _ _ (nmP_lt (hp.fit _ hm) hb.1 hb.2 j)] at he
  exact he rfl
theorem InS.step {b P r0 vs r : List Nat} {cn i j : Nat} {L : List Plc} {r1 : List Nat} (h : InS b r0 i j vs r) (ho : OutS b P cn i L r1) (hi : i < cn) (hj : j < 3) {x k : Nat} (he : rvl 0 0 r = (x, k, 0)) : InS b r0 i (j + 1) (vs ++ [x]) (r.drop k) ∧ k ≤ r.length ∧ 0 < k := by
  obtain ⟨u, hu, _, hr, hk⟩ := rvl_inv r 0 0 x k h.byt (by omega) he
  have hx : x = u := by simpa using hu
  subst hx
  rw [Nat.sub_zero] at hr
  have hx64 : x < 18446744073709551616 := by have := (rvl_le r 0 0 (by omega) (by decide)).1; rw [he] at this; exact this
  have hg := rvl_grow r 0 0 (by rw [he])
  rw [he] at hg
  refine ⟨⟨?_, fun ps hp => ?_, ?_, by rw [List.length_append, h.len]; rfl, fun y hy => h.byt y (List.mem_of_mem_drop hy)⟩, ?_, hg⟩
  · rw [h.cat, List.flatMap_append, List.append_assoc]
    congr 1
    simp only [List.flatMap_cons, List.flatMap_nil, List.append_nil]
    exact hr
  · obtain ⟨h1, _, _⟩ := ho.all ps hp
    have hm := getD_memP (ps := ps) (i := i) (by omega)
    have hb := hp.bnd _ hm
    obtain ⟨hv, h2⟩ := h.all ps hp
    have e := h2
    rw [tlP_step _ j hj, List.append_assoc] at e
    have e1 := rvl_at (nmP (ps.getD i noPlc) j) (tlP (ps.getD i noPlc) (j + 1) ++ (ps.drop (i + 1)).flatMap plcL) (nmP_lt (hp.fit _ hm) hb.1 hb.2 j)
    rw [← e, he] at e1
    simp only [Prod.mk.injEq] at e1
    refine ⟨fun t ht => ?_, ?_⟩
    · rcases Nat.lt_or_ge t j with h9 | h9
      · rw [← hv t h9, List.getD_eq_getElem?_getD, List.getD_eq_getElem?_getD, List.getElem?_append_left (by rw [h.len]; exact h9)]
      · obtain rfl : t = j := by omega
        rw [List.getD_eq_getElem?_getD, List.getElem?_append_right (by rw [h.len]; omega), h.len, Nat.sub_self]
        exact e1.1
    · rw [e, e1.2.1]
      exact List.drop_left
  · intro v hv
    rcases List.mem_append.1 hv with hv | hv
    · exact h.f v hv
    · rw [List.mem_singleton] at hv
      rw [hv]; exact hx64
  · rw [hr, List.length_append, hk]
    omega
/-- Behind the three numbers: what the rest must look like. -/
theorem InS.rest {b P r0 vs r : List Nat} {cn i : Nat} {L : List Plc} {r1 : List Nat} (h : InS b r0 i 3 vs r) (ho : OutS b P cn i L r1) (hi : i < cn) {ps : List Plc} (hp : IxOf b ps) :
    ∃ q, ps.getD i noPlc = q ∧ q.Fit ∧ bndB q.at_ = true ∧ bndB q.n = true ∧ vs.getD 0 0 = q.key ∧ vs.getD 1 0 = q.at_.toNat ∧ vs.getD 2 0 = q.n.toNat ∧ r = be32 q.cook ++ ((if q.dead then 1 else 0) :: (ps.drop (i + 1)).flatMap plcL) ∧ (0 < i → (L.getD (i - 1) noPlc).key < q.key) := by
  obtain ⟨h1, h2, _⟩ := ho.all ps hp
  have hlt : i < ps.length := by omega
  have hm := getD_memP hlt
  have hb := hp.bnd _ hm
  obtain ⟨hv, hr⟩ := h.all ps hp
  refine ⟨_, rfl, hp.fit _ hm, hb.1, hb.2, hv 0 (by omega), hv 1 (by omega), hv 2 (by omega), ?_, fun h0 => ?_⟩
  · rw [hr]
    show (be32 _ ++ flP _) ++ _ = _
    rw [List.append_assoc]
    rfl
  · have := (hp.ix i hlt).1 h0
    rw [h2, List.getD_eq_getElem?_getD, List.getElem?_take_of_lt (by omega), ← List.getD_eq_getElem?_getD]
    exact this
/-- The place that was read. -/
def newP (vs r : List Nat) : Plc := ⟨vs.getD 0 0, (vs.getD 1 0 : Nat), (vs.getD 2 0 : Nat), val32 r, (r.getD 4 0 : Int) == 1⟩
theorem vs3 {vs : List Nat} (h : vs.length = 3) : vs = [vs.getD 0 0, vs.getD 1 0, vs.getD 2 0] := by
  match vs, h with
  | [a, b, c], _ => rfl
theorem rest5 {r : List Nat} (h : 5 ≤ r.length) : r = r.take 4 ++ (r.getD 4 0 :: r.drop 5) := by
  conv => lhs; rw [← List.take_append_drop 4 r, List.drop_eq_getElem_cons (show 4 < r.length by omega)]
  congr 2
  rw [List.getD_eq_getElem?_getD, List.getElem?_eq_getElem (show 4 < r.length by omega)]
  rfl
theorem InS.done {b P r0 vs r : List Nat} {cn i : Nat} {L : List Plc} (h : InS b r0 i 3 vs r) (ho : OutS b P cn i L r0) (hi : i < cn) (h5 : 5 ≤ r.length) (hfl : r.getD 4 0 ≤ 1) (h1 : vs.getD 1 0 ≤ 4194304) (h2 : vs.getD 2 0 ≤ 4194304) (hk : 0 < i → (L.getD (i - 1) noPlc).key < vs.getD 0 0) :
    OutS b P cn (i + 1) (L ++ [newP vs r]) (r.drop 5) := by
  have hv := vs3 h.len
  have hr := rest5 h5
  have hbv : be32 (val32 r) = r.take 4 := be32_val h.byt (by omega)
  have hfit : (newP vs r).Fit := by
    refine ⟨h.f _ ?_, ?_, ?_, val32_lt h.byt⟩
    · show vs.getD 0 0 ∈ vs
      rw [List.getD_eq_getElem?_getD, List.getElem?_eq_getElem (show 0 < vs.length by rw [h.len]; omega)]
      exact List.getElem_mem _
    · unfold newP
      simp only
      omega
    · unfold newP
      simp only
      omega
  have hpl : plcL (newP vs r) ++ r.drop 5 = r0 := by
    rw [h.cat]
    conv => rhs; rw [hv, hr]
    unfold plcL newP
    simp only [List.flatMap_cons, List.flatMap_nil, List.append_assoc, Int.toNat_natCast, List.append_nil]
    rw [hbv]
    congr 4
    have hd : (if ((r.getD 4 0 : Int) == 1) = true then 1 else 0) = r.getD 4 0 := by
      rcases Nat.lt_or_ge (r.getD 4 0) 1 with h9 | h9
      · have e : r.getD 4 0 = 0 := by omega
        rw [e]; rfl
      · have e : r.getD 4 0 = 1 := by omega
        rw [e]; rfl
    rw [hd]
    rfl
  refine ⟨?_, fun ps hp => ?_, ?_, ?_, by rw [List.length_append, ho.len]; rfl, fun x hx => h.byt x (List.mem_of_mem_drop hx)⟩
  · rw [ho.cat, List.flatMap_append, List.append_assoc]
    congr 2
    rw [List.flatMap_cons, List.flatMap_nil, List.append_nil, hpl]
  · obtain ⟨q, hq, hqf, b1, b2, k0, k1, k2, kr, _⟩ := h.rest ho hi hp
    obtain ⟨p1, p2, p3⟩ := ho.all ps hp
    have hlt : i < ps.length := by omega
    have e5 : r.drop 5 = (ps.drop (i + 1)).flatMap plcL := by rw [kr]; rfl
    have hnew : newP vs r = q := by
      have e := plcR_back q ((ps.drop (i + 1)).flatMap plcL) hqf b1 b2
      have a1 := bnd_nat b1
      have a2 := bnd_nat b2
      have hv4 : val32 r = q.cook := by rw [kr]; exact val32_be _ hqf.cook _
      have hg4 : r.getD 4 0 = if q.dead then 1 else 0 := by rw [kr]; rfl
      unfold newP
      rw [k0, k1, k2, hv4, hg4]
      obtain ⟨key, at_, n, ck, dd⟩ := q
      simp only at a1 a2
      simp only [Plc.mk.injEq]
      refine ⟨trivial, by omega, by omega, trivial, ?_⟩
      cases dd <;> rfl
    refine ⟨p1, ?_, e5⟩
    rw [List.take_succ_eq_append_getElem hlt, ← p2, hnew, ← hq, List.getD_eq_getElem?_getD, List.getElem?_eq_getElem hlt]
    rfl
  · intro p hp
    rcases List.mem_append.1 hp with hp | hp
    · exact ho.f p hp
    · rw [List.mem_singleton] at hp
      rw [hp]; exact hfit
  · intro t ht
    rw [List.length_append, ho.len, List.length_singleton] at ht
    have hgl : ∀ u, u < i → (L ++ [newP vs r]).getD u noPlc = L.getD u noPlc := by
      intro u hu
      rw [List.getD_eq_getElem?_getD, List.getD_eq_getElem?_getD, List.getElem?_append_left (by rw [ho.len]; exact hu)]
    rcases Nat.lt_or_ge t i with h9 | h9
    · have := ho.g t (by rw [ho.len]; exact h9)
      unfold okAt at this ⊢
      rw [hgl t h9]
      refine ⟨fun h0 => ?_, this.2⟩
      rw [hgl (t - 1) (by omega)]
      exact this.1 h0
    · obtain rfl : t = i := by omega
      have e : (L ++ [newP vs r]).getD t noPlc = newP vs r := by
        rw [List.getD_eq_getElem?_getD, List.getElem?_append_right (by rw [ho.len]; omega), ho.len, Nat.sub_self]
        rfl
      unfold okAt
      rw [e]
      refine ⟨fun h0 => ?_, ?_, ?_⟩
      · rw [hgl (t - 1) (by omega)]
        exact hk h0
      · unfold newP bndB
        simp only [Bool.and_eq_true, decide_eq_true_eq]
        omega
      · unfold newP bndB
        simp only [Bool.and_eq_true, decide_eq_true_eq]
        omega
/-- All of them: the bytes are their index. -/
theorem OutS.whole {b P : List Nat} {cn : Nat} {L : List Plc} (h : OutS b P cn cn L []) (hd : decL b = (P, b.length, 0)) (hb : ∀ x ∈ b, x < 256) (hcn : cn ≤ 65536) : IxOf b L := by
  obtain ⟨d1, _, d3, _, _⟩ := dec_inv hb hd
  have e : bodyL L L.length = P := by
    rw [bodyL_all, h.len, h.cat, List.append_nil]
  refine ⟨h.f, h.g, by rw [h.len]; exact hcn, by rw [e]; exact d3, ?_⟩
  rw [e, d1, List.take_length]
theorem OutS.left {b P r : List Nat} {cn : Nat} {L : List Plc} (h : OutS b P cn cn L r) (hr : r ≠ []) : ∀ ps, ¬ IxOf b ps := by
  intro ps hp
  obtain ⟨h1, _, h3⟩ := h.all ps hp
  rw [← h1, List.drop_length] at h3
  exact hr h3
/-- The beginning. -/
theorem OutS.first {b P : List Nat} {cn k : Nat} (hd : decL b = (P, b.length, 0)) (hb : ∀ x ∈ b, x < 256) (he : rvl 0 0 P = (cn, k, 0)) : OutS b P cn 0 [] (P.drop k) ∧ k ≤ P.length ∧ 0 < k := by
  obtain ⟨_, _, _, _, hpb⟩ := dec_inv hb hd
  obtain ⟨u, hu, _, hr, hk⟩ := rvl_inv P 0 0 cn k hpb (by omega) he
  have hx : cn = u := by simpa using hu
  subst hx
  rw [Nat.sub_zero] at hr
  have hg := rvl_grow P 0 0 (by rw [he])
  rw [he] at hg
  refine ⟨⟨hr, fun ps hp => ?_, fun p hp => (by cases hp), fun i hi => (by simp at hi), rfl, fun x hx => hpb x (List.mem_of_mem_drop hx)⟩, by rw [hr, List.length_append, hk]; omega, hg⟩
  have hdx := dec_ix hp
  rw [hd] at hdx
  simp only [Prod.mk.injEq, and_true] at hdx
  have e1 := rvl_at ps.length (ps.flatMap plcL) (by have := hp.len; omega)
  rw [← bodyL_all, ← hdx, he] at e1
  simp only [Prod.mk.injEq, and_true] at e1
  refine ⟨e1.1.symm, rfl, ?_⟩
  rw [hdx, bodyL_all, e1.2]
  exact List.drop_left
theorem first_no {b P : List Nat} (hd : decL b = (P, b.length, 0)) (he : (rvl 0 0 P).2.2 ≠ 0 ∨ 65536 < (rvl 0 0 P).1) : ∀ ps, ¬ IxOf b ps := by
  intro ps hp
  have hdx := dec_ix hp
  rw [hd] at hdx
  simp only [Prod.mk.injEq, and_true] at hdx
  have e1 := rvl_at ps.length (ps.flatMap plcL) (by have := hp.len; omega)
  rw [← bodyL_all, ← hdx] at e1
  rw [e1] at he
  have := hp.len
  rcases he with he | he
  · exact he rfl
  · have : 65536 < ps.length := he
    omega
end Go.Proofs.Ytdbngchbhoanpaa
namespace Go.Proofs.Ytdbngchbhoanpaa
open Go.RowKit Go.Maps
attribute [local go_sem] Oper.semAt_some
theorem own_rd {w : World} {B B0 : Nat} {s : Value} {xs : List Nat} (h : Own w B0 s xs) (hB : w.heap.size ≤ B) (g : Nat) (w' : World) (hg : g = w.heap.size) (hw : w' = w.alloc (.cells #[s] 56)) : RdAt w' B g xs := by
  subst hg
  subst hw
  have k := below_alloc w (.cells #[s] 56)
  obtain ⟨A, c, rfl, _⟩ := h.form
  have hi := (h.keep k).isB
  refine ⟨⟨A, xs.length, c, Blk.new w (B := 0) 56 #[.slice A xs.length c] (Nat.zero_le _), hi, rfl, ?_⟩⟩
  obtain ⟨_, h2 | ⟨g, cap, cur, e, h3, h4, h5⟩⟩ := h
  · have h9 := h2.1
    simp only [Value.slice.injEq] at h9
    exact .inl h9.1
  · cases e
    exact .inr ⟨g, 0, rfl, Nat.lt_of_lt_of_le (Array.getElem?_eq_some_iff.1 h4).1 hB⟩
theorem row_moreP {w : World} {B B' : Nat} {v : Value} {l : List Plc} (h : OwnPs w B v l) (hb : B' ≤ B) : OwnPs w B' v l := by
  obtain ⟨h1, h2 | ⟨g, cap, cur, rfl, h3, h4, h5⟩⟩ := h
  · exact ⟨h1, .inl h2⟩
  · exact ⟨h1, .inr ⟨g, cap, cur, rfl, by omega, h4, h5⟩⟩
set_option maxRecDepth 100000 in
set_option maxHeartbeats 6400000 in
theorem rdix_any (A : Option Addr) (n c : Nat) (b : List Nat) (w : World) (hA : IsB w (.slice A n c) b) (hn : b.length = n) (hb : ∀ x ∈ b, x < 256) (h9 : n ≤ 1000000000) :
    Calls Try.prog 9 #[.slice A n c] w fun e w' => ∃ v ps E, e = .returned (.tuple #[v, .int .i64 (E : Nat)]) ∧ OwnPs w' w.heap.size v ps ∧ RdIx b ps E ∧ Below w.heap.size w w' := by
  have hcap := hA.caps
  have DC := hide (decode_any A n c b w hA hn hb (by omega) hcap.1 hcap.2)
  obtain ⟨p, m, x, hd⟩ : ∃ p m x, decL b = (p, m, x) := ⟨_, _, _, rfl⟩
  rw [hd] at DC
  have hpb : (decL b).1.length ≤ b.length := decL_len b
  rw [hd] at hpb
  have hpl : p.length ≤ 1000000000 := by have : p.length ≤ b.length := hpb; omega
  have HD := hide hd
  have HA := hide hA
  have HN := hide hn
  have HB := hide hb
  have HPL := hide hpl
  clear hcap hd hpb hA hn hb hpl
  by_cases hx : x = 0
  · subst hx
    have hpby : ∀ y ∈ p, y < 256 := (dec_inv HB.out HD.out).2.2.2.2
    have HPB := hide hpby
    clear hpby
    go_enter Try.func9, Try.ntmps9
    go_wp2_with fail
    refine DC.out.mono ?_
    rintro e w1 ⟨s, rfl, o1, k1⟩
    obtain ⟨As, cs, rfl, _⟩ := o1.form
    have O1 := hide o1
    have K1 := hide k1
    clear o1 k1 DC
    obtain ⟨ls, hls⟩ : ∃ ls, ls = p.length := ⟨_, rfl⟩
    rw [← hls] at O1 ⊢
    clear hls
    dsimp only
    go_wp2_with fail
    obtain ⟨g, hg⟩ : ∃ g, g = w1.heap.size := ⟨_, rfl⟩
    have k2 := below_alloc w1 (.cells #[.slice As ls cs] 56)
    have K2 := hide (below_step K1.out k2)
    have SZ := hide (show (w1.alloc (.cells #[.slice As ls cs] 56)).heap.size = g + 1 by rw [hg]; simp)
    have R2 := hide (own_rd O1.out (B := g + 1) (by omega) g _ hg rfl)
    have HG := hide (show w.heap.size ≤ g by rw [hg]; exact K1.out.size)
    rw [← hg]
    clear k2 O1 K1 hg
    generalize w1.alloc (.cells #[.slice As ls cs] 56) = W2 at *
    refine (places_anyR (g + 1) g p W2 R2.out (by omega) (by have := SZ.out; omega) HPB.out HPL.out).mono ?_
    rintro e w3 ⟨v, rfl, o3, t3⟩
    have hps : plsA (rvl 0 0 p).1 (p.drop (numR p)) = lenL p := rfl
    rw [hps] at o3
    obtain ⟨ps, hpq⟩ : ∃ ps, ps = lenL p := ⟨_, rfl⟩
    rw [← hpq] at o3
    have HPS := hide hpq
    have HF := hide (show ∀ q ∈ ps, q.Fit by rw [hpq]; exact lenL_fit HPB.out)
    have HPN := hide (show ps.length ≤ 1000000000 by rw [hpq]; exact Nat.le_trans (plsA_len _ _ _ (Nat.le_refl _)) (by rw [List.length_drop]; have := HPL.out; omega))
    have K3 : Hid (Below w.heap.size w w3) := hide (K2.out.trans (by
      exact t3.below (by have := SZ.out; have := HG.out; omega) (fun k e => by subst e; exact HG.out)))
    obtain ⟨A3, c3, rfl, _⟩ := ownPs_form o3
    have O3 := hide o3
    have IP := hide o3.isP
    clear hps hpq o3 t3 R2 K2
    obtain ⟨N, hN⟩ : ∃ N, N = ps.length := ⟨_, rfl⟩
    rw [← hN] at O3
    rw [← hN]
    have HNN := hide hN
    clear hN
    dsimp only
    go_wp2_with fail
    refine (index_any A3 N c3 ps w3 IP.out HNN.out.symm HF.out (by rw [HNN.out]; have := HPN.out; omega)).mono ?_
    rintro e w4 ⟨s2, rfl, o4, k4⟩
    have O4 := hide o4
    have K4 := hide (below_step K3.out k4)
    have O5 := hide (ownPs_turn O3.out (Turn.of_below (fun _ => False) k4) (fun _ _ e => e))
    have B4 := hide ((HA.out.keep K3.out).keep k4)
    clear o4 k4 O3 K3
    dsimp only
    have hixl : ∀ y ∈ ixL ps, y < 256 := by
      intro y hy
      unfold ixL at hy
      split at hy
      · exact frameL_byte (bodyL_byte ps _) y hy
      · cases hy
    have HIX := hide hixl
    clear hixl
    have hbase : W2.heap.size = g + 1 := SZ.out
    have O6 : Hid (OwnPs w4 w.heap.size (.slice A3 N c3) ps) := hide (row_moreP O5.out (by have := HG.out; omega))
    clear O5 hbase
    by_cases hE : ixE ps = 0
    · have hEz : (((ixE ps : Nat) : Int) != 0) = false := by rw [hE]; rfl
      obtain ⟨A4, c4, rfl, _⟩ := O4.out.form
      obtain ⟨q, hq⟩ : ∃ q, q = (ixL ps).length := ⟨_, rfl⟩
      have hI4 := O4.out.isB
      rw [← hq] at hI4 ⊢
      have HI4 := hide hI4
      have HE := hide hE
      clear hI4 hq hE
      obtain ⟨E, hEe⟩ : ∃ E, E = ixE ps := ⟨_, rfl⟩
      rw [← hEe] at hEz ⊢
      clear hEe
      go_wp2_with fail
      refine (bytesEqual_any A4 A q n c4 c (ixL ps) b w4 HI4.out B4.out HIX.out HB.out).mono ?_
      rintro e w5 ⟨rfl, rfl⟩
      by_cases hL : ixL ps = b
      · have hdl : decide (ixL ps = b) = true := by simp [hL]
        have HLL := hide hL
        clear hL
        rw [hdl]
        clear hdl
        dsimp only
        go_wp2_with fail
        go_ret2
        exact ⟨.slice A3 N c3, ps, 0, rfl, O6.out, .inr (.inl ⟨by rw [HD.out], ixOf_of HF.out HE.out HLL.out, rfl⟩), K4.out⟩
      · have hdl : decide (ixL ps = b) = false := by simp [hL]
        have HLL := hide hL
        clear hL
        rw [hdl]
        clear hdl
        dsimp only
        go_wp2_with fail
        go_ret2
        exact ⟨.slice none 0 0, [], 3, rfl, ownPs_nil _ _, .inr (.inr ⟨by rw [HD.out], ix_none (by rw [HD.out]; intro h; rw [← HPS.out] at h; exact HLL.out h.2), rfl, rfl⟩), K4.out⟩
    · have hEz : (((ixE ps : Nat) : Int) != 0) = true := by simp; omega
      have HE := hide hE
      clear hE
      obtain ⟨E, hEe⟩ : ∃ E, E = ixE ps := ⟨_, rfl⟩
      rw [← hEe] at hEz ⊢
      clear hEe
      go_wp2_with fail
      go_ret2
      exact ⟨.slice none 0 0, [], 3, rfl, ownPs_nil _ _, .inr (.inr ⟨by rw [HD.out], ix_none (by rw [HD.out]; intro h; rw [← HPS.out] at h; exact HE.out h.1), rfl, rfl⟩), K4.out⟩
  · have hxz : ((x : Int) != 0) = true := by simp; omega
    have HX := hide hx
    clear hx
    go_enter Try.func9, Try.ntmps9
    go_wp2_with fail
    refine DC.out.mono ?_
    rintro e w1 ⟨s, rfl, o1, k1⟩
    dsimp only
    go_wp2_with fail
    go_ret2
    exact ⟨.slice none 0 0, [], x, rfl, ownPs_nil _ _, .inl ⟨by rw [HD.out], HX.out, rfl⟩, k1⟩
end Go.Proofs.Ytdbngchbhoanpaa
