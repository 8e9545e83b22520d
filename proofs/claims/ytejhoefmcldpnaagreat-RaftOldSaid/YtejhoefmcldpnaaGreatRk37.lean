/- A log and its disk, the program's, by the document's lists, with the blocks of both told: a call each (for two sides in one world). Condition: a prefix of 1 to 55 bytes. What a raft.Node is in memory: a block of twenty-two cells, a log, a disk. No condition. The contracts of raft's small readers: an entry of the log, its term, the last number, what a node says of itself. Condition: entries are no longer than a log holds. The contracts of a node's entry and termOf. Condition: entries are no longer than a log holds. The contracts of a node's waitAnew and save. Condition: the disk takes what is written. -/
import Derived.Test.YtejhoefmcldpnaaGreatRk36
import Derived.Test.YtejhoefmcldpnaaGreatRk10
import Derived.Test.YtejhoefmcldpnaaGreatRk8
import Derived.BigQuiet
import Derived.Test.YtejhoefmcldpnaaGreatRk26
namespace Go.Proofs.YtejhoefmcldpnaaGreat
open Go.RowKit Go.Maps
structure ProAt (w : World) (F G : Nat → Prop) (dp l room : Nat) (s : ByteArray) (P : PLog) (M : LogL) (L : DiskL) : Prop where
  both : PBoth w F G dp l room s P L
  twin : Twin s.data.toList P M L
  pre : 1 ≤ s.size ∧ s.size ≤ 55
  most : M.next ≤ 1099511627776
def Pro (w : World) (F G : Nat → Prop) (dp l room : Nat) (s : ByteArray) (M : LogL) (L : DiskL) : Prop := ∃ P, ProAt w F G dp l room s P M L
theorem Pro.below {w w' : World} {F G : Nat → Prop} {dp l room : Nat} {s : ByteArray} {M : LogL} {L : DiskL} (h : Pro w F G dp l room s M L) (k : Below w.heap.size w w') : Pro w' F G dp l room s M L := by
  obtain ⟨P, hb, ht, hp, hm⟩ := h
  exact ⟨P, hb.below k, ht, hp, hm⟩
theorem Pro.read {w : World} {F G : Nat → Prop} {dp l room : Nat} {s : ByteArray} {M : LogL} {L : DiskL} (h : Pro w F G dp l room s M L) : Read w l M := by
  obtain ⟨P, hb, ht, hp, hm⟩ := h
  exact ⟨G, dp, room, s, P, L, hb.log, ht, hb.disk.sane, hm⟩
theorem Pro.run {B : Nat} {w : World} {F G : Nat → Prop} {dp l room : Nat} {s : ByteArray} {M : LogL} {L : DiskL} (h : Pro w F G dp l room s M L) (hF : ∀ q, F q → B ≤ q) (hG : ∀ q, G q → B ≤ q) (hB : B ≤ w.heap.size) : Run B w dp l room s M L := by
  obtain ⟨P, hb, ht, hp, hm⟩ := h
  exact ⟨P, ⟨F, G, hb, hF, hG⟩, ht, hB, hp, hm⟩
theorem pro_add {w : World} {F G : Nat → Prop} {dp l room : Nat} {s : ByteArray} {M : LogL} {L : DiskL} (h : Pro w F G dp l room s M L) (A : Option Addr) (m cp : Nat) (p : List Nat) (hP : IsB w (.slice A m cp) p) (hm : p.length = m) (hb : ∀ x ∈ p, x < 256) (hlow : p ≠ [] → ∀ g, (Value.slice A m cp).ownBlock = some g → ¬ F g ∧ ¬ G g) :
    Calls Tryz.prog 87 #[.pointer (some ⟨l, 0, none⟩), .slice A m cp] w fun e w' => e = .returned (.tuple #[.int .i64 ((addL room s.data.toList p M L).2.1 : Int), .int .i64 ((addL room s.data.toList p M L).2.2 : Int)]) ∧ ∃ F' G', Pro w' F' G' dp l room s (addL room s.data.toList p M L).1.1 (addL room s.data.toList p M L).1.2 ∧ Turn (fun k => F k ∨ G k) w w' ∧ (∀ k, F' k → F k ∨ w.heap.size ≤ k) ∧ (∀ k, G' k → G k ∨ w.heap.size ≤ k) := by
  obtain ⟨P, hbo, ht, hp, hmo⟩ := h
  have hS := hbo.disk.sane
  obtain ⟨b1, b2⟩ := ht.bounds hS
  obtain ⟨e1, e2, e3⟩ := twin_add (room := room) p ht hS.rise
  refine (padd_any w F G dp l room s P L A m cp p hbo (by omega) hP hm hb hlow (by omega) (fun x hx => ?_) (fun x hx => by have := (b2 x hx).2.2.1; omega)).mono ?_
  · obtain ⟨i, hc⟩ := ht.chain
    rcases List.eq_nil_or_concat P.segs with q | ⟨S0, y, q⟩
    · rw [q] at hx
      cases hx
    · rw [List.concat_eq_append] at q
      rw [q, List.getLast?_concat] at hx
      have ey := Option.some.inj hx
      subst ey
      rw [ht.segs, q, List.map_append] at hc
      have := (chain_last (s := bareP y) hc).2
      rw [ht.next] at this
      exact this
  · rintro e w' ⟨rfl, F', G', h1, h2, h3, h4⟩
    refine ⟨by rw [e1], F', G', ⟨_, by rw [e2]; exact h1, by rw [e2]; exact e3, hp, ?_⟩, h2, h3, h4⟩
    unfold addL
    split
    · exact hmo
    · split
      · exact hmo
      · split
        · exact hmo
        · show M.next + 1 ≤ 1099511627776
          omega
theorem pro_sync {w : World} {F G : Nat → Prop} {dp l room : Nat} {s : ByteArray} {M : LogL} {L : DiskL} (h : Pro w F G dp l room s M L) :
    Calls Tryz.prog 47 #[.pointer (some ⟨l, 0, none⟩)] w fun e w' => e = .returned (.int .i64 0) ∧ ∃ F' G', Pro w' F' G' dp l room s ⟨M.segs, M.next, []⟩ (syncsL s.data.toList M.dirty L) ∧ Turn (fun k => F k ∨ G k) w w' ∧ (∀ k, F' k → F k ∨ w.heap.size ≤ k) ∧ (∀ k, G' k → G k ∨ w.heap.size ≤ k) := by
  obtain ⟨P, hbo, ht, hp, hmo⟩ := h
  have hS := hbo.disk.sane
  obtain ⟨b1, b2⟩ := ht.bounds hS
  obtain ⟨e1, e2⟩ := twin_sync ht hS.rise
  refine (psync_any w F G dp l room s P L hbo (by omega) (fun x hx => ⟨by have := (b2 x hx).1; omega, fun _ => (b2 x hx).2.2.2⟩) (by omega)).mono ?_
  rintro e w' ⟨rfl, F', h1, h2, h3⟩
  rw [e1] at h1
  exact ⟨rfl, F', G, ⟨_, h1, e2, hp, hmo⟩, h2, h3, fun k h => .inl h⟩
theorem pro_cut {w : World} {F G : Nat → Prop} {dp l room : Nat} {s : ByteArray} {M : LogL} {L : DiskL} (h : Pro w F G dp l room s M L) (i : Nat) (hi1 : firstL M ≤ i) (hi2 : i ≤ M.next) :
    Calls Tryz.prog 81 #[.pointer (some ⟨l, 0, none⟩), .int .i64 (i : Int)] w fun e w' => e = .returned (.int .i64 0) ∧ ∃ F' G', Pro w' F' G' dp l room s (cutW s.data.toList i M L).1 (cutW s.data.toList i M L).2 ∧ Turn (fun k => F k ∨ G k) w w' ∧ (∀ k, F' k → F k ∨ w.heap.size ≤ k) ∧ (∀ k, G' k → G k ∨ w.heap.size ≤ k) := by
  obtain ⟨P, hbo, ht, hp, hmo⟩ := h
  have hS := hbo.disk.sane
  obtain ⟨b1, b2⟩ := ht.bounds hS
  have hr := ht.rises
  obtain ⟨left, hl, hc⟩ : ∃ left, left ≤ P.segs.length ∧ ∀ j (hj : j < P.segs.length), j < left ↔ (P.segs[j].1 : Int) < (i : Int) := by
    have key : ∀ (S : List Sgf) (z : Int), (∀ a b (ha : a < S.length) (hb : b < S.length), a < b → S[a].1 < S[b].1) → ∃ j : Nat, j ≤ S.length ∧ ∀ k (hk : k < S.length), k < j ↔ (S[k].1 : Int) < z := fun S z hr => by
      obtain ⟨j, h1, h2⟩ := ahead_ex (S.map fun x => (x.1, Value.slice none 0 0, x.2.2, x.2.1)) z (fun a b ha hb hab => by
        have := hr a b (by simpa using ha) (by simpa using hb) hab
        simpa using this)
      exact ⟨j, by simpa using h1, fun k hk => by have := h2 k (by simpa using hk); simpa using this⟩
    exact key P.segs i hr
  obtain ⟨e1, e2, e3⟩ := twin_cut ht hS.rise hi1 hi2 hc
  have hfin : Calls Tryz.prog 81 #[.pointer (some ⟨l, 0, none⟩), .int .i64 (i : Int)] w fun e w' => ∃ R : PLog × DiskL, R = cutP s.data.toList i left P L ∧ e = .returned (.int .i64 0) ∧ ∃ F', PBoth w' F' G dp l room s R.1 R.2 ∧ Turn (fun k => F k ∨ G k) w w' ∧ ∀ k, F' k → F k ∨ w.heap.size ≤ k := by
    have q1 : firstP P ≤ i := by rw [ht.first]; exact hi1
    have q2 : i ≤ P.next := by rw [← ht.next]; exact hi2
    have q3 : P.next ≤ 1099511627776 := by rw [← ht.next]; exact hmo
    have q4 : ∀ x ∈ P.segs, x.1 ≤ 1099511627776 := fun x hx => by have := (b2 x hx).1; omega
    rcases Nat.eq_zero_or_pos P.segs.length with h0 | h0
    · exact pcut_empty w F G dp l room s P L i left hbo (by omega) q1 q2 q3 (by omega) hl hr hc q4 (List.eq_nil_of_length_eq_zero h0)
    · rcases Nat.eq_zero_or_pos left with hl0 | hl0
      · exact pcut_zero w F G dp l room s P L i left hbo (by omega) q1 q2 q3 (by omega) hl hr hc q4 h0 hl0
      · obtain ⟨x, hx⟩ : ∃ x, (P.segs.take left).getLast? = some x := by
          rcases e : (P.segs.take left).getLast? with _ | x
          · have := List.getLast?_eq_none_iff.1 e
            have := congrArg List.length this
            rw [List.length_take, List.length_nil] at this
            omega
          · exact ⟨x, rfl⟩
        have hxm : x ∈ P.segs := List.mem_of_mem_take (List.mem_of_getLast? hx)
        by_cases hie : i < x.1 + x.2.1.length
        · exact pcut_short w F G dp l room s P L i left hbo (by omega) q1 q2 q3 (by omega) hl hr hc q4 x hx hie (b2 x hxm).2.1 (by have := (b2 x hxm).2.2.1; omega) (e3 x hx hie)
        · exact pcut_keep w F G dp l room s P L i left hbo (by omega) q1 q2 q3 (by omega) hl hr hc q4 x hx (by omega) (b2 x hxm).2.1
  refine hfin.mono ?_
  rintro e w' ⟨R, rfl, rfl, F', h1, h2, h3⟩
  refine ⟨rfl, F', G, ⟨_, by rw [e1]; exact h1, by rw [e1]; exact e2, hp, ?_⟩, h2, h3, fun k h => .inl h⟩
  show i ≤ 1099511627776
  omega
theorem pro_cut_bad {w : World} {F G : Nat → Prop} {dp l room : Nat} {s : ByteArray} {M : LogL} {L : DiskL} (h : Pro w F G dp l room s M L) (z : Int) (hz : z < (firstL M : Int) ∨ (M.next : Int) < z) :
    Calls Tryz.prog 81 #[.pointer (some ⟨l, 0, none⟩), .int .i64 z] w fun e w' => e = .returned (.int .i64 1) ∧ Below w.heap.size w w' := by
  obtain ⟨P, hbo, ht, hp, hmo⟩ := h
  exact pcut_bad w G l dp s P z hbo.log (by rw [ht.first, ← ht.next]; exact hz)
theorem pro_open {w : World} {F : Nat → Prop} {dp room : Nat} (s : ByteArray) {L : DiskL} (hD : DiskAt w F dp room L) (h1 : 1 ≤ s.size) (h2 : s.size ≤ 55) :
    Calls Tryz.prog 43 #[.pointer (some ⟨dp, 0, none⟩), .string s] w fun e w' => ∃ l, e = .returned (.tuple #[.pointer (some ⟨l, 0, none⟩), .int .i64 0]) ∧ ∃ F' G', Pro w' F' G' dp l room s (openR s.data.toList L).log (openR s.data.toList L).disk ∧ Turn F w w' ∧ (∀ k, F' k → F k ∨ w.heap.size ≤ k) ∧ (∀ k, G' k → w.heap.size ≤ k) := by
  have hS := hD.sane
  obtain ⟨e1, e2⟩ := twin_open (k := s.data.toList) hS.rise (fun q hq => (hD.facts.2.2.2.2.1 q hq).2)
  refine (popen_any w F dp room s L hD h1 h2).mono ?_
  rintro e w' ⟨l, rfl, F', G, h3, h4, h5, h6⟩
  refine ⟨l, rfl, F', G, ⟨_, by rw [e1]; exact h3, by rw [e1]; exact e2, ⟨h1, h2⟩, ?_⟩, h4, h5, h6⟩
  have hb := e2.bounds h3.disk.sane
  obtain ⟨i, hc⟩ := e2.chain
  rcases List.eq_nil_or_concat (openR s.data.toList L).log.segs with q | ⟨S0, y, q⟩
  · have hgen : ∀ (N : List Str) (o : OpenS), (o.log.segs = [] → o.log.next = 1) → ((N.foldl (openStep s.data.toList) o).log.segs = [] → (N.foldl (openStep s.data.toList) o).log.next = 1) := by
      intro N
      induction N with
      | nil => intro o h; exact h
      | cons t N ih =>
        intro o h
        rw [List.foldl_cons]
        refine ih _ ?_
        unfold openStep
        split
        · exact h
        · split
          · exact h
          · split
            · intro e; simp at e
            · split
              · exact h
              · intro e; simp at e
    have h9 : (openR s.data.toList L).log.segs = [] → (openR s.data.toList L).log.next = 1 := hgen (L.map (fun x : Str × (List Nat × Nat) => x.1)) ⟨false, ⟨[], 1, []⟩, L⟩ (fun _ => rfl)
    have := h9 q
    omega
  · rw [List.concat_eq_append] at q
    rw [q] at hc
    have h7 := (chain_last hc).2
    have hy : y ∈ (openR s.data.toList L).log.segs := by rw [q]; simp
    rw [e2.segs] at hy
    obtain ⟨x, hx, rfl⟩ := List.mem_map.1 hy
    have h8 := hb.2 x hx
    have h7 : (openR s.data.toList L).log.next = x.1 + x.2.1.length := h7
    omega
end Go.Proofs.YtejhoefmcldpnaaGreat
namespace Go.Proofs.YtejhoefmcldpnaaGreat
open Go.RowKit Go.Maps
def logS : ByteArray := ⟨#[108, 111, 103]⟩
def logK : Str := logS.data.toList
def termS : ByteArray := ⟨#[116, 101, 114, 109]⟩
def termK : Str := termS.data.toList
/-- A node's numbers. -/
structure Nd where
  id : Nat
  n : Nat
  term : Nat
  vote : Int
  role : Nat
  lead : Int
  comm : Nat
  taken : Nat
  wait : Int
  votes : Nat
  peers : List Nat
def ndC (d l : Nat) (N : Nd) : List Value := [.int .i64 (N.id : Int), .int .i64 (N.n : Int), .pointer (some ⟨d, 0, none⟩), .pointer (some ⟨l, 0, none⟩), .int .i64 (N.term : Int), .int .i64 N.vote, .int .i64 (N.role : Int), .int .i64 N.lead, .int .i64 (N.comm : Int), .int .i64 (N.taken : Int), .int .i64 N.wait, .int .u64 (N.votes : Int)] ++ N.peers.map fun x : Nat => .int .i64 (x : Int)
structure NdAt (w : World) (F G : Nat → Prop) (r d l room : Nat) (N : Nd) (M : LogL) (L : DiskL) : Prop where
  blk : Blk w 0 70 r (ndC d l N)
  pro : Pro w F G d l room logS M L
  nf : ¬ F r
  ng : ¬ G r
  fit : N.id < N.n ∧ N.n ≤ 5 ∧ N.peers.length = 10
/-- A node, and all blocks that it and its disk take. -/
def NdS (w : World) (S : Nat → Prop) (r d l room : Nat) (N : Nd) (M : LogL) (L : DiskL) : Prop := ∃ F G, NdAt w F G r d l room N M L ∧ ∀ k, S k ↔ (F k ∨ G k) ∨ k = r
theorem Pro.low {w : World} {F G : Nat → Prop} {d l room : Nat} {s : ByteArray} {M : LogL} {L : DiskL} (h : Pro w F G d l room s M L) : (∀ k, F k → k < w.heap.size) ∧ ∀ k, G k → k < w.heap.size := by
  obtain ⟨P, hb, _⟩ := h
  exact ⟨hb.disk.low, hb.log.low⟩
theorem NdAt.low {w : World} {F G : Nat → Prop} {r d l room : Nat} {N : Nd} {M : LogL} {L : DiskL} (h : NdAt w F G r d l room N M L) : ∀ k, (F k ∨ G k) ∨ k = r → k < w.heap.size := by
  rintro k ((hk | hk) | rfl)
  · exact h.pro.low.1 k hk
  · exact h.pro.low.2 k hk
  · exact h.blk.lt
theorem NdS.low {w : World} {S : Nat → Prop} {r d l room : Nat} {N : Nd} {M : LogL} {L : DiskL} (h : NdS w S r d l room N M L) : ∀ k, S k → k < w.heap.size := by
  obtain ⟨F, G, h, hs⟩ := h
  exact fun k hk => h.low k ((hs k).1 hk)
theorem NdAt.below {w w' : World} {F G : Nat → Prop} {r d l room : Nat} {N : Nd} {M : LogL} {L : DiskL} (h : NdAt w F G r d l room N M L) (k : Below w.heap.size w w') : NdAt w' F G r d l room N M L := ⟨h.blk.keep k, h.pro.below k, h.nf, h.ng, h.fit⟩
theorem NdS.below {w w' : World} {S : Nat → Prop} {r d l room : Nat} {N : Nd} {M : LogL} {L : DiskL} (h : NdS w S r d l room N M L) (k : Below w.heap.size w w') : NdS w' S r d l room N M L := by
  obtain ⟨F, G, h, hs⟩ := h
  exact ⟨F, G, h.below k, hs⟩
theorem Pro.turn {w w' : World} {S F G : Nat → Prop} {d l room : Nat} {s : ByteArray} {M : LogL} {L : DiskL} (h : Pro w F G d l room s M L) (t : Turn S w w') (hf : ∀ k, F k → ¬ S k) (hg : ∀ k, G k → ¬ S k) : Pro w' F G d l room s M L := by
  obtain ⟨P, ⟨hd, hl, ha⟩, ht, hp, hm⟩ := h
  exact ⟨P, ⟨hd.turn t hf, hl.turn t hg, ha⟩, ht, hp, hm⟩
/-- A cell of the node's own is stored. -/
theorem NdS.set {w : World} {S : Nat → Prop} {r d l room : Nat} {N N' : Nd} {M : LogL} {L : DiskL} (h : NdS w S r d l room N M L) (i : Nat) (u : Value) (hN : (ndC d l N).set i u = ndC d l N') (hf : N'.id < N'.n ∧ N'.n ≤ 5 ∧ N'.peers.length = 10) : NdS (w.setCell ⟨r, i, none⟩ u) S r d l room N' M L := by
  obtain ⟨F, G, h, hs⟩ := h
  have t := box_turn0 w r i u
  exact ⟨F, G, ⟨hN ▸ h.blk.stored i u, h.pro.turn t (fun k hk e => h.nf (e ▸ hk)) (fun k hk e => h.ng (e ▸ hk)), h.nf, h.ng, hf⟩, hs⟩
theorem NdS.self {w : World} {S : Nat → Prop} {r d l room : Nat} {N : Nd} {M : LogL} {L : DiskL} (h : NdS w S r d l room N M L) : S r := by
  obtain ⟨F, G, _, hs⟩ := h
  exact (hs r).2 (.inr rfl)
theorem set_next {w : World} {S : Nat → Prop} {r i : Nat} {u : Value} (h : S r) : Next S w S (w.setCell ⟨r, i, none⟩ u) := ⟨(box_turn0 w r i u).mono (fun _ e => e ▸ h), fun _ => .inl⟩
theorem NdS.blk {w : World} {S : Nat → Prop} {r d l room : Nat} {N : Nd} {M : LogL} {L : DiskL} (h : NdS w S r d l room N M L) : Blk w 0 70 r (ndC d l N) := by
  obtain ⟨F, G, h, _⟩ := h
  exact h.blk
theorem NdS.fit {w : World} {S : Nat → Prop} {r d l room : Nat} {N : Nd} {M : LogL} {L : DiskL} (h : NdS w S r d l room N M L) : N.id < N.n ∧ N.n ≤ 5 ∧ N.peers.length = 10 := by
  obtain ⟨F, G, h, _⟩ := h
  exact h.fit
theorem NdS.read {w : World} {S : Nat → Prop} {r d l room : Nat} {N : Nd} {M : LogL} {L : DiskL} (h : NdS w S r d l room N M L) : Read w l M := by
  obtain ⟨F, G, h, _⟩ := h
  exact h.pro.read
theorem pro_bounds {w : World} {F G : Nat → Prop} {dp l room : Nat} {s : ByteArray} {M : LogL} {L : DiskL} (h : Pro w F G dp l room s M L) :
    Calls Tryz.prog 44 #[.pointer (some ⟨l, 0, none⟩)] w fun e w' => e = .returned (.tuple #[.int .i64 ((firstL M : Nat) : Int), .int .i64 (M.next : Int)]) ∧ Below w.heap.size w w' := by
  have hr : Run 0 w dp l room s M L := h.run (fun _ _ => Nat.zero_le _) (fun _ _ => Nat.zero_le _) (Nat.zero_le _)
  exact run_bounds hr
theorem nds_bounds {w : World} {S : Nat → Prop} {r d l room : Nat} {N : Nd} {M : LogL} {L : DiskL} (h : NdS w S r d l room N M L) :
    Calls Tryz.prog 44 #[.pointer (some ⟨l, 0, none⟩)] w fun e w' => e = .returned (.tuple #[.int .i64 ((firstL M : Nat) : Int), .int .i64 (M.next : Int)]) ∧ Below w.heap.size w w' := by
  obtain ⟨F, G, h, _⟩ := h
  exact pro_bounds h.pro
theorem Pro.next_pos {w : World} {F G : Nat → Prop} {d l room : Nat} {s : ByteArray} {M : LogL} {L : DiskL} (h : Pro w F G d l room s M L) : M.next ≤ 1099511627776 := by
  obtain ⟨P, _, _, _, hm⟩ := h
  exact hm
end Go.Proofs.YtejhoefmcldpnaaGreat
namespace Go.Proofs.YtejhoefmcldpnaaGreat
open Go.RowKit Go.Maps
/-- An entry as a value. -/
def entV (t : Nat) (v : Value) : Value := .agg #[.int .i64 (t : Int), v]
set_option maxRecDepth 100000 in
set_option maxHeartbeats 1600000 in
theorem rdr_laid_ok (g : Nat) (A : Option Addr) (n c : Nat) (t : Nat) (dat : List Nat) (w : World) (hB : RdrB w g A n c 0) (hL : LowB w g A n c (uvl t ++ dat)) (hb : ∀ x ∈ dat, x < 256) (ht : t ≤ 9223372036854775807) :
    Calls Tryz.prog 46 #[.pointer (some ⟨g, 0, none⟩)] w fun e w' => ∃ A2 n2 c2, e = .returned (entV t (.slice A2 n2 c2)) ∧ (∀ b, A2 = some b → ∃ b', A = some b' ∧ b.block = b'.block) ∧ LowB w' g A2 n2 c2 dat ∧ ∃ A3 c3, RdrB w' g A3 0 c3 0 ∧ Turn (fun j => j = g) w w' := by
  have hlen := hL.len
  rw [List.length_append] at hlen
  have ka := below_alloc w (.cells #[.int .i64 0, .slice none 0 0] 50)
  have bg := Blk.new w (B := 0) 50 #[.int .i64 0, .slice none 0 0] (Nat.zero_le _)
  have HN := hide (rdr_num_ok g A n c _ (w.alloc (.cells #[.int .i64 0, .slice none 0 0] 50)) t (uvl t).length 9223372036854775807 (hB.keep ka) (hL.keep ka) (fun x hx => (List.mem_append.1 hx).elim (uvl_byte t x) (hb x)) (rvl_back t dat (by omega)) ht (by omega) (by omega))
  rw [List.drop_left] at HN
  have TA := hide (Turn.of_below (fun j => j = g) ka)
  obtain ⟨q, hq⟩ : ∃ q, q = w.heap.size := ⟨_, rfl⟩
  obtain ⟨W, hW⟩ : ∃ W, W = w.alloc (.cells #[.int .i64 0, .slice none 0 0] 50) := ⟨_, rfl⟩
  rw [← hW] at HN TA bg
  rw [← hq] at bg
  have hgq : ¬ q = g := by have := hB.lt; omega
  have hqg : ¬ g = q := by omega
  have BG := hide bg
  have HQ : Hid (q = w.heap.size ∧ g ≤ q) := hide ⟨hq, by have := hB.lt; omega⟩
  have hm : n - (uvl t).length = dat.length := by omega
  rw [hm] at HN
  obtain ⟨m, hm2⟩ : ∃ m, m = dat.length := ⟨_, rfl⟩
  rw [← hm2] at HN
  have HM := hide hm2
  clear hB hL hb hlen ka bg hm hm2
  go_enter Tryz.func46, Tryz.ntmps46
  go_wp2_with fail
  rw [← hW, ← hq]
  clear hW hq
  refine HN.out.mono ?_
  rintro e w1 ⟨rfl, A1, c1, hs1, b1, l1, t1⟩
  have q0 := b1.cell 0
  dsimp only [List.getElem?_cons_zero] at q0
  have RB := hide (rdr_bytes_ok g A1 m c1 m dat w1 b1 l1 (Nat.le_refl _))
  have T1 := hide (TA.out.trans t1)
  have HS := hide hs1
  have BG := hide (BG.out.turn t1 hgq)
  clear b1 l1 t1 HN TA hs1
  go_wp2_with fail
  refine RB.out.mono ?_
  rintro e w2 ⟨rfl, l2, A2, c2, hs2, b2, _, t2⟩
  have BG2 := hide (BG.out.turn t2 hgq)
  have f0 := BG2.out.frozen 0
  have f1 := BG2.out.frozen 1
  have e0 := BG2.out.cell 0
  have e1 := BG2.out.cell 1
  dsimp only [List.getElem?_cons_zero, List.getElem?_cons_succ] at e0 e1
  rw [List.take_of_length_le (by rw [HM.out]; exact Nat.le_refl _)] at l2
  rw [Nat.sub_self] at b2
  have T2 := hide (T1.out.trans t2)
  have L2 := hide l2
  have B2 := hide b2
  clear q0 l2 b2 hs2 t2 RB T1
  go_wp2_with fail
  have B9 := (BG2.out.stored 0 (.int .i64 (t : Int))).stored 1 (.slice A1 m c1)
  have z0 := B9.cell 0
  have z1 := B9.cell 1
  have ts := ((box_turn0 w2 q 0 (.int .i64 (t : Int))).trans (box_turn0 _ q 1 (.slice A1 m c1)))
  refine bodyPost_ret (v := entV t (.slice A1 m c1)) (by simp [results, Tryz.results46, go_sem, z0, z1, entV]) rfl ?_
  exact ⟨A1, m, c1, rfl, HS.out, L2.out.turn ts (fun j e => by rw [e]; exact HQ.out.2), A2, c2, B2.out.turn ts hqg, T2.out.then ts (fun j e => .inr (by rw [e, HQ.out.1]; exact Nat.le_refl _))⟩
set_option maxRecDepth 100000 in
theorem rdr_laid_bad (g : Nat) (A : Option Addr) (n c : Nat) (r : List Nat) (w : World) (hB : RdrB w g A n c 0) (hL : LowB w g A n c r) (hb : ∀ x ∈ r, x < 256) (hv : (rvl 0 0 r).2.2 ≠ 0) :
    Calls Tryz.prog 46 #[.pointer (some ⟨g, 0, none⟩)] w fun e w' => e = .returned (entV 0 (.slice none 0 0)) ∧ RdrB w' g A n c 3 ∧ Turn (fun j => j = g) w w' := by
  have ka := below_alloc w (.cells #[.int .i64 0, .slice none 0 0] 50)
  have bg := Blk.new w (B := 0) 50 #[.int .i64 0, .slice none 0 0] (Nat.zero_le _)
  have HN := hide (rdr_num_bad g A n c r (w.alloc (.cells #[.int .i64 0, .slice none 0 0] 50)) 9223372036854775807 (hB.keep ka) (hL.keep ka) hb hv)
  have TA := hide (Turn.of_below (fun j => j = g) ka)
  obtain ⟨q, hq⟩ : ∃ q, q = w.heap.size := ⟨_, rfl⟩
  obtain ⟨W, hW⟩ : ∃ W, W = w.alloc (.cells #[.int .i64 0, .slice none 0 0] 50) := ⟨_, rfl⟩
  rw [← hW] at HN TA bg
  rw [← hq] at bg
  have hgq : ¬ q = g := by have := hB.lt; omega
  have hqg : ¬ g = q := by omega
  have BG := hide bg
  have HQ : Hid (q = w.heap.size) := hide hq
  clear hB hL hb ka bg hv
  go_enter Tryz.func46, Tryz.ntmps46
  go_wp2_with fail
  rw [← hW, ← hq]
  clear hW hq
  refine HN.out.mono ?_
  rintro e w1 ⟨rfl, b1, t1⟩
  have q0 := b1.cell 0
  dsimp only [List.getElem?_cons_zero] at q0
  have RB := hide (rdr_bytes_err g A n c 3 w1 (n : Int) b1 (by decide))
  have T1 := hide (TA.out.trans t1)
  have BG2 := hide (BG.out.turn t1 hgq)
  have f0 := BG2.out.frozen 0
  have f1 := BG2.out.frozen 1
  have e0 := BG2.out.cell 0
  have e1 := BG2.out.cell 1
  dsimp only [List.getElem?_cons_zero, List.getElem?_cons_succ] at e0 e1
  have B1 := hide b1
  clear b1 t1 HN TA
  go_wp2_with fail
  refine RB.out.mono ?_
  rintro e w2 ⟨rfl, rfl⟩
  clear q0 RB
  go_wp2_with fail
  have B9 := (BG2.out.stored 0 (.int .i64 0)).stored 1 (.slice none 0 0)
  have z0 := B9.cell 0
  have z1 := B9.cell 1
  have ts := ((box_turn0 w1 q 0 (.int .i64 0)).trans (box_turn0 _ q 1 (.slice none 0 0)))
  refine bodyPost_ret (v := entV 0 (.slice none 0 0)) (by simp [results, Tryz.results46, go_sem, z0, z1, entV]) rfl ?_
  exact ⟨rfl, B1.out.turn ts hqg, T1.out.then ts (fun j e => .inr (by rw [e, HQ.out]; exact Nat.le_refl _))⟩
theorem nds_cell {w : World} {S : Nat → Prop} {r d l room : Nat} {N : Nd} {M : LogL} {L : DiskL} (h : NdS w S r d l room N M L) (i : Nat) : w.cell? ⟨r, i, none⟩ = (ndC d l N)[i]? := h.blk.cell i
set_option maxRecDepth 100000 in
theorem stopped_no {w : World} {S : Nat → Prop} {r d l room : Nat} {N : Nd} {M : LogL} {L : DiskL} (h : NdS w S r d l room N M L) :
    Calls Tryz.prog 23 #[.pointer (some ⟨r, 0, none⟩)] w fun e w' => e = .returned (.bool false) ∧ w = w' := by
  have q3 : w.cell? ⟨r, 3, none⟩ = some (.pointer (some ⟨l, 0, none⟩)) := nds_cell h 3
  clear h
  go_enter Tryz.func23, Tryz.ntmps23
  go_wp2_with fail
  go_ret
  exact ⟨rfl, rfl⟩
theorem stopped_nil (w : World) :
    Calls Tryz.prog 23 #[.pointer none] w fun e w' => e = .returned (.bool true) ∧ w = w' := by
  go_enter Tryz.func23, Tryz.ntmps23
  go_wp2_with fail
  go_ret
  exact ⟨rfl, rfl⟩
set_option maxRecDepth 100000 in
theorem state_any {w : World} {S : Nat → Prop} {r d l room : Nat} {N : Nd} {M : LogL} {L : DiskL} (h : NdS w S r d l room N M L) :
    Calls Tryz.prog 14 #[.pointer (some ⟨r, 0, none⟩)] w fun e w' => e = .returned (.tuple #[.int .i64 (N.role : Int), .int .i64 (N.term : Int), .int .i64 N.lead]) ∧ Below w.heap.size w w' := by
  have q6 : w.cell? ⟨r, 6, none⟩ = some (.int .i64 (N.role : Int)) := nds_cell h 6
  have q4 : w.cell? ⟨r, 4, none⟩ = some (.int .i64 (N.term : Int)) := nds_cell h 4
  have q7 : w.cell? ⟨r, 7, none⟩ = some (.int .i64 N.lead) := nds_cell h 7
  have HS := hide (stopped_no h)
  clear h
  go_enter Tryz.func14, Tryz.ntmps14
  go_wp2_with fail
  refine HS.out.mono ?_
  rintro e w1 ⟨rfl, rfl⟩
  go_wp2_with fail
  go_region
  go_wp2_with fail
  refine bodyPost_ret (v := .tuple #[.int .i64 (N.role : Int), .int .i64 (N.term : Int), .int .i64 N.lead]) (by simp [results, Tryz.results14, go_sem]) rfl ?_
  exact ⟨rfl, below_drewN (Below.refl _ _) 1⟩
set_option maxRecDepth 100000 in
theorem last_any {w : World} {S : Nat → Prop} {r d l room : Nat} {N : Nd} {M : LogL} {L : DiskL} (h : NdS w S r d l room N M L) (h1 : 1 ≤ M.next) (h2 : M.next ≤ 1099511627776) :
    Calls Tryz.prog 35 #[.pointer (some ⟨r, 0, none⟩)] w fun e w' => e = .returned (.int .i64 ((M.next - 1 : Nat) : Int)) ∧ Below w.heap.size w w' := by
  have q3 : w.cell? ⟨r, 3, none⟩ = some (.pointer (some ⟨l, 0, none⟩)) := nds_cell h 3
  have HB := hide (nds_bounds h)
  obtain ⟨k, hk⟩ : ∃ k, M.next = k + 1 := ⟨M.next - 1, by omega⟩
  rw [hk] at HB h2 ⊢
  have hkw : (((k + 1 : Nat) : Int) - 1) = (k : Int) := by omega
  clear h h1 hk
  go_enter Tryz.func35, Tryz.ntmps35
  go_wp2_with fail
  refine HB.out.mono ?_
  rintro e w1 ⟨rfl, k1⟩
  have K1 := hide k1
  clear k1 HB
  go_wp2_with fail
  go_ret
  exact ⟨by simp, K1.out⟩
theorem waitL (draw : Int) : 0 ≤ (max draw 0).tmod 10 ∧ (max draw 0).tmod 10 ≤ 9 := by
  have h : (0 : Int) ≤ max draw 0 := by omega
  rw [Int.tmod_eq_emod_of_nonneg h]
  omega
end Go.Proofs.YtejhoefmcldpnaaGreat
namespace Go.Proofs.YtejhoefmcldpnaaGreat
open Go.RowKit Go.Maps
theorem own_lowB {w : World} {B n c : Nat} {A : Option Addr} {xs : List Nat} (h : Own w B (.slice A n c) xs) (hn : xs.length = n) : LowB w w.heap.size A n c xs := by
  refine ⟨h.isB, hn, ?_⟩
  unfold Own at h
  rcases h.2 with ⟨e, _⟩ | ⟨g, cap, cur, e, _, hh, _⟩
  · cases e; exact .inl rfl
  · cases e; exact .inr ⟨g, 0, rfl, heap_lt hh⟩
/-- The slice lies in a block of bytes, if it lies anywhere. -/
def U8At (w : World) (A : Option Addr) : Prop := ∀ b, A = some b → ∃ cur fr, w.heap[b.block]? = some (.cells cur 5 fr)
theorem own_u8 {w : World} {B n c : Nat} {A : Option Addr} {xs : List Nat} (h : Own w B (.slice A n c) xs) : U8At w A := by
  intro b e
  unfold Own at h
  rcases h.2 with ⟨e2, _⟩ | ⟨g, cap, cur, e2, _, hh, _⟩
  · cases e2; cases e
  · cases e2; cases e; exact ⟨_, _, hh⟩
theorem U8At.off {S : Nat → Prop} {w w' : World} {A : Option Addr} (h : U8At w A) (t : Turn S w w') (hS : ∀ b, A = some b → ¬ S b.block) : U8At w' A := by
  intro b e
  obtain ⟨cur, fr, hh⟩ := h b e
  exact ⟨cur, fr, by rw [t.block _ (heap_lt hh) (hS b e)]; exact hh⟩
theorem U8At.sub {w : World} {A A2 : Option Addr} (h : U8At w A) (hs : ∀ b, A2 = some b → ∃ b', A = some b' ∧ b.block = b'.block) : U8At w A2 := by
  intro b e
  obtain ⟨b', e', hb⟩ := hs b e
  rw [hb]
  exact h b' e'
/-- What an entry that the log has looks like. -/
def HasE (M : LogL) (z : Int) (t : Nat) (dat : List Nat) : Prop := getE M z = (uvl t ++ dat, 0) ∧ t ≤ 9223372036854775807 ∧ (∀ x ∈ dat, x < 256)
set_option maxRecDepth 100000 in
set_option maxHeartbeats 1600000 in
theorem entry_in {w : World} {S : Nat → Prop} {r d l room : Nat} {N : Nd} {M : LogL} {L : DiskL} (h : NdS w S r d l room N M L) (z : Int) (t : Nat) (dat : List Nat) (hE : HasE M z t dat) :
    Calls Tryz.prog 39 #[.pointer (some ⟨r, 0, none⟩), .int .i64 z] w fun e w' => ∃ A2 n2 c2, e = .returned (entV t (.slice A2 n2 c2)) ∧ (∀ b, A2 = some b → w.heap.size ≤ b.block) ∧ U8At w' A2 ∧ LowB w' w'.heap.size A2 n2 c2 dat ∧ Below w.heap.size w w' := by
  obtain ⟨hg, ht, hb⟩ := hE
  have ka := below_alloc w (.cells #[.int .i64 0, .slice none 0 0] 50)
  have bg := Blk.new w (B := 0) 50 #[.int .i64 0, .slice none 0 0] (Nat.zero_le _)
  have q3 : (w.alloc (.cells #[.int .i64 0, .slice none 0 0] 50)).cell? ⟨r, 3, none⟩ = some (.pointer (some ⟨l, 0, none⟩)) := nds_cell (h.below ka) 3
  have GT := hide (read_get (h.below ka).read z)
  rw [hg] at GT
  have HT := hide (And.intro ht hb)
  obtain ⟨q, hq⟩ : ∃ q, q = w.heap.size := ⟨_, rfl⟩
  obtain ⟨W, hW⟩ : ∃ W, W = w.alloc (.cells #[.int .i64 0, .slice none 0 0] 50) := ⟨_, rfl⟩
  rw [← hW] at ka bg GT
  rw [← hq] at bg
  have KA := hide ka
  have BG := hide bg
  have HQ : Hid (q = w.heap.size) := hide hq
  have HSZ : Hid (w.heap.size < W.heap.size) := hide (by rw [← hq]; exact bg.lt)
  clear h hg ht hb ka bg
  go_enter Tryz.func39, Tryz.ntmps39
  go_wp2_with fail
  rw [← hW, ← hq]
  clear hW hq q3
  refine GT.out.mono ?_
  rintro e w1 ⟨v, rfl, o1, k1⟩
  obtain ⟨m, hm⟩ : ∃ m, m = (uvl t ++ dat).length := ⟨_, rfl⟩
  obtain ⟨A, c, rfl, _⟩ := o1.isB.form hm.symm
  have hlow := own_lowB o1 hm.symm
  have U1 := hide (own_u8 o1)
  have hblk : ∀ b, A = some b → w.heap.size < b.block := fun b e => by
    have h1 := (o1.lt b.block (by rw [e]; rfl)).1
    have := HSZ.out
    omega
  have K1 := hide (KA.out.trans (k1.mono KA.out.size))
  have BG := hide (BG.out.keep k1)
  have HLOW := hide hlow
  have HBLK := hide hblk
  clear o1 k1 hm hlow hblk GT
  go_wp2_with fail
  have kb := below_alloc w1 (.cells #[.slice A m c, .int .i64 0] 91)
  have br := Blk.new w1 (B := 0) 91 #[.slice A m c, .int .i64 0] (Nat.zero_le _)
  have hqlt := BG.out.lt
  have LD := hide (rdr_laid_ok w1.heap.size A m c t dat (w1.alloc (.cells #[.slice A m c, .int .i64 0] 91)) br (HLOW.out.keep kb) HT.out.2 HT.out.1)
  have BG2 := hide (BG.out.keep kb)
  have K2 := hide (K1.out.trans (kb.mono K1.out.size))
  have KB := hide kb
  have HQ1 : Hid (q < w1.heap.size) := hide hqlt
  have hqg : ¬ q = w1.heap.size := by omega
  clear kb br hqlt HLOW
  refine LD.out.mono ?_
  rintro e w2 ⟨A2, n2, c2, rfl, hs2, l2, A3, c3, b3, t2⟩
  have BG3 := hide (BG2.out.turn t2 hqg)
  have f0 := BG3.out.frozen 0
  have f1 := BG3.out.frozen 1
  have e0 := BG3.out.cell 0
  have e1 := BG3.out.cell 1
  dsimp only [List.getElem?_cons_zero, List.getElem?_cons_succ] at e0 e1
  have L2 := hide l2
  have HS2 := hide hs2
  have T2 := hide t2
  have HL := hide b3.lt
  have U2 := hide ((((U1.out.off (Turn.of_below (fun _ => False) KB.out) (fun _ _ h => h.elim)).off t2 (fun b e => by obtain ⟨cur, fr, hh⟩ := U1.out b e; have := heap_lt hh; omega)).sub hs2 : U8At w2 A2))
  unfold entV
  clear l2 hs2 t2 b3 LD hqg
  go_wp2_with fail
  have B9 := (BG3.out.stored 0 (.int .i64 (t : Int))).stored 1 (.slice A2 n2 c2)
  have z0 := B9.cell 0
  have z1 := B9.cell 1
  have ts := ((box_turn0 w2 q 0 (.int .i64 (t : Int))).trans (box_turn0 _ q 1 (.slice A2 n2 c2)))
  have hA2 : ∀ b, A2 = some b → w.heap.size < b.block := fun b e => by
    obtain ⟨b', e', hb'⟩ := HS2.out b e
    have := HBLK.out b' e'
    omega
  refine bodyPost_ret (v := .agg #[.int .i64 (t : Int), .slice A2 n2 c2]) (by simp [results, Tryz.results39, go_sem, z0, z1]) rfl ?_
  refine ⟨A2, n2, c2, rfl, fun b e => Nat.le_of_lt (hA2 b e), U2.out.off ts (fun b e hb => by have := hA2 b e; have := HQ.out; omega), (L2.out.off ts (fun b e hb => ?_)).up (Nat.le_trans (Nat.le_of_lt HL.out) ts.size), (K2.out.trans (T2.out.below K2.out.size (fun k e => ?_))).trans (ts.below (Nat.le_trans K2.out.size T2.out.size) (fun k e => ?_))⟩
  · have := hA2 b e
    have := HQ.out
    omega
  · have := K1.out.size
    omega
  · have := HQ.out
    omega
set_option maxRecDepth 100000 in
set_option maxHeartbeats 1600000 in
theorem entry_out {w : World} {S : Nat → Prop} {r d l room : Nat} {N : Nd} {M : LogL} {L : DiskL} (h : NdS w S r d l room N M L) (z : Int) (e9 : Nat) (hg : getE M z = ([], e9)) :
    Calls Tryz.prog 39 #[.pointer (some ⟨r, 0, none⟩), .int .i64 z] w fun e w' => e = .returned (entV 0 (.slice none 0 0)) ∧ Below w.heap.size w w' := by
  have ka := below_alloc w (.cells #[.int .i64 0, .slice none 0 0] 50)
  have bg := Blk.new w (B := 0) 50 #[.int .i64 0, .slice none 0 0] (Nat.zero_le _)
  have q3 : (w.alloc (.cells #[.int .i64 0, .slice none 0 0] 50)).cell? ⟨r, 3, none⟩ = some (.pointer (some ⟨l, 0, none⟩)) := nds_cell (h.below ka) 3
  have GT := hide (read_get (h.below ka).read z)
  rw [hg] at GT
  obtain ⟨q, hq⟩ : ∃ q, q = w.heap.size := ⟨_, rfl⟩
  obtain ⟨W, hW⟩ : ∃ W, W = w.alloc (.cells #[.int .i64 0, .slice none 0 0] 50) := ⟨_, rfl⟩
  rw [← hW] at ka bg GT
  rw [← hq] at bg
  have KA := hide ka
  have BG := hide bg
  have HQ : Hid (q = w.heap.size) := hide hq
  clear h hg ka bg
  go_enter Tryz.func39, Tryz.ntmps39
  go_wp2_with fail
  rw [← hW, ← hq]
  clear hW hq q3
  refine GT.out.mono ?_
  rintro e w1 ⟨v, rfl, o1, k1⟩
  obtain ⟨A, c, rfl, _⟩ := o1.isB.form (n := 0) rfl
  have hlow := own_lowB o1 rfl
  have K1 := hide (KA.out.trans (k1.mono KA.out.size))
  have BG := hide (BG.out.keep k1)
  have HLOW := hide hlow
  clear o1 k1 hlow GT
  go_wp2_with fail
  have kb := below_alloc w1 (.cells #[.slice A 0 c, .int .i64 0] 91)
  have br := Blk.new w1 (B := 0) 91 #[.slice A 0 c, .int .i64 0] (Nat.zero_le _)
  have hqlt := BG.out.lt
  have LD := hide (rdr_laid_bad w1.heap.size A 0 c [] (w1.alloc (.cells #[.slice A 0 c, .int .i64 0] 91)) br (HLOW.out.keep kb) (fun x hx => by cases hx) (by rw [rvl_nil]; decide))
  have BG2 := hide (BG.out.keep kb)
  have K2 := hide (K1.out.trans (kb.mono K1.out.size))
  have hqg : ¬ q = w1.heap.size := by omega
  clear kb br hqlt HLOW
  refine LD.out.mono ?_
  rintro e w2 ⟨rfl, b3, t2⟩
  have BG3 := hide (BG2.out.turn t2 hqg)
  have f0 := BG3.out.frozen 0
  have f1 := BG3.out.frozen 1
  have e0 := BG3.out.cell 0
  have e1 := BG3.out.cell 1
  dsimp only [List.getElem?_cons_zero, List.getElem?_cons_succ] at e0 e1
  have T2 := hide t2
  unfold entV
  clear t2 b3 LD hqg
  go_wp2_with fail
  have B9 := (BG3.out.stored 0 (.int .i64 0)).stored 1 (.slice none 0 0)
  have z0 := B9.cell 0
  have z1 := B9.cell 1
  have ts := ((box_turn0 w2 q 0 (.int .i64 0)).trans (box_turn0 _ q 1 (.slice none 0 0)))
  refine bodyPost_ret (v := .agg #[.int .i64 0, .slice none 0 0]) (by simp [results, Tryz.results39, go_sem, z0, z1]) rfl ?_
  refine ⟨rfl, (K2.out.trans (T2.out.below K2.out.size (fun k e => ?_))).trans (ts.below (Nat.le_trans K2.out.size T2.out.size) (fun k e => ?_))⟩
  · have := K1.out.size
    omega
  · have := HQ.out
    omega
theorem field_term (t : Int) (v : Value) (w : World) : (Instr.field 50 (.agg #[.int .i64 t, v]) 0).run Tryz.prog w = .ok (.int .i64 t) w := by kernel_rfl
/-- The term of an entry that the log has, or 0. -/
def TermE (M : LogL) (z : Int) (t : Nat) : Prop := (∃ dat, HasE M z t dat) ∨ (t = 0 ∧ ∃ e9, getE M z = ([], e9))
set_option maxRecDepth 100000 in
theorem termOf_any {w : World} {S : Nat → Prop} {r d l room : Nat} {N : Nd} {M : LogL} {L : DiskL} (h : NdS w S r d l room N M L) (z : Int) (t : Nat) (ht : TermE M z t) :
    Calls Tryz.prog 65 #[.pointer (some ⟨r, 0, none⟩), .int .i64 z] w fun e w' => e = .returned (.int .i64 (t : Int)) ∧ Below w.heap.size w w' := by
  rcases ht with ⟨dat, hE⟩ | ⟨rfl, e9, hg⟩
  · have EN := hide (entry_in h z t dat hE)
    clear h hE
    unfold entV at EN
    go_enter Tryz.func65, Tryz.ntmps65
    go_wp2_with fail
    refine EN.out.mono ?_
    rintro e w1 ⟨A2, n2, c2, rfl, _, _, _, k1⟩
    have K1 := hide k1
    have hf := field_term (t : Int) (.slice A2 n2 c2) w1
    clear k1 EN
    go_wp2_with fail
    go_ret
    exact ⟨rfl, K1.out⟩
  · have EN := hide (entry_out h z e9 hg)
    clear h hg
    unfold entV at EN
    go_enter Tryz.func65, Tryz.ntmps65
    go_wp2_with fail
    refine EN.out.mono ?_
    rintro e w1 ⟨rfl, k1⟩
    have K1 := hide k1
    have hf := field_term 0 (.slice none 0 0) w1
    clear k1 EN
    go_wp2_with fail
    go_ret
    exact ⟨rfl, K1.out⟩
end Go.Proofs.YtejhoefmcldpnaaGreat
namespace Go.Proofs.YtejhoefmcldpnaaGreat
open Go.RowKit Go.Maps
/-- How many ticks a draw makes a node wait. -/
def waitOf (draw : Int) : Int := 10 + max draw 0 % 10
set_option maxRecDepth 100000 in
theorem wait_anew {w : World} {S : Nat → Prop} {r d l room : Nat} {N : Nd} {M : LogL} {L : DiskL} (h : NdS w S r d l room N M L) (draw : Int) :
    Calls Tryz.prog 22 #[.pointer (some ⟨r, 0, none⟩), .int .i64 draw] w fun e w' => e = .returned (.tuple #[]) ∧ NdS w' S r d l room { N with wait := waitOf draw } M L ∧ Next S w S w' := by
  have f0 := h.blk.frozen 10
  have q0 : w.cell? ⟨r, 10, none⟩ = some (.int .i64 N.wait) := nds_cell h 10
  have H := hide h
  clear h
  go_enter Tryz.func22, Tryz.ntmps22
  go_wp2_with fail
  go_end0
  exact ⟨rfl, H.out.set 10 _ rfl H.out.fit, set_next H.out.self⟩
theorem twin_other {k : Str} {P : PLog} {M : LogL} {L L' : DiskL} (h : Twin k P M L) (he : ∀ n, getK (nameL k n) L' = getK (nameL k n) L) : Twin k P M L' := by
  obtain ⟨h1, h2, h3, h4, h5, h6, h7, h8, h9, h10⟩ := h
  exact ⟨h1, h2, h3, h4, h5, (fun s hs => by rw [he]; exact h6 s hs), (fun n hn hs => h7 n hn (by rw [← he]; exact hs)), h8, (fun x hx hf a ha => h9 x hx hf a (by rw [← he]; exact ha)), h10⟩
theorem Pro.disk {w : World} {F G : Nat → Prop} {d l room : Nat} {s : ByteArray} {M : LogL} {L : DiskL} (h : Pro w F G d l room s M L) : DiskAt w F d room L := by
  obtain ⟨P, hb, _⟩ := h
  exact hb.disk
/-- Another file of a log's disk has been turned. -/
theorem pro_other {w w' : World} {F F' G : Nat → Prop} {d l room : Nat} {s : ByteArray} {M : LogL} {L L' : DiskL} (h : Pro w F G d l room s M L) (hD : DiskAt w' F' d room L') (n : Next F w F' w') (he : ∀ i, getK (nameL s.data.toList i) L' = getK (nameL s.data.toList i) L) : Pro w' F' G d l room s M L' := by
  obtain ⟨P, ⟨hd, hl, ha⟩, ht, hp, hm⟩ := h
  refine ⟨P, ⟨hD, hl.turn n.turn (fun q hg hf => ha q hf hg), fun q hf hg => (n.foot q hf).elim (fun h => ha q h hg) (fun h => ?_)⟩, twin_other ht he, hp, hm⟩
  have := hl.low q hg
  omega
theorem nameL_ne (n : Nat) : nameL logK n ≠ termK ∧ nameL logK n ≠ tildeL termK := by
  unfold nameL logK termK tildeL logS termS
  constructor <;> · intro e; simp at e
/-- The disk behind a save of the term. -/
def termP (p : List Nat) (L : DiskL) : DiskL := putK termK (frameL p, (frameL p).length) (delK (tildeL termK) L)
theorem termP_other {p : List Nat} {L : DiskL} (hr : Rise L) (n : Nat) : getK (nameL logK n) (termP p L) = getK (nameL logK n) L := by
  unfold termP
  rw [getK_put_other (delK_rise hr) (nameL_ne n).1, getK_del_other hr (nameL_ne n).2]
theorem termK_len : 1 ≤ termK.length ∧ termK.length ≤ 63 := by decide
theorem foot_next {w w1 w2 : World} {S F G F2 G2 : Nat → Prop} {r : Nat} (hS : ∀ k, S k ↔ (F k ∨ G k) ∨ k = r) (K1 : Below w.heap.size w w1) (t : Turn (fun k => F k ∨ G k) w1 w2) (hf : ∀ k, F2 k → F k ∨ w1.heap.size ≤ k) (hg : ∀ k, G2 k → G k ∨ w1.heap.size ≤ k) : Next S w (fun k => (F2 k ∨ G2 k) ∨ k = r) w2 := by
  have hsz := K1.size
  refine ⟨(Turn.of_below S K1).then t (fun k hk => .inl ((hS k).2 (.inl hk))), ?_⟩
  rintro k ((h | h) | h)
  · rcases hf k h with h | h
    · exact .inl ((hS k).2 (.inl (.inl h)))
    · exact .inr (by omega)
  · rcases hg k h with h | h
    · exact .inl ((hS k).2 (.inl (.inr h)))
    · exact .inr (by omega)
  · exact .inl ((hS k).2 (.inr h))
theorem build2 (w : World) (b : Nat) (t v1 : Nat) (hb : b = w.heap.size) : RdI (w.alloc (.cells #[.int .i64 (t : Int), .int .i64 (v1 : Int)] 3)) (some ⟨b, 0, none⟩) ([t, v1].map fun x : Nat => (x : Int)) := by
  intro _
  refine ⟨b, 0, rfl, fun i hi => ?_⟩
  subst hb
  have bg := Blk.new w (B := 0) 3 #[.int .i64 (t : Int), .int .i64 (v1 : Int)] (Nat.zero_le _)
  have hi : i < 2 := hi
  rcases i with _ | _ | i
  · exact bg.cell 0
  · exact bg.cell 1
  · omega
set_option maxRecDepth 100000 in
set_option maxHeartbeats 3200000 in
theorem rsave_ok {w : World} {S : Nat → Prop} {r d l room : Nat} {N : Nd} {M : LogL} {L : DiskL} (h : NdS w S r d l room N M L) (t v1 : Nat) (v : Int) (hv : v + 1 = (v1 : Int)) (ht : t < 9223372036854775808) (hv9 : v1 ≤ 100) (hd : (draftL room termK (numsL [t, v1]) L).2 = 0) :
    Calls Tryz.prog 52 #[.pointer (some ⟨r, 0, none⟩), .int .i64 (t : Int), .int .i64 v] w fun e w' => e = .returned (.bool true) ∧ ∃ S', NdS w' S' r d l room { N with term := t, vote := v } M (termP (numsL [t, v1]) L) ∧ Next S w S' w' := by
  obtain ⟨F, G, hN, hS⟩ := h
  have q2 : w.cell? ⟨r, 2, none⟩ = some (.pointer (some ⟨d, 0, none⟩)) := hN.blk.cell 2
  have hr2 := cell_lt q2
  have HN := hide hN
  have HS := hide hS
  have HD := hide hd
  have HV := hide hv
  have HRW := hide hr2
  have hlp := numsL_len [t, v1] (by intro x hx; simp at hx; omega)
  have hlp : (numsL [t, v1]).length ≤ 20 := hlp
  have HLP := hide hlp
  have hvw : IntKind.i64.wrap (v + 1) = (v1 : Int) := by rw [hv, IntKind.wrap_i64]; omega
  have hwl : (v : Int) ≤ 100 := by omega
  have hwg : (-1 : Int) ≤ v := by omega
  have KA : Hid (Below w.heap.size w (w.alloc (.cells #[.int .i64 (t : Int), .int .i64 (v1 : Int)] 3)).drew) := hide ((below_alloc w _).trans ((below_drew _).mono (below_alloc w (.cells #[.int .i64 (t : Int), .int .i64 (v1 : Int)] 3)).size))
  have HSV : Hid (saveL room termK (numsL [t, v1]) L = (termP (numsL [t, v1]) L, 0)) := hide (saved hN.pro.disk.facts.1 termK_len (by omega) hd)
  have HR := hide (hN.pro.disk.facts.1)
  clear hN hS hd hlp hv
  go_enter Tryz.func52, Tryz.ntmps52
  go_wp2_with fail
  go_region_held3 (fun W' => W'.cell? ⟨r, 2, none⟩ = some (.pointer (some ⟨d, 0, none⟩))) (go_keep)
    (first
      | (go_at_call 78; refine (rnums_any _ 2 2 [t, v1] _ (by exact build2 w _ t v1 rfl) rfl (by intro x hx; simp at hx; omega) (by decide)).mono ?_; rintro e w1 ⟨v2, rfl, o1, k1⟩; obtain ⟨m, hm⟩ : ∃ m, m = (numsL [t, v1]).length := ⟨_, rfl⟩; obtain ⟨A1, c1, rfl, i1, l1, m1⟩ := o1.isB.form hm.symm; have K1 := hide (KA.out.trans (k1.mono KA.out.size)); have I1 := hide i1; have HM := hide hm; have x1 : w1.cell? ⟨r, 2, none⟩ = some (.pointer (some ⟨d, 0, none⟩)) := (K1.out.cell HRW.out).trans q2; have X1 := hide x1; clear o1 k1 i1 hm)
      | (go_at_call 79; refine (save_any F d room L ⟨#[116, 101, 114, 109]⟩ A1 m c1 (numsL [t, v1]) w1 (HN.out.pro.disk.below K1.out) (by decide) I1.out HM.out.symm (numsL_byte _) (by have h1 := HM.out; have h2 := HLP.out; omega)).mono ?_; rintro e w2 ⟨rfl, F2, d2, n2⟩; rw [show saveL room (⟨#[116, 101, 114, 109]⟩ : ByteArray).data.toList (numsL [t, v1]) L = _ from HSV.out] at d2 ⊢; have y1 : w2.cell? ⟨r, 2, none⟩ = some (.pointer (some ⟨d, 0, none⟩)) := (n2.far (cell_lt X1.out) HN.out.nf).trans X1.out; have D2 := hide d2; have N2 := hide n2; clear d2 n2))
  have BB := hide ((HN.out.blk.keep K1.out).turn N2.out.turn HN.out.nf)
  have f4 := BB.out.frozen 4
  have f5 := BB.out.frozen 5
  have e4 : w2.cell? ⟨r, 4, none⟩ = some (.int .i64 (N.term : Int)) := BB.out.cell 4
  have e5 : w2.cell? ⟨r, 5, none⟩ = some (.int .i64 N.vote) := BB.out.cell 5
  go_wp2_with fail
  go_ret
  have hsz := K1.out.size
  have nf2 : ¬ F2 r := fun h => (N2.out.foot r h).elim HN.out.nf (fun h => by have := HRW.out; omega)
  have hp2 : Pro w2 F2 G d l room logS M (termP (numsL [t, v1]) L) := pro_other (HN.out.pro.below K1.out) D2.out N2.out (fun i => termP_other HR.out i)
  have S2 : NdS w2 (fun k => (F2 k ∨ G k) ∨ k = r) r d l room N M (termP (numsL [t, v1]) L) := ⟨F2, G, ⟨BB.out, hp2, nf2, HN.out.ng, HN.out.fit⟩, fun _ => Iff.rfl⟩
  have S3 := S2.set (N' := { N with term := t }) 4 (.int .i64 (t : Int)) rfl HN.out.fit
  have S4 := S3.set (N' := { N with term := t, vote := v }) 5 (.int .i64 v) rfl HN.out.fit
  have n4 := (foot_next HS.out K1.out (N2.out.turn.mono (fun k h => .inl h)) N2.out.foot (fun k h => .inl h)).trans ((set_next (u := .int .i64 (t : Int)) (i := 4) S2.self).trans (set_next (u := .int .i64 v) (i := 5) S3.self))
  exact ⟨rfl, _, S4, n4⟩
end Go.Proofs.YtejhoefmcldpnaaGreat
