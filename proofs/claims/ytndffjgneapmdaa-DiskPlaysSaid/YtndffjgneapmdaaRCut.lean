/- The document's Cut where the file is there. No condition but the widths. -/
import Derived.Test.YtndffjgneapmdaaRSome
import Derived.Test.YtndffjgneapmdaaStepB
namespace Go.Proofs.Ytndffjgneapmdaa
open Go.RowKit Go.Maps
theorem own_emptyB {W : World} {B : Nat} (hB : B ≤ W.heap.size) (b : Nat) (hb : b = W.heap.size) : Own (W.alloc (.cells #[] 5)) B (.slice (some ⟨b, 0, none⟩) 0 0) [] := by
  subst hb
  exact (own_lit W #[] [] rfl (by decide)).more hB
theorem Own.shape {w : World} {B : Nat} {v : Value} {xs : List Nat} (h : Own w B v xs) : ∃ A n c, v = .slice A n c := by
  obtain ⟨A, c, e, _⟩ := h.form
  exact ⟨_, _, _, e⟩
theorem RShell.at_ {w : World} {G : Nat → Prop} {p room g c : Nat} {X : List (Str × Fil)} (h : RShell w G p room (.slice (some ⟨g, 0, none⟩) X.length c) X) (i : Nat) (hi : i < X.length) :
    w.cell? ⟨g, i * 3, none⟩ = some (encStr X[i].1) ∧ w.cell? ⟨g, i * 3 + 1, none⟩ = some X[i].2.1 ∧ w.cell? ⟨g, i * 3 + 2, none⟩ = some (.int .i64 (X[i].2.2.2 : Int)) ∧ ∀ j, w.frozen? ⟨g, j, none⟩ = false := by
  obtain ⟨A0, c0, e, _, _, _, hcell⟩ := h.form
  obtain ⟨g', e', _, _, h3, h4, h5, h6⟩ := hcell i hi
  simp only [Value.slice.injEq] at e
  obtain ⟨rfl, _, rfl⟩ := e
  simp only [Option.some.injEq, Addr.mk.injEq] at e'
  obtain ⟨rfl, _⟩ := e'
  exact ⟨h3, h4, h5, h6⟩
/-- A file's bytes are turned into others of the call's own: the disk behind it. -/
theorem lay_bytes {w w3 : World} {G : Nat → Prop} {p room g c B : Nat} {X : List (Str × Fil)} {u : Value} {ys : List Nat} (h : RShell w G p room (.slice (some ⟨g, 0, none⟩) X.length c) X) (k : Below w.heap.size w w3) (hG : G g) (j : Nat) (hj : j < X.length)
    (ho : Own w3 B u ys) (hB : w.heap.size ≤ B) (hy : ∀ x ∈ ys, x < 256) :
    ∃ G', RShell (w3.setCell ⟨g, j * 3 + 1, none⟩ u) G' p room (.slice (some ⟨g, 0, none⟩) X.length c) (X.set j (X[j].1, (u, ys, X[j].2.2.2))) ∧ Next G w G' (w3.setCell ⟨g, j * 3 + 1, none⟩ u) ∧ G' g := by
  have h3 := h.below k
  refine ⟨fun i => G i ∨ (w.heap.size ≤ i ∧ i < w3.heap.size), ?_, ?_, .inl hG⟩
  · refine (h3.more (fun i hi => .inl hi) (fun i hi => ?_)).set1 j hj (ho.more (Nat.zero_le _)) (fun b hb => .inr ?_) hy
    · rcases hi with hi | hi
      · exact h3.low i hi
      · exact hi.2
    · have := ho.lt b hb
      exact ⟨by omega, this.2⟩
  · refine ⟨(next_store hG (Turn.of_below G k)).turn, fun i hi => ?_⟩
    rcases hi with hi | hi
    · exact .inl hi
    · exact .inr hi.1
theorem rcut_arg (G : Nat → Prop) (p room : Nat) (v : Value) (X : List (Str × Fil)) (s : ByteArray) (a : Fil) (z : Int) (w : World) (h : RShell w G p room v X) (hr : Rise X) (hg : getK s.data.toList X = some a) (hz : z < 0 ∨ (a.2.1.length : Int) < z) :
    Calls Try.prog 35 #[.pointer (some ⟨p, 0, none⟩), .string s, .int .i64 z] w fun e w' => e = .returned (.int .i64 1) ∧ ∃ d, w' = w.drewN d := by
  obtain ⟨g, c, A, n, cc, rfl, ha, hn, hncc, hcc, hXc, hc63, hGg, hgl, q0, q1, q2, fz⟩ := rfound h hr hg
  obtain ⟨hjl, hXj⟩ := posK_get hr hg
  have c1 : w.cell? ⟨p, 1, none⟩ = some (.slice (some ⟨g, 0, none⟩) X.length c) := h.cells.cell 1
  have HS := hide (spot_any G p room _ X s w h hr)
  obtain ⟨N, hN⟩ : ∃ N, N = X.length := ⟨_, rfl⟩
  obtain ⟨j, hj⟩ : ∃ j, j = posK s.data.toList X := ⟨_, rfl⟩
  rw [← hj, hg] at HS
  rw [← hj] at hjl q0 q1 q2
  rw [← hN] at c1 hjl hXc
  rw [hn] at hz
  clear h hN hj hg hr fz hGg ha q0 q2 hXj hn
  rcases hz with hz | hz
  · go_enter Try.func35, Try.ntmps35
    go_wp2_with fail
    refine HS.out.mono ?_
    rintro e w1 ⟨rfl, dd, rfl⟩
    go_wp2_with fail
    go_ret
    exact ⟨rfl, dd, rfl⟩
  · have hz0 : ¬ z < 0 := by omega
    go_enter Try.func35, Try.ntmps35
    go_wp2_with fail
    refine HS.out.mono ?_
    rintro e w1 ⟨rfl, dd, rfl⟩
    go_wp2_with fail
    go_ret
    exact ⟨rfl, dd, rfl⟩
set_option maxRecDepth 100000 in
set_option maxHeartbeats 3200000 in
theorem rcut_ok (G : Nat → Prop) (p room : Nat) (v : Value) (X : List (Str × Fil)) (s : ByteArray) (a : Fil) (k : Nat) (w : World) (h : RShell w G p room v X) (hr : Rise X) (hg : getK s.data.toList X = some a) (hk : k ≤ a.2.1.length) (hlen : a.2.1.length ≤ 1099511627776) :
    Calls Try.prog 35 #[.pointer (some ⟨p, 0, none⟩), .string s, .int .i64 (k : Int)] w fun e w' => e = .returned (.int .i64 0) ∧ ∃ G' v' u, RShell w' G' p room v' (putK s.data.toList (u, a.2.1.take k, min a.2.2 k) X) ∧ Next G w G' w' := by
  obtain ⟨g, c, A, n, cc, rfl, ha, hn, hncc, hcc, hXc, hc63, hGg, hgl, q0, q1, q2, fz⟩ := rfound h hr hg
  obtain ⟨hjl, hXj⟩ := posK_get hr hg
  have c1 : w.cell? ⟨p, 1, none⟩ = some (.slice (some ⟨g, 0, none⟩) X.length c) := h.cells.cell 1
  have HS := hide (spot_any G p room _ X s w h hr)
  have HP := hide (fun u : Value => put_at (u, a.2.1.take k, min a.2.2 k) hr hg)
  have HX := hide h
  have ho := (h.each _ (getK_mem hg)).1
  have hb8 : ∀ x ∈ a.2.1.take k, x < 256 := fun x hx => (h.each _ (getK_mem hg)).2.2 x (List.mem_of_mem_take hx)
  have HB8 := hide hb8
  have HB : Hid (IsB w (.slice A n cc) a.2.1) := by
    have := ho.isB
    rw [show (s.data.toList, a).2.1 = a.1 from rfl, ha] at this
    exact this
  obtain ⟨N, hN⟩ : ∃ N, N = X.length := ⟨_, rfl⟩
  obtain ⟨j, hj⟩ : ∃ j, j = posK s.data.toList X := ⟨_, rfl⟩
  have HXJ : Hid (∃ hj : j < X.length, X[j] = (s.data.toList, a)) := by
    subst hj
    exact ⟨hjl, hXj⟩
  rw [← hj, hg] at HS
  rw [← hj] at HP hjl q0 q1 q2
  rw [← hN] at c1 hjl hXc
  obtain ⟨u0, xs, l⟩ := a
  simp only at ha hn hk hlen HB q2 HB8
  subst ha
  have HN := hide hN
  have HNN := hide hn
  have HGG := hide hGg
  have HK : Hid ((xs.take k).length ≤ 1099511627776) := by unfold Hid; rw [List.length_take]; omega
  have hkn : k ≤ n := by omega
  have hz0 : ¬ ((k : Int) < 0) := by omega
  have hz1 : ¬ ((n : Int) < (k : Int)) := by omega
  have hkc : (k : Int) ≤ (cc : Int) := by omega
  have HT := hide (HB.out.take k hkn)
  clear h hN hj hg hr hn hGg q0 hXj ho hb8 hk HB
  go_enter Try.func35, Try.ntmps35
  go_wp2_with fail
  refine HS.out.mono ?_
  rintro e w1 ⟨rfl, dd, hd⟩
  have k1 : Below w.heap.size w w1 := by rw [hd]; exact below_drewN (Below.refl _ _) dd
  have hz : w1.heap.size = w.heap.size := by rw [hd]; rfl
  have c1' : w1.cell? ⟨p, 1, none⟩ = some (.slice (some ⟨g, 0, none⟩) N c) := by rw [hd]; exact c1
  have q1' : w1.cell? ⟨g, j * 3 + 1, none⟩ = some (.slice A n cc) := by rw [hd]; exact q1
  have f1' : ∀ i, w1.frozen? ⟨g, i, none⟩ = false := by rw [hd]; exact fz
  have hpl : p < w1.heap.size := cell_lt c1'
  have hgl1 : g < w1.heap.size := cell_lt q1'
  have HT1 := hide (HT.out.keep k1)
  have K1 := hide k1
  have HX1 := hide (HX.out.below k1)
  have N1 := hide (Next.of_below G k1)
  have f1 := hide f1'
  clear hd c1 fz q1 q2 k1 hz f1'
  have KA := below_alloc w1 (.cells #[] 5)
  go_wp2_with fail
  go_region_law (first
    | (refine step_append_bytes rfl (.tmp 37) (.tmp 47) rfl w1.heap.size _ [] rfl (own_emptyB (W := w1) (Nat.le_refl _) _ rfl) _ (xs.take k) rfl (HT1.out.keep ⟨KA.os, KA.tape, KA.output, KA.size, KA.block⟩) (by rw [List.length_nil]; have := HK.out; omega) KA.size ?_; intro v3 w3 o3 k3; rw [List.nil_append] at o3; have K3 : Below w1.heap.size w1 w3 := (by refine Below.trans ?_ k3; exact ⟨KA.os, KA.tape, KA.output, KA.size, KA.block⟩); obtain ⟨A3, n3, c3, rfl⟩ := o3.shape; have q3 : w3.cell? ⟨g, j * 3 + 1, none⟩ = some (.slice A n cc) := (by rw [← q1']; exact K3.cell hgl1); have q3c : w3.cell? ⟨p, 1, none⟩ = some (.slice (some ⟨g, 0, none⟩) N c) := (by rw [← c1']; exact K3.cell hpl); have f3 : w3.frozen? ⟨g, j * 3 + 1, none⟩ = false := (by rw [← f1.out (j * 3 + 1)]; exact K3.frozen hgl1); have O3 := hide o3; have KK3 := hide K3; clear o3 k3 K3))
  all_goals
    obtain ⟨hjl', hXj⟩ := HXJ.out
    obtain ⟨G', s4, n4, g4⟩ := lay_bytes HX1.out KK3.out HGG.out j hjl' O3.out (Nat.le_refl _) HB8.out
    rw [hXj] at s4
    obtain ⟨w4, h4⟩ : ∃ w4, w4 = w3.setCell ⟨g, j * 3 + 1, none⟩ (.slice A3 n3 c3) := ⟨_, rfl⟩
    rw [← h4] at s4 n4 ⊢
    clear h4 f3 q3 q3c
    have hl4 : (X.set j (s.data.toList, (.slice A3 n3 c3, xs.take k, l))).length = X.length := List.length_set
    have s5 : RShell w4 G' p room (.slice (some ⟨g, 0, none⟩) (X.set j (s.data.toList, ((.slice A3 n3 c3, xs.take k, l) : Fil))).length c) (X.set j (s.data.toList, (.slice A3 n3 c3, xs.take k, l))) := by rw [hl4]; exact s4
    have hj4 : j < (X.set j (s.data.toList, ((.slice A3 n3 c3, xs.take k, l) : Fil))).length := by rw [hl4]; exact hjl'
    obtain ⟨-, -, t2a, t3a⟩ := s5.at_ j hj4
    rw [List.getElem_set_self] at t2a
    have t2 : w4.cell? ⟨g, j * 3 + 2, none⟩ = some (.int .i64 (l : Int)) := t2a
    have t3 := t3a (j * 3 + 2)
    clear t2a t3a
    have t1 : w4.cell? ⟨p, 1, none⟩ = some (.slice (some ⟨g, 0, none⟩) N c) := by rw [HN.out]; exact s4.cells.cell 1
    have hs6 := s5.set2 j hj4 (min l k)
    have hm : ((min l k : Nat) : Int) = min (l : Int) (k : Int) := by omega
    rw [List.getElem_set_self, List.set_set, hm] at hs6
    have hs7 : ∃ G' v' u, RShell (w4.setCell ⟨g, j * 3 + 2, none⟩ (.int .i64 (min (l : Int) (k : Int)))).drew G' p room v' (putK s.data.toList (u, xs.take k, min l k) X) ∧ Next G w G' (w4.setCell ⟨g, j * 3 + 2, none⟩ (.int .i64 (min (l : Int) (k : Int)))).drew := by
      refine ⟨G', .slice (some ⟨g, 0, none⟩) (X.set j (s.data.toList, ((.slice A3 n3 c3, xs.take k, l) : Fil))).length c, .slice A3 n3 c3, ?_, ((N1.out.trans n4).trans (next_store g4 (Turn.refl _ _))).drewN 1⟩
      rw [HP.out]
      exact hs6.turn (S := fun _ => False) (Turn.of_below _ ⟨rfl, rfl, rfl, Nat.le_refl _, fun _ _ => rfl⟩) (fun _ _ => id)
    have HS7 := hide hs7
    clear hs7 hs6 s5 s4 n4 hj4 hl4 hXj g4 hm
    go_wp2_with fail
    go_region
    all_goals
      go_wp2_with fail
      go_ret
      exact ⟨rfl, HS7.out⟩
end Go.Proofs.Ytndffjgneapmdaa
