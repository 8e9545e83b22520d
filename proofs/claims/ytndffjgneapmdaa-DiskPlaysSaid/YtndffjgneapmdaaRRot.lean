/- The document's Rot where the file is there. No condition but the widths. -/
import Derived.Test.YtndffjgneapmdaaRCut
import Derived.Test.YtndffjgneapmdaaOwnAt
namespace Go.Proofs.Ytndffjgneapmdaa
open Go.RowKit Go.Maps
theorem rrot_out (G : Nat → Prop) (p room : Nat) (v : Value) (X : List (Str × Fil)) (s : ByteArray) (a : Fil) (z y : Int) (w : World) (h : RShell w G p room v X) (hr : Rise X) (hg : getK s.data.toList X = some a) (hz : z < 0 ∨ (a.2.1.length : Int) ≤ z) :
    Calls Try.prog 37 #[.pointer (some ⟨p, 0, none⟩), .string s, .int .i64 z, .int .u8 y] w fun e w' => e = .returned (.int .i64 7) ∧ ∃ d, w' = w.drewN d := by
  obtain ⟨g, c, A, n, cc, rfl, ha, hn, hncc, hcc, hXc, hc63, hGg, hgl, q0, q1, q2, fz⟩ := rfound h hr hg
  obtain ⟨hjl, hXj⟩ := posK_get hr hg
  have c1 : w.cell? ⟨p, 1, none⟩ = some (.slice (some ⟨g, 0, none⟩) X.length c) := h.cells.cell 1
  have HS := hide (spot_any G p room _ X s w h hr)
  obtain ⟨N, hN⟩ : ∃ N, N = X.length := ⟨_, rfl⟩
  obtain ⟨j, hj⟩ : ∃ j, j = posK s.data.toList X := ⟨_, rfl⟩
  rw [← hj, hg] at HS
  rw [← hj] at hjl q0 q1 q2
  rw [← hN] at c1 hjl hXc
  rw [hn] at hz
  clear h hN hj hg hr fz hGg ha q0 q2 hXj hn
  rcases hz with hz | hz
  · go_enter Try.func37, Try.ntmps37
    go_wp2_with fail
    refine HS.out.mono ?_
    rintro e w1 ⟨rfl, dd, rfl⟩
    go_wp2_with fail
    go_ret
    exact ⟨rfl, dd, rfl⟩
  · have hz0 : ¬ z < 0 := by omega
    go_enter Try.func37, Try.ntmps37
    go_wp2_with fail
    refine HS.out.mono ?_
    rintro e w1 ⟨rfl, dd, rfl⟩
    go_wp2_with fail
    go_ret
    exact ⟨rfl, dd, rfl⟩
set_option maxRecDepth 100000 in
set_option maxHeartbeats 3200000 in
theorem rrot_ok (G : Nat → Prop) (p room : Nat) (v : Value) (X : List (Str × Fil)) (s : ByteArray) (a : Fil) (k y : Nat) (w : World) (h : RShell w G p room v X) (hr : Rise X) (hg : getK s.data.toList X = some a) (hk : k < a.2.1.length) (hy : y < 256) (hlen : a.2.1.length ≤ 1099511627776) :
    Calls Try.prog 37 #[.pointer (some ⟨p, 0, none⟩), .string s, .int .i64 (k : Int), .int .u8 (y : Int)] w fun e w' => e = .returned (.int .i64 0) ∧ ∃ G' v' u, RShell w' G' p room v' (putK s.data.toList (u, a.2.1.set k (a.2.1.getD k 0 ^^^ y), a.2.2) X) ∧ Next G w G' w' := by
  obtain ⟨g, c, A, n, cc, rfl, ha, hn, hncc, hcc, hXc, hc63, hGg, hgl, q0, q1, q2, fz⟩ := rfound h hr hg
  obtain ⟨hjl, hXj⟩ := posK_get hr hg
  have c1 : w.cell? ⟨p, 1, none⟩ = some (.slice (some ⟨g, 0, none⟩) X.length c) := h.cells.cell 1
  have HS := hide (spot_any G p room _ X s w h hr)
  have HP := hide (fun u : Value => put_at (u, a.2.1.set k (a.2.1.getD k 0 ^^^ y), a.2.2) hr hg)
  have HX := hide h
  have ho := (h.each _ (getK_mem hg)).1
  have hb8 : ∀ x ∈ a.2.1, x < 256 := (h.each _ (getK_mem hg)).2.2
  have HB : Hid (IsB w (.slice A n cc) a.2.1) := by
    have := ho.isB
    rw [show (s.data.toList, a).2.1 = a.1 from rfl, ha] at this
    exact this
  obtain ⟨N, hN⟩ : ∃ N, N = X.length := ⟨_, rfl⟩
  obtain ⟨j, hj⟩ : ∃ j, j = posK s.data.toList X := ⟨_, rfl⟩
  have HXJ : Hid (∃ hj : j < X.length, X[j] = (s.data.toList, a)) := by
    subst hj
    exact ⟨hjl, hXj⟩
  rw [← hj, hg] at HS
  rw [← hj] at HP hjl q0 q1 q2
  rw [← hN] at c1 hjl hXc
  obtain ⟨u0, xs, l⟩ := a
  simp only at ha hn hk hlen HB q2 hb8
  subst ha
  have hxk : xs.getD k 0 < 256 := by
    have e : xs.getD k 0 = xs[k] := by simp [hk]
    rw [e]
    exact hb8 _ (List.getElem_mem _)
  have hx8 := xor8 (xs.getD k 0) y hxk hy
  obtain ⟨x, hxe⟩ : ∃ x, x = xs.getD k 0 := ⟨_, rfl⟩
  have HXE := hide hxe
  show Calls _ _ _ _ fun e w' => e = .returned (.int .i64 0) ∧ ∃ G' v' u, RShell w' G' p room v' (putK s.data.toList (u, xs.set k (xs.getD k 0 ^^^ y), l) X) ∧ Next G w G' w'
  rw [← hxe] at hxk hx8 ⊢
  have HP : Hid (∀ u : Value, putK s.data.toList (u, xs.set k (x ^^^ y), l) X = X.set j (s.data.toList, u, xs.set k (x ^^^ y), l)) := by
    rw [hxe]
    exact HP.out
  have hxy : x ^^^ y < 256 := Nat.xor_lt_two_pow (n := 8) hxk hy
  have HBB : Hid (∀ z ∈ xs.set k (x ^^^ y), z < 256) := by
    intro z hz
    rcases List.mem_or_eq_of_mem_set hz with h | h
    · exact hb8 z h
    · rw [h]; exact hxy
  have HN := hide hN
  have HNN := hide hn
  have HGG := hide hGg
  have hkz : ¬ ((k : Int) < 0) := by omega
  have hkn : ¬ ((n : Int) ≤ (k : Int)) := by omega
  have hkn2 : (k : Int) < (n : Int) := by omega
  clear h hN hj hg hr hn hGg q0 hXj ho hb8 hk hxe q2
  go_enter Try.func37, Try.ntmps37
  go_wp2_with fail
  refine HS.out.mono ?_
  rintro e w1 ⟨rfl, dd, hd⟩
  have k1 : Below w.heap.size w w1 := by rw [hd]; exact below_drewN (Below.refl _ _) dd
  have c1' : w1.cell? ⟨p, 1, none⟩ = some (.slice (some ⟨g, 0, none⟩) N c) := by rw [hd]; exact c1
  have q1' : w1.cell? ⟨g, j * 3 + 1, none⟩ = some (.slice A n cc) := by rw [hd]; exact q1
  have f1' : ∀ i, w1.frozen? ⟨g, i, none⟩ = false := by rw [hd]; exact fz
  have hpl : p < w1.heap.size := cell_lt c1'
  have hgl1 : g < w1.heap.size := cell_lt q1'
  have HB1 := hide (HB.out.keep k1)
  have HX1 := hide (HX.out.below k1)
  have N1 := hide (Next.of_below G k1)
  have f1 := hide f1'
  clear hd c1 fz q1 k1 f1'
  go_wp2_with (at_builtin; refine halt ?_)
  refine ⟨?_⟩
  have nb := below_alloc w1 (.cells #[] 5)
  refine wpList_append_bytes rfl (.tmp 37) (.tmp 45) rfl w1.heap.size _ [] rfl (own_lit w1 #[] [] rfl (by decide)) _ xs rfl (HB1.out.keep nb) (by rw [List.length_nil]; omega) nb.size ?_
  intro v2 w2 o2 k2
  rw [List.nil_append] at o2
  have K2 : Below w1.heap.size w1 w2 := nb.trans k2
  obtain ⟨b, c2, rfl, hb1, hnc2, hc2, hcell, hfr⟩ := o2.at_ HNN.out (by omega)
  have hck := hcell k (by omega)
  have hfk := hfr k
  rw [← HXE.out] at hck
  have o3 := o2.stored HNN.out k (x ^^^ y)
  have K3 : Below w1.heap.size w1 (w2.setCell ⟨b, k, none⟩ (.int .u8 ((x ^^^ y : Nat) : Int))) := K2.grown (grown_set w2 b k _) K2.size (fun i hi => by
    have hi : i = b := by simpa using hi.symm
    omega)
  have O3 := hide o3
  have KK3 := hide K3
  have q3 := (K3.cell (p := ⟨g, j * 3 + 1, none⟩) hgl1).trans q1'
  have q3c := (K3.cell (p := ⟨p, 1, none⟩) hpl).trans c1'
  have f3 := (K3.frozen (p := ⟨g, j * 3 + 1, none⟩) hgl1).trans (f1.out (j * 3 + 1))
  clear nb k2 o2 o3 K3 K2 hcell hfr
  obtain ⟨hjl', hXj⟩ := HXJ.out
  obtain ⟨G', s4, n4, g4⟩ := lay_bytes HX1.out KK3.out HGG.out j hjl' O3.out (Nat.le_refl _) HBB.out
  rw [hXj] at s4
  have S4 : Hid (∃ G' v' u, RShell ((w2.setCell ⟨b, k, none⟩ (.int .u8 ((x ^^^ y : Nat) : Int))).setCell ⟨g, j * 3 + 1, none⟩ (.slice (some ⟨b, 0, none⟩) n c2)) G' p room v' (putK s.data.toList (u, xs.set k (x ^^^ y), l) X) ∧ Next G w G' ((w2.setCell ⟨b, k, none⟩ (.int .u8 ((x ^^^ y : Nat) : Int))).setCell ⟨g, j * 3 + 1, none⟩ (.slice (some ⟨b, 0, none⟩) n c2))) := by
    refine ⟨G', .slice (some ⟨g, 0, none⟩) X.length c, .slice (some ⟨b, 0, none⟩) n c2, ?_, N1.out.trans n4⟩
    rw [HP.out]
    exact s4
  clear s4 n4 hXj g4
  go_wp2_with fail
  go_ret
  exact ⟨rfl, S4.out⟩
end Go.Proofs.Ytndffjgneapmdaa
