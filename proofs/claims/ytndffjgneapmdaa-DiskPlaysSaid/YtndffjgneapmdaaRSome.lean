/- The document's Read, Sync, Remove, Rename, Cut, Rot where the name is none that is there, or wrong. No condition but the widths; The document's Sync and Read where the file is there. No condition but the widths; The document's Read where the file is there. No condition but the widths. -/
import Derived.Test.YtndffjgneapmdaaRIns
namespace Go.Proofs.Ytndffjgneapmdaa
open Go.RowKit Go.Maps
section
variable (G : Nat → Prop) (p room : Nat) (v : Value) (X : List (Str × Fil)) (s : ByteArray) (w : World) (h : RShell w G p room v X) (hr : Rise X) (hg : getK s.data.toList X = none)
include h hr hg
theorem rspot_none : ∃ j : Nat, Calls Try.prog 49 #[.pointer (some ⟨p, 0, none⟩), .string s] w fun e w' => e = .returned (.tuple #[.int .i64 (j : Int), .bool false]) ∧ ∃ d, w' = w.drewN d := by
  have := spot_any G p room v X s w h hr
  rw [hg] at this
  exact ⟨_, this⟩
theorem rremove_none : Calls Try.prog 33 #[.pointer (some ⟨p, 0, none⟩), .string s] w fun e w' => e = .returned (.int .i64 7) ∧ ∃ d, w' = w.drewN d := by
  obtain ⟨j, hS⟩ := rspot_none G p room v X s w h hr hg
  have HS := hide hS
  clear hS h hr hg
  go_enter Try.func33, Try.ntmps33
  go_wp2_with fail
  refine HS.out.mono ?_
  rintro e w1 ⟨rfl, dd, rfl⟩
  go_wp2_with fail
  go_ret
  exact ⟨rfl, dd, rfl⟩
theorem rsync_none : Calls Try.prog 29 #[.pointer (some ⟨p, 0, none⟩), .string s] w fun e w' => e = .returned (.int .i64 7) ∧ ∃ d, w' = w.drewN d := by
  obtain ⟨j, hS⟩ := rspot_none G p room v X s w h hr hg
  have HS := hide hS
  clear hS h hr hg
  go_enter Try.func29, Try.ntmps29
  go_wp2_with fail
  refine HS.out.mono ?_
  rintro e w1 ⟨rfl, dd, rfl⟩
  go_wp2_with fail
  go_ret
  exact ⟨rfl, dd, rfl⟩
theorem rread_none : Calls Try.prog 28 #[.pointer (some ⟨p, 0, none⟩), .string s] w fun e w' => e = .returned (.tuple #[.slice none 0 0, .int .i64 7]) ∧ ∃ d, w' = w.drewN d := by
  obtain ⟨j, hS⟩ := rspot_none G p room v X s w h hr hg
  have HS := hide hS
  clear hS h hr hg
  go_enter Try.func28, Try.ntmps28
  go_wp2_with fail
  refine HS.out.mono ?_
  rintro e w1 ⟨rfl, dd, rfl⟩
  go_wp2_with fail
  go_ret2
  exact ⟨rfl, dd, rfl⟩
theorem rcut_none (z : Int) : Calls Try.prog 35 #[.pointer (some ⟨p, 0, none⟩), .string s, .int .i64 z] w fun e w' => e = .returned (.int .i64 7) ∧ ∃ d, w' = w.drewN d := by
  obtain ⟨j, hS⟩ := rspot_none G p room v X s w h hr hg
  have HS := hide hS
  clear hS h hr hg
  go_enter Try.func35, Try.ntmps35
  go_wp2_with fail
  refine HS.out.mono ?_
  rintro e w1 ⟨rfl, dd, rfl⟩
  go_wp2_with fail
  go_ret
  exact ⟨rfl, dd, rfl⟩
theorem rrename_none (t : ByteArray) (ht : 1 ≤ t.size ∧ t.size ≤ 64) : Calls Try.prog 31 #[.pointer (some ⟨p, 0, none⟩), .string s, .string t] w fun e w' => e = .returned (.int .i64 7) ∧ ∃ d, w' = w.drewN d := by
  obtain ⟨j, hS⟩ := rspot_none G p room v X s w h hr hg
  have HS := hide hS
  have HT := hide (rIsName_any t w (by omega))
  rw [decide_eq_true ht] at HT
  clear hS h hr hg ht
  go_enter Try.func31, Try.ntmps31
  go_wp2_with fail
  refine HT.out.mono ?_
  rintro e w0 ⟨rfl, rfl⟩
  go_wp2_with fail
  refine HS.out.mono ?_
  rintro e w1 ⟨rfl, dd, rfl⟩
  go_wp2_with fail
  go_ret
  exact ⟨rfl, dd, rfl⟩
theorem rrot_none (z : Int) (y : Int) : Calls Try.prog 37 #[.pointer (some ⟨p, 0, none⟩), .string s, .int .i64 z, .int .u8 y] w fun e w' => e = .returned (.int .i64 7) ∧ ∃ d, w' = w.drewN d := by
  obtain ⟨j, hS⟩ := rspot_none G p room v X s w h hr hg
  have HS := hide hS
  clear hS h hr hg
  go_enter Try.func37, Try.ntmps37
  go_wp2_with fail
  refine HS.out.mono ?_
  rintro e w1 ⟨rfl, dd, rfl⟩
  go_wp2_with fail
  go_ret
  exact ⟨rfl, dd, rfl⟩
end
theorem rrename_arg (p : Nat) (s t : ByteArray) (w : World) (ht : ¬ (1 ≤ t.size ∧ t.size ≤ 64)) (hb : t.size ≤ 9223372036854775807) :
    Calls Try.prog 31 #[.pointer (some ⟨p, 0, none⟩), .string s, .string t] w fun e w' => e = .returned (.int .i64 1) ∧ w = w' := by
  have HT := hide (rIsName_any t w hb)
  rw [decide_eq_false ht] at HT
  clear ht
  go_enter Try.func31, Try.ntmps31
  go_wp2_with fail
  refine HT.out.mono ?_
  rintro e w0 ⟨rfl, rfl⟩
  go_wp2_with fail
  go_ret
  exact ⟨rfl, rfl⟩
end Go.Proofs.Ytndffjgneapmdaa
namespace Go.Proofs.Ytndffjgneapmdaa
open Go.RowKit Go.Maps
theorem rfound {w : World} {G : Nat → Prop} {p room : Nat} {v : Value} {X : List (Str × Fil)} {k : Str} {a : Fil} (h : RShell w G p room v X) (hr : Rise X) (hg : getK k X = some a) :
    ∃ g c A n cc, v = .slice (some ⟨g, 0, none⟩) X.length c ∧ a.1 = .slice A n cc ∧ a.2.1.length = n ∧ n ≤ cc ∧ cc ≤ 9223372036854775807 ∧ X.length ≤ c ∧ c ≤ 9223372036854775807 ∧ G g ∧ g < w.heap.size ∧ w.cell? ⟨g, posK k X * 3, none⟩ = some (encStr k) ∧ w.cell? ⟨g, posK k X * 3 + 1, none⟩ = some (.slice A n cc) ∧ w.cell? ⟨g, posK k X * 3 + 2, none⟩ = some (.int .i64 (a.2.2 : Int)) ∧ ∀ i, w.frozen? ⟨g, i, none⟩ = false := by
  obtain ⟨A0, c0, rfl, hlc, hc63, hn0, hcell⟩ := h.form
  obtain ⟨hjl, hX⟩ := posK_get hr hg
  obtain ⟨g, rfl, h1, h2, h3, h4, h5, h6⟩ := hcell _ hjl
  obtain ⟨A, cc, e, _, h7, h8⟩ := (h.each (k, a) (getK_mem hg)).1.isB.form rfl
  rw [hX] at h3 h4 h5
  have e : a.1 = .slice A a.2.1.length cc := e
  exact ⟨g, c0, A, _, cc, rfl, e, rfl, h7, h8, hlc, hc63, h1, h2, h3, by rw [h4, e], h5, h6⟩
theorem next_store {w w1 : World} {G : Nat → Prop} {g i : Nat} {u : Value} (hg : G g) (t : Turn G w w1) : Next G w G (w1.setCell ⟨g, i, none⟩ u) := by
  refine ⟨t.then (S' := fun k => some k = some g) (Turn.of_grown (grown_set w1 g i u)) (fun k hk => .inl ?_), fun k hk => .inl hk⟩
  have hk : k = g := by simpa using hk
  rw [hk]
  exact hg
set_option maxRecDepth 100000 in
set_option maxHeartbeats 1600000 in
theorem rsync_some (G : Nat → Prop) (p room : Nat) (v : Value) (X : List (Str × Fil)) (s : ByteArray) (a : Fil) (w : World) (h : RShell w G p room v X) (hr : Rise X) (hg : getK s.data.toList X = some a) :
    Calls Try.prog 29 #[.pointer (some ⟨p, 0, none⟩), .string s] w fun e w' => e = .returned (.int .i64 0) ∧ ∃ G' v', RShell w' G' p room v' (putK s.data.toList (a.1, a.2.1, a.2.1.length) X) ∧ Next G w G' w' := by
  obtain ⟨g, c, A, n, cc, rfl, ha, hn, hncc, hcc, hXc, hc63, hGg, hgl, q0, q1, q2, fz⟩ := rfound h hr hg
  obtain ⟨hjl, hXj⟩ := posK_get hr hg
  have c1 : w.cell? ⟨p, 1, none⟩ = some (.slice (some ⟨g, 0, none⟩) X.length c) := h.cells.cell 1
  have HS := hide (spot_any G p room _ X s w h hr)
  have HP := hide (put_at (a.1, a.2.1, a.2.1.length) hr hg)
  have HX := hide h
  obtain ⟨N, hN⟩ : ∃ N, N = X.length := ⟨_, rfl⟩
  obtain ⟨j, hj⟩ : ∃ j, j = posK s.data.toList X := ⟨_, rfl⟩
  have HXJ : Hid (∃ hj : j < X.length, X[j] = (s.data.toList, a)) := by
    subst hj
    exact ⟨hjl, hXj⟩
  clear hXj
  rw [← hj, hg] at HS
  rw [← hj] at HP hjl q0 q1 q2
  rw [← hN] at c1 hjl hXc
  rw [hn] at HP ⊢
  have HN := hide hN
  have HNN := hide hn
  have HGG := hide hGg
  have f2 := fz (j * 3 + 2)
  clear h hN hj hg hr hn fz hGg ha q0
  go_enter Try.func29, Try.ntmps29
  go_wp2_with fail
  refine HS.out.mono ?_
  rintro e w1 ⟨rfl, dd, hd⟩
  have k1 : Below w.heap.size w w1 := by rw [hd]; exact below_drewN (Below.refl _ _) dd
  have c1' : w1.cell? ⟨p, 1, none⟩ = some (.slice (some ⟨g, 0, none⟩) N c) := by rw [hd]; exact c1
  have q1' : w1.cell? ⟨g, j * 3 + 1, none⟩ = some (.slice A n cc) := by rw [hd]; exact q1
  have q2' : w1.cell? ⟨g, j * 3 + 2, none⟩ = some (.int .i64 (a.2.2 : Int)) := by rw [hd]; exact q2
  have f2' : w1.frozen? ⟨g, j * 3 + 2, none⟩ = false := by rw [hd]; exact f2
  clear hd c1 f2 q1 q2
  have K1 := hide k1
  have HX1 := hide (HX.out.below k1)
  clear k1
  go_wp2_with fail
  go_region
  all_goals
    go_wp2_with fail
    go_ret
    refine ⟨rfl, ?_⟩
    obtain ⟨hjl', hXj⟩ := HXJ.out
    have hs := HX1.out.set2 j hjl' n
    rw [hXj, ← HP.out] at hs
    refine ⟨G, _, hs.turn (S := fun _ => False) (Turn.of_below _ ?_) (fun _ _ => id), ?_⟩
    · exact ⟨rfl, rfl, rfl, by simp, fun k hk => by rfl⟩
    · exact (next_store HGG.out (Turn.of_below _ K1.out)).drewN 1
end Go.Proofs.Ytndffjgneapmdaa
namespace Go.Proofs.Ytndffjgneapmdaa
open Go.RowKit Go.Maps
set_option maxRecDepth 100000 in
set_option maxHeartbeats 1600000 in
theorem rread_some (G : Nat → Prop) (p room : Nat) (v : Value) (X : List (Str × Fil)) (s : ByteArray) (a : Fil) (w : World) (h : RShell w G p room v X) (hr : Rise X) (hg : getK s.data.toList X = some a) (hlen : a.2.1.length ≤ 1099511627776) :
    Calls Try.prog 28 #[.pointer (some ⟨p, 0, none⟩), .string s] w fun e w' => ∃ v, e = .returned (.tuple #[v, .int .i64 0]) ∧ Own w' w.heap.size v a.2.1 ∧ Below w.heap.size w w' := by
  obtain ⟨g, c, A, n, cc, rfl, ha, hn, hncc, hcc, hXc, hc63, hGg, hgl, q0, q1, q2, fz⟩ := rfound h hr hg
  obtain ⟨hjl, hXj⟩ := posK_get hr hg
  have c1 : w.cell? ⟨p, 1, none⟩ = some (.slice (some ⟨g, 0, none⟩) X.length c) := h.cells.cell 1
  have HS := hide (spot_any G p room _ X s w h hr)
  have ho := (h.each _ (getK_mem hg)).1
  have HB : Hid (IsB w (.slice A n cc) a.2.1) := by
    have := ho.isB
    rw [show (s.data.toList, a).2.1 = a.1 from rfl, ha] at this
    exact this
  obtain ⟨N, hN⟩ : ∃ N, N = X.length := ⟨_, rfl⟩
  obtain ⟨j, hj⟩ : ∃ j, j = posK s.data.toList X := ⟨_, rfl⟩
  rw [← hj, hg] at HS
  rw [← hj] at hjl q0 q1 q2
  rw [← hN] at c1 hjl hXc
  obtain ⟨xs, hxs⟩ : ∃ xs, xs = a.2.1 := ⟨_, rfl⟩
  rw [← hxs] at HB hlen hn ⊢
  clear h hN hj hg hr fz hGg ha q0 q2 hXj ho hxs
  go_enter Try.func28, Try.ntmps28
  go_wp2_with fail
  refine HS.out.mono ?_
  rintro e w1 ⟨rfl, dd, hd⟩
  have k1 : Below w.heap.size w w1 := by rw [hd]; exact below_drewN (Below.refl _ _) dd
  have c1' : w1.cell? ⟨p, 1, none⟩ = some (.slice (some ⟨g, 0, none⟩) N c) := by rw [hd]; exact c1
  have q1' : w1.cell? ⟨g, j * 3 + 1, none⟩ = some (.slice A n cc) := by rw [hd]; exact q1
  have hpl : p < w1.heap.size := cell_lt c1'
  have hgl1 : g < w1.heap.size := cell_lt q1'
  clear hd c1 q1
  have K1 := hide k1
  clear k1
  have HN := hide hn
  clear hn
  go_wp2_with (at_builtin; refine halt ?_)
  refine ⟨?_⟩
  have nb := below_alloc w1 (.cells #[] 5)
  refine wpList_append_bytes rfl (.tmp 16) (.tmp 24) rfl w1.heap.size _ [] rfl (own_lit w1 #[] [] rfl (by decide)) _ xs rfl ((HB.out.keep K1.out).keep nb) (by rw [List.length_nil]; omega) nb.size ?_
  intro v2 w2 o2 k2
  rw [List.nil_append] at o2
  have O2 := hide (o2.more K1.out.size)
  have K2 := hide (below_step K1.out (nb.trans k2))
  clear nb o2 k2
  go_wp2_with fail
  go_ret2
  exact ⟨_, rfl, O2.out, K2.out⟩
end Go.Proofs.Ytndffjgneapmdaa
