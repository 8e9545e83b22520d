/- The law's own 'does': a step in both disks. Condition: the step's text is shorter than 2 to the 40, its bytes at most 1000000. The law's own 'does': an append in both disks. Condition: the step's text is shorter than 2 to the 40, its bytes at most 1000000. The law's own 'stood': all files, in both disks. No condition but the widths. -/
import Derived.Test.YtmledochidefeaaK20
import Derived.Test.YtmledochidefeaaK21
import Derived.Test.YtmledochidefeaaK5
import Derived.Deep.RegionHeld3
namespace Go.Proofs.Ytmledochidefeaa
open Go.RowKit Go.Maps
theorem box_cells (w : World) (v0 v1 v2 v3 v4 : Value) (b : Nat) (hb : b = w.heap.size) :
    (w.alloc (.cells #[v0, v1, v2, v3, v4] 35)).drew.cell? ⟨b, 1, none⟩ = some v1 ∧ (w.alloc (.cells #[v0, v1, v2, v3, v4] 35)).drew.cell? ⟨b, 2, none⟩ = some v2 ∧ (w.alloc (.cells #[v0, v1, v2, v3, v4] 35)).drew.cell? ⟨b, 3, none⟩ = some v3 ∧ (w.alloc (.cells #[v0, v1, v2, v3, v4] 35)).drew.cell? ⟨b, 4, none⟩ = some v4 := by
  subst hb
  have h : ∀ i v, #[v0, v1, v2, v3, v4][i]? = some v → (w.alloc (.cells #[v0, v1, v2, v3, v4] 35)).drew.cell? ⟨w.heap.size, i, none⟩ = some v := fun i v hv => by
    rw [← hv]
    exact cell_of_row _ _ _ _ _ (0, 0) (heap_alloc_new w _)
  exact ⟨h 1 _ rfl, h 2 _ rfl, h 3 _ rfl, h 4 _ rfl⟩
theorem box_at (w : World) (v0 v1 v2 v3 v4 : Value) (b : Nat) (hb : b = w.heap.size) :
    (w.alloc (.cells #[v0, v1, v2, v3, v4] 35)).cell? ⟨b, 1, none⟩ = some v1 ∧ (w.alloc (.cells #[v0, v1, v2, v3, v4] 35)).cell? ⟨b, 2, none⟩ = some v2 ∧ (w.alloc (.cells #[v0, v1, v2, v3, v4] 35)).cell? ⟨b, 3, none⟩ = some v3 := by
  obtain ⟨h1, h2, h3, _⟩ := box_cells w v0 v1 v2 v3 v4 b hb
  exact ⟨h1, h2, h3⟩
theorem loadL_len {room : Nat} {L : DiskL} (h : Sane room L) (k : Str) : (loadL k L).1.length ≤ 1073741824 := by
  unfold loadL readL
  rcases hg : getK k L with _ | a
  · simp
  · have h1 := h.len hg
    have h2 := decL_len a.1
    dsimp only
    split
    · simp
    · split
      · simp
      · split
        · simp
        · show (decL a.1).1.length ≤ _
          omega
theorem Both.turn {S : Nat → Prop} {B : Nat} {w w1 : World} {F G : Nat → Prop} {d p room : Nat} {L : DiskL} (h : Both B w F G d p room L) (t : Turn S w w1) (hF : ∀ g, F g → ¬ S g) (hG : ∀ g, G g → ¬ S g) : Both B w1 F G d p room L :=
  ⟨h.disk.turn t hF, h.ref.turn t hG, h.apart, h.upF, h.upG, Nat.le_trans h.base t.size⟩
theorem Both.bytes {B : Nat} {w : World} {F G : Nat → Prop} {d p room : Nat} {L : DiskL} (h : Both B w F G d p room L) : ∀ k a, getK k L = some a → ∀ x ∈ a.1, x < 256 :=
  fun k a hg => (h.disk.facts.2.2.2.2.1 (k, a) (getK_mem hg)).2
section
variable (B : Nat) (w : World) (F G : Nat → Prop) (d p room : Nat) (L : DiskL) (N y : Int) (s : ByteArray) (P : Option Addr) (m cp : Nat) (hB : Both B w F G d p room L)
include hB
set_option maxRecDepth 100000 in
set_option maxHeartbeats 3200000 in
theorem does_crash : Calls Try.prog 11 #[.pointer (some ⟨d, 0, none⟩), .pointer (some ⟨p, 0, none⟩), .agg #[.int .i64 3, .int .i64 N, .string s, .slice P m cp, .int .u8 y]] w fun e w' => e = .returned (.bool true) ∧ ∃ F' G' L', Both B w' F' G' d p room L' ∧ Below B w w' := by
  have HB := hide hB
  clear hB
  obtain ⟨b, hb⟩ : ∃ b, b = w.heap.size := ⟨_, rfl⟩
  have bc := box_at w (.int .i64 3) (.int .i64 N) (.string s) (.slice P m cp) (.int .u8 y) b hb
  have kB := below_alloc w (.cells #[.int .i64 3, .int .i64 N, .string s, .slice P m cp, .int .u8 y] 35)
  go_enter Try.func11, Try.ntmps11
  go_wp2_with fail
  obtain ⟨W, hW⟩ : ∃ W, W = w.alloc (.cells #[.int .i64 3, .int .i64 N, .string s, .slice P m cp, .int .u8 y] 35) := ⟨_, rfl⟩
  have hsz : b < W.heap.size := by rw [hW, hb]; simp
  rw [← hW] at bc kB
  rw [← hW, ← hb]
  have KB := hide (kB.mono HB.out.base)
  have HBD := hide (HB.out.below kB)
  have hnF : Hid (¬ F b) := hide (fun h => by have := HB.out.disk.low b h; omega)
  have hnG : Hid (¬ G b) := hide (fun h => by have := HB.out.ref.low b h; omega)
  have HSZ := hide hsz
  have SA := hide HB.out.disk.sane
  obtain ⟨c1, c2, c3⟩ := bc
  clear kB hW hb hsz
  refine (crash_any F d room L N W HBD.out.disk).mono ?_
  rintro e w1 ⟨rfl, F1, d1, n1⟩
  obtain ⟨r1, a1, u1, k1⟩ := HBD.out.first n1
  have b1 : w1.cell? ⟨b, 1, none⟩ = some (.int .i64 N) := (n1.far HSZ.out hnF.out).trans c1
  have D1 := hide d1
  have R1 := hide r1
  have A1 := hide a1
  have U1 := hide u1
  have K1 := hide k1
  have Z1 := hide n1.turn.size
  clear d1 r1 a1 u1 k1 n1 c1 c2 c3
  go_wp2_with fail
  refine (rcrash_at G p room L w1 R1.out SA.out N).mono ?_
  rintro e w2 ⟨rfl, G2, r2, n2⟩
  have BB := hide (both_second D1.out A1.out U1.out HBD.out.upG (Nat.le_trans HBD.out.base Z1.out) r2 n2)
  have K2 := hide (K1.out.trans (n2.below (Nat.le_trans HBD.out.base Z1.out) HBD.out.upG))
  clear r2 n2
  go_wp2_with fail
  go_ret
  exact ⟨rfl, F1, G2, _, BB.out, KB.out.trans K2.out⟩
set_option maxRecDepth 100000 in
set_option maxHeartbeats 3200000 in
theorem does_load (hs : s.size ≤ 1099511627776) : Calls Try.prog 11 #[.pointer (some ⟨d, 0, none⟩), .pointer (some ⟨p, 0, none⟩), .agg #[.int .i64 2, .int .i64 N, .string s, .slice P m cp, .int .u8 y]] w fun e w' => e = .returned (.bool true) ∧ ∃ F' G' L', Both B w' F' G' d p room L' ∧ Below B w w' := by
  have HB := hide hB
  have HS := hide hs
  clear hB hs
  obtain ⟨b, hb⟩ : ∃ b, b = w.heap.size := ⟨_, rfl⟩
  have bc := box_at w (.int .i64 2) (.int .i64 N) (.string s) (.slice P m cp) (.int .u8 y) b hb
  have kB := below_alloc w (.cells #[.int .i64 2, .int .i64 N, .string s, .slice P m cp, .int .u8 y] 35)
  go_enter Try.func11, Try.ntmps11
  go_wp2_with fail
  obtain ⟨W, hW⟩ : ∃ W, W = w.alloc (.cells #[.int .i64 2, .int .i64 N, .string s, .slice P m cp, .int .u8 y] 35) := ⟨_, rfl⟩
  have hsz : b < W.heap.size := by rw [hW, hb]; simp
  rw [← hW] at bc kB
  rw [← hW, ← hb]
  have KB := hide (kB.mono HB.out.base)
  have HBD := hide (HB.out.below kB)
  have HSZ := hide hsz
  have SA := hide HB.out.disk.sane
  obtain ⟨c1, c2, c3⟩ := bc
  clear kB hW hb hsz
  have hlen := loadL_len SA.out s.data.toList
  obtain ⟨xs, hxs⟩ : ∃ xs, xs = (loadL s.data.toList L).1 := ⟨_, rfl⟩
  obtain ⟨er, her⟩ : ∃ er, er = (loadL s.data.toList L).2 := ⟨_, rfl⟩
  rw [← hxs] at hlen
  have HXS := hide hxs
  have HER := hide her
  clear hxs her
  refine (load_any F d room L s W HBD.out.disk HS.out).mono ?_
  rintro e w1 ⟨v1, rfl, o1, k1⟩
  rw [← HXS.out] at o1
  rw [← HER.out]
  obtain ⟨n, hn⟩ : ∃ n, n = xs.length := ⟨_, rfl⟩
  rw [← hn] at hlen
  obtain ⟨A1, q1, rfl, i1, l1, m1⟩ := o1.isB.form hn.symm
  have b2 : w1.cell? ⟨b, 2, none⟩ = some (.string s) := (k1.cell HSZ.out).trans c2
  have HN := hide hn
  have O1 := hide o1
  have K1 := hide k1
  have B1 := hide (HBD.out.below k1)
  clear o1 i1 k1 hn c1 c2 c3
  go_wp2_with fail
  refine (rload_any G p room L s w1 B1.out.ref SA.out B1.out.bytes).mono ?_
  rintro e w2 ⟨v2, rfl, o2, k2⟩
  rw [← HXS.out] at o2
  rw [← HER.out]
  obtain ⟨A2, q2, rfl, i2, l2, m2⟩ := o2.isB.form HN.out.symm
  have O1' := hide (O1.out.keep k2)
  have I2 := hide i2
  have K2 := hide (K1.out.trans (k2.mono K1.out.size))
  clear o2 i2 k2 O1
  go_wp2_with fail
  refine (same_any A1 A2 n n q1 q2 xs xs w2 O1'.out.isB.rd I2.out.rd HN.out HN.out (by omega) (by omega)).mono ?_
  rintro e w3 ⟨rfl, d3, rfl⟩
  rw [decide_eq_true (rfl : xs = xs)]
  go_wp2_with fail
  refine (spoil_any A1 n q1 xs (w2.drewN d3) W.heap.size (O1'.out.drewN d3) HN.out.symm K2.out.size (by omega)).mono ?_
  rintro e w4 ⟨rfl, k4⟩
  have K4 := hide ((below_drewN K2.out d3).trans k4)
  clear k4
  go_wp2_with fail
  go_ret
  exact ⟨rfl, F, G, L, HBD.out.below K4.out, KB.out.trans (K4.out.mono HBD.out.base)⟩
set_option maxRecDepth 100000 in
set_option maxHeartbeats 3200000 in
theorem does_cut (hs : s.size ≤ 1099511627776) : Calls Try.prog 11 #[.pointer (some ⟨d, 0, none⟩), .pointer (some ⟨p, 0, none⟩), .agg #[.int .i64 5, .int .i64 N, .string s, .slice P m cp, .int .u8 y]] w fun e w' => e = .returned (.bool true) ∧ ∃ F' G' L', Both B w' F' G' d p room L' ∧ Below B w w' := by
  have HB := hide hB
  have HS := hide hs
  clear hB hs
  go_enter Try.func11, Try.ntmps11
  go_wp2_with fail
  obtain ⟨b, hb⟩ : ∃ b, b = w.heap.size := ⟨_, rfl⟩
  have bc := box_cells w (.int .i64 5) (.int .i64 N) (.string s) (.slice P m cp) (.int .u8 y) b hb
  have kB := below_alloc w (.cells #[.int .i64 5, .int .i64 N, .string s, .slice P m cp, .int .u8 y] 35)
  obtain ⟨W, hW⟩ : ∃ W, W = w.alloc (.cells #[.int .i64 5, .int .i64 N, .string s, .slice P m cp, .int .u8 y] 35) := ⟨_, rfl⟩
  have hsz : b < W.heap.size := by rw [hW, hb]; simp
  rw [← hW] at bc kB
  rw [← hW, ← hb]
  have KB := hide ((kB.mono HB.out.base).trans ((below_drew W).mono (Nat.le_trans HB.out.base kB.size)))
  have HBD := hide ((HB.out.below kB).below (below_drew W))
  have hnF : Hid (¬ F b) := hide (fun h => by have := HB.out.disk.low b h; omega)
  have hnG : Hid (¬ G b) := hide (fun h => by have := HB.out.ref.low b h; omega)
  have HSZ := hide hsz
  have SA := hide HB.out.disk.sane
  obtain ⟨c1, c2, c3, c4⟩ := bc
  clear kB hW hb hsz
  go_region_held3 (fun W' => W'.cell? ⟨b, 2, none⟩ = some (.string s) ∧ W'.cell? ⟨b, 1, none⟩ = some (.int .i64 N)) (go_keep)
    (first
      | (go_at_call 27; refine (cutD_any F d room L s W.drew HBD.out.disk HS.out N).mono ?_; rintro e w1 ⟨rfl, F1, d1, n1⟩; obtain ⟨r1, a1, u1, k1⟩ := HBD.out.first n1; have b12 : w1.cell? ⟨b, 2, none⟩ = some (.string s) := (n1.far HSZ.out hnF.out).trans c2; have b11 : w1.cell? ⟨b, 1, none⟩ = some (.int .i64 N) := (n1.far HSZ.out hnF.out).trans c1; have D1 := hide d1; have R1 := hide r1; have A1 := hide a1; have U1 := hide u1; have K1 := hide k1; have Z1 := hide n1.turn.size; clear d1 r1 a1 u1 k1 n1)
      | (go_at_call 28; refine (rcut_any G p room L s w1 R1.out SA.out N).mono ?_; rintro e w2 ⟨rfl, G2, r2, n2⟩; have e12 : w2.cell? ⟨b, 2, none⟩ = some (.string s) := (n2.far (Nat.lt_of_lt_of_le HSZ.out Z1.out) hnG.out).trans b12; have e11 : w2.cell? ⟨b, 1, none⟩ = some (.int .i64 N) := (n2.far (Nat.lt_of_lt_of_le HSZ.out Z1.out) hnG.out).trans b11; have BB := hide (both_second D1.out A1.out U1.out HBD.out.upG (Nat.le_trans HBD.out.base Z1.out) r2 n2); have K2 := hide (K1.out.trans (n2.below (Nat.le_trans HBD.out.base Z1.out) HBD.out.upG)); clear r2 n2))
  go_wp2_with fail
  go_ret
  exact ⟨rfl, F1, G2, _, BB.out, KB.out.trans K2.out⟩
set_option maxRecDepth 100000 in
set_option maxHeartbeats 3200000 in
theorem does_rot (hs : s.size ≤ 1099511627776) (z : Nat) (hz : z < 256) : Calls Try.prog 11 #[.pointer (some ⟨d, 0, none⟩), .pointer (some ⟨p, 0, none⟩), .agg #[.int .i64 4, .int .i64 N, .string s, .slice P m cp, .int .u8 (z : Int)]] w fun e w' => e = .returned (.bool true) ∧ ∃ F' G' L', Both B w' F' G' d p room L' ∧ Below B w w' := by
  have HB := hide hB
  have HS := hide hs
  clear hB hs
  have HZ := hide hz
  clear hz
  go_enter Try.func11, Try.ntmps11
  go_wp2_with fail
  obtain ⟨b, hb⟩ : ∃ b, b = w.heap.size := ⟨_, rfl⟩
  have bc := box_cells w (.int .i64 4) (.int .i64 N) (.string s) (.slice P m cp) (.int .u8 (z : Int)) b hb
  have kB := below_alloc w (.cells #[.int .i64 4, .int .i64 N, .string s, .slice P m cp, .int .u8 (z : Int)] 35)
  obtain ⟨W, hW⟩ : ∃ W, W = w.alloc (.cells #[.int .i64 4, .int .i64 N, .string s, .slice P m cp, .int .u8 (z : Int)] 35) := ⟨_, rfl⟩
  have hsz : b < W.heap.size := by rw [hW, hb]; simp
  rw [← hW] at bc kB
  rw [← hW, ← hb]
  have KB := hide ((kB.mono HB.out.base).trans ((below_drew W).mono (Nat.le_trans HB.out.base kB.size)))
  have HBD := hide ((HB.out.below kB).below (below_drew W))
  have hnF : Hid (¬ F b) := hide (fun h => by have := HB.out.disk.low b h; omega)
  have hnG : Hid (¬ G b) := hide (fun h => by have := HB.out.ref.low b h; omega)
  have HSZ := hide hsz
  have SA := hide HB.out.disk.sane
  obtain ⟨c1, c2, c3, c4⟩ := bc
  clear kB hW hb hsz
  go_region_held3 (fun W' => W'.cell? ⟨b, 2, none⟩ = some (.string s) ∧ W'.cell? ⟨b, 1, none⟩ = some (.int .i64 N) ∧ W'.cell? ⟨b, 4, none⟩ = some (.int .u8 (z : Int))) (go_keep)
    (first
      | (go_at_call 18; refine (rot_any F d room L s W.drew HBD.out.disk HS.out N z HZ.out).mono ?_; rintro e w1 ⟨rfl, F1, d1, n1⟩; obtain ⟨r1, a1, u1, k1⟩ := HBD.out.first n1; have b12 : w1.cell? ⟨b, 2, none⟩ = some (.string s) := (n1.far HSZ.out hnF.out).trans c2; have b11 : w1.cell? ⟨b, 1, none⟩ = some (.int .i64 N) := (n1.far HSZ.out hnF.out).trans c1; have b15 : w1.cell? ⟨b, 4, none⟩ = some (.int .u8 (z : Int)) := (n1.far HSZ.out hnF.out).trans c4; have D1 := hide d1; have R1 := hide r1; have A1 := hide a1; have U1 := hide u1; have K1 := hide k1; have Z1 := hide n1.turn.size; clear d1 r1 a1 u1 k1 n1)
      | (go_at_call 26; refine (rrot_any G p room L s w1 R1.out SA.out N z HZ.out).mono ?_; rintro e w2 ⟨rfl, G2, r2, n2⟩; have e12 : w2.cell? ⟨b, 2, none⟩ = some (.string s) := (n2.far (Nat.lt_of_lt_of_le HSZ.out Z1.out) hnG.out).trans b12; have e11 : w2.cell? ⟨b, 1, none⟩ = some (.int .i64 N) := (n2.far (Nat.lt_of_lt_of_le HSZ.out Z1.out) hnG.out).trans b11; have e15 : w2.cell? ⟨b, 4, none⟩ = some (.int .u8 (z : Int)) := (n2.far (Nat.lt_of_lt_of_le HSZ.out Z1.out) hnG.out).trans b15; have BB := hide (both_second D1.out A1.out U1.out HBD.out.upG (Nat.le_trans HBD.out.base Z1.out) r2 n2); have K2 := hide (K1.out.trans (n2.below (Nat.le_trans HBD.out.base Z1.out) HBD.out.upG)); clear r2 n2))
  go_wp2_with fail
  go_ret
  exact ⟨rfl, F1, G2, _, BB.out, KB.out.trans K2.out⟩
set_option maxRecDepth 100000 in
set_option maxHeartbeats 6400000 in
theorem does_save (hs : s.size ≤ 1099511627776) (ps : List Nat) (hP : IsB w (.slice P m cp) ps) (hm : ps.length = m) (h8 : ∀ x ∈ ps, x < 256) (h3 : m ≤ 1000000) (hPo : ps ≠ [] → ∀ g, (Value.slice P m cp).ownBlock = some g → g < B) :
    Calls Try.prog 11 #[.pointer (some ⟨d, 0, none⟩), .pointer (some ⟨p, 0, none⟩), .agg #[.int .i64 1, .int .i64 N, .string s, .slice P m cp, .int .u8 y]] w fun e w' => e = .returned (.bool true) ∧ ∃ F' G' L', Both B w' F' G' d p room L' ∧ Below B w w' := by
  have HB := hide hB
  have HS := hide hs
  have HP := hide hP
  have HM := hide hm
  have H8 := hide h8
  have HPO := hide hPo
  clear hB hs hP hm h8 hPo
  obtain ⟨b, hb⟩ : ∃ b, b = w.heap.size := ⟨_, rfl⟩
  have bc := box_at w (.int .i64 1) (.int .i64 N) (.string s) (.slice P m cp) (.int .u8 y) b hb
  have kB := below_alloc w (.cells #[.int .i64 1, .int .i64 N, .string s, .slice P m cp, .int .u8 y] 35)
  go_enter Try.func11, Try.ntmps11
  go_wp2_with fail
  obtain ⟨W, hW⟩ : ∃ W, W = w.alloc (.cells #[.int .i64 1, .int .i64 N, .string s, .slice P m cp, .int .u8 y] 35) := ⟨_, rfl⟩
  have hsz : b < W.heap.size := by rw [hW, hb]; simp
  rw [← hW] at bc kB
  rw [← hW, ← hb]
  have KB := hide (kB.mono HB.out.base)
  have hnF : Hid (¬ F b) := hide (fun h => by have := HB.out.disk.low b h; omega)
  have hnG : Hid (¬ G b) := hide (fun h => by have := HB.out.ref.low b h; omega)
  have SA := hide HB.out.disk.sane
  have HPW := hide (HP.out.keep kB)
  have HBW := HB.out.below kB
  obtain ⟨c1, c2, c3⟩ := bc
  refine (roomyO_any P m cp ps W HPW.out HM.out h3).mono ?_
  rintro e w0 ⟨g0, cr, rfl, o0, l0, m0, k0⟩
  have e2 : w0.drew.cell? ⟨b, 2, none⟩ = some (.string s) := (k0.cell hsz).trans c2
  have e4 : w0.drew.cell? ⟨b, 3, none⟩ = some (.slice P m cp) := (k0.cell hsz).trans c3
  have kD := k0.trans (below_drew w0 |>.mono k0.size)
  have O0 := hide (show Own w0.drew W.heap.size (.slice (some ⟨g0, 0, none⟩) (m + 1) cr) (ps ++ [171]) from o0.keep (below_drew w0))
  have HBD := hide (HBW.below kD)
  have HPD := hide (HPW.out.keep kD)
  have HSZ : Hid (b < w0.drew.heap.size) := hide (Nat.lt_of_lt_of_le hsz k0.size)
  have LW := hide HBW.disk.low
  have LG := hide HBW.ref.low
  have BW := hide HBW.base
  have K0 := hide (KB.out.trans (kD.mono HBW.base))
  have hq0 : (0 : Int) ≤ (m : Int) := by omega
  have hq1 : (m : Int) ≤ (cr : Int) := by omega
  have hfr := O0.out.front m (by rw [List.length_append, HM.out]; simp)
  rw [List.take_left' HM.out] at hfr
  have OF := hide hfr
  have offF : Hid (Off F (.slice (some ⟨g0, 0, none⟩) m cr)) := hide (fun g hg hf => by
    have h1 := (hfr.lt g hg).1
    have h2 := LW.out g hf
    omega)
  clear kB hW hb hsz HBW o0 k0 kD c1 c2 c3 hfr
  go_wp2_with fail
  go_region_held3 (fun W' => W'.cell? ⟨b, 2, none⟩ = some (.string s) ∧ W'.cell? ⟨b, 3, none⟩ = some (.slice P m cp)) (go_keep)
    (first
      | (go_at_call 13; refine (save_any F d room L s (some ⟨g0, 0, none⟩) m cr ps w0.drew HBD.out.disk HS.out OF.out.isB HM.out H8.out (by omega)).mono ?_; rintro e w1 ⟨rfl, F1, d1, n1⟩; obtain ⟨r1, a1, u1, k1⟩ := HBD.out.first n1; have f2 : w1.cell? ⟨b, 2, none⟩ = some (.string s) := (n1.far HSZ.out hnF.out).trans e2; have f4 : w1.cell? ⟨b, 3, none⟩ = some (.slice P m cp) := (n1.far HSZ.out hnF.out).trans e4; have D1 := hide d1; have R1 := hide r1; have A1 := hide a1; have U1 := hide u1; have K1 := hide k1; have Z1 := hide n1.turn.size; have NF := hide n1.foot; have P1 := hide (HPD.out.turnE n1.turn (fun hne g hg hf => by have := HBD.out.upF g hf; have := HPO.out hne g hg; omega)); have O1 := hide (O0.out.turn n1.turn (fun g hg hf => by have := (O0.out.lt g hg).1; have := LW.out g hf; omega)); clear d1 r1 a1 u1 k1 n1)
      | (go_at_call 21; refine (rsave_any G p room L s P m cp ps w1 R1.out SA.out HS.out P1.out HM.out H8.out (by omega)).mono ?_; rintro e w2 ⟨rfl, G2, r2, n2⟩; have g2 : w2.cell? ⟨b, 2, none⟩ = some (.string s) := (n2.far (Nat.lt_of_lt_of_le HSZ.out Z1.out) hnG.out).trans f2; have g4 : w2.cell? ⟨b, 3, none⟩ = some (.slice P m cp) := (n2.far (Nat.lt_of_lt_of_le HSZ.out Z1.out) hnG.out).trans f4; have BB := hide (both_second D1.out A1.out U1.out HBD.out.upG (Nat.le_trans HBD.out.base Z1.out) r2 n2); have K2 := hide (K1.out.trans (n2.below (Nat.le_trans HBD.out.base Z1.out) HBD.out.upG)); have NG := hide n2.foot; have P2 := hide (P1.out.turnE n2.turn (fun hne g hg hf => by have := HBD.out.upG g hf; have := HPO.out hne g hg; omega)); have O2 := hide (O1.out.turn n2.turn (fun g hg hf => by have := (O1.out.lt g hg).1; have := LG.out g hf; omega)); clear r2 n2)
      | (go_at_call 22; refine (stands_any (some ⟨g0, 0, none⟩) cr P m cp ps w2 O2.out.isB P2.out HM.out h3 l0 m0).mono ?_; rintro e w3 ⟨rfl, d3, rfl⟩; have h2 : (w2.drewN d3).cell? ⟨b, 2, none⟩ = some (.string s) := g2; have h4 : (w2.drewN d3).cell? ⟨b, 3, none⟩ = some (.slice P m cp) := g4))
  go_wp2_with fail
  go_ret
  exact ⟨rfl, F1, G2, _, BB.out.drawn d3, K0.out.trans (below_drewN K2.out d3)⟩
end
end Go.Proofs.Ytmledochidefeaa
namespace Go.Proofs.Ytmledochidefeaa
open Go.RowKit Go.Maps
set_option maxRecDepth 100000 in
set_option maxHeartbeats 3200000 in
theorem does_append (B : Nat) (w : World) (F G : Nat → Prop) (d p room : Nat) (L : DiskL) (N y : Int) (s : ByteArray) (P : Option Addr) (m cp : Nat) (hB : Both B w F G d p room L) (K : Int) (hk : (K == 1) = false ∧ (K == 2) = false ∧ (K == 3) = false ∧ (K == 4) = false ∧ (K == 5) = false)
    (hs : s.size ≤ 1099511627776) (ps : List Nat) (hP : IsB w (.slice P m cp) ps) (hm : ps.length = m) (h8 : ∀ x ∈ ps, x < 256) (h3 : m ≤ 1000000) (hPo : ps ≠ [] → ∀ g, (Value.slice P m cp).ownBlock = some g → g < B) :
    Calls Try.prog 11 #[.pointer (some ⟨d, 0, none⟩), .pointer (some ⟨p, 0, none⟩), .agg #[.int .i64 K, .int .i64 N, .string s, .slice P m cp, .int .u8 y]] w fun e w' => e = .returned (.bool true) ∧ ∃ F' G' L', Both B w' F' G' d p room L' ∧ Below B w w' := by
  have HB := hide hB
  have HS := hide hs
  have HP := hide hP
  have HM := hide hm
  have H8 := hide h8
  have HPO := hide hPo
  obtain ⟨k1, k2, k3, k4, k5⟩ := hk
  clear hB hs hP hm h8 hPo
  go_enter Try.func11, Try.ntmps11
  go_wp2_with fail
  obtain ⟨b, hb⟩ : ∃ b, b = w.heap.size := ⟨_, rfl⟩
  have bc := box_cells w (.int .i64 K) (.int .i64 N) (.string s) (.slice P m cp) (.int .u8 y) b hb
  have kB := below_alloc w (.cells #[.int .i64 K, .int .i64 N, .string s, .slice P m cp, .int .u8 y] 35)
  obtain ⟨W, hW⟩ : ∃ W, W = w.alloc (.cells #[.int .i64 K, .int .i64 N, .string s, .slice P m cp, .int .u8 y] 35) := ⟨_, rfl⟩
  have hsz : b < W.heap.size := by rw [hW, hb]; simp
  rw [← hW] at bc kB
  rw [← hW, ← hb]
  have KB := hide ((kB.mono HB.out.base).trans ((below_drew W).mono (Nat.le_trans HB.out.base kB.size)))
  have HBD := hide ((HB.out.below kB).below (below_drew W))
  have HPD := hide ((HP.out.keep kB).keep (below_drew W))
  have hnF : Hid (¬ F b) := hide (fun h => by have := HB.out.disk.low b h; omega)
  have hnG : Hid (¬ G b) := hide (fun h => by have := HB.out.ref.low b h; omega)
  have HSZ := hide hsz
  have SA := hide HB.out.disk.sane
  obtain ⟨c1, c2, c3, c4⟩ := bc
  clear kB hW hb hsz
  go_region_held3 (fun W' => W'.cell? ⟨b, 2, none⟩ = some (.string s) ∧ W'.cell? ⟨b, 3, none⟩ = some (.slice P m cp)) (go_keep)
    (first
      | (go_at_call 29; refine (append_any F d room L s P m cp ps W.drew HBD.out.disk HS.out HPD.out HM.out H8.out (by omega)).mono ?_; rintro e w1 ⟨rfl, F1, d1, n1⟩; obtain ⟨r1, a1, u1, k1⟩ := HBD.out.first n1; have b12 : w1.cell? ⟨b, 2, none⟩ = some (.string s) := (n1.far HSZ.out hnF.out).trans c2; have b13 : w1.cell? ⟨b, 3, none⟩ = some (.slice P m cp) := (n1.far HSZ.out hnF.out).trans c3; have D1 := hide d1; have R1 := hide r1; have A1 := hide a1; have U1 := hide u1; have K1 := hide k1; have Z1 := hide n1.turn.size; have P1 := hide (HPD.out.turnE n1.turn (fun hne g hg hf => by have := HBD.out.upF g hf; have := HPO.out hne g hg; omega)); clear d1 r1 a1 u1 k1 n1)
      | (go_at_call 30; refine (rappend_at G p room L s w1 R1.out SA.out P m cp ps P1.out HM.out H8.out (fun hne g hg hf => by have := HBD.out.upG g hf; have := HPO.out hne g hg; omega) HS.out (by omega)).mono ?_; rintro e w2 ⟨rfl, G2, r2, n2⟩; have e12 : w2.cell? ⟨b, 2, none⟩ = some (.string s) := (n2.far (Nat.lt_of_lt_of_le HSZ.out Z1.out) hnG.out).trans b12; have e13 : w2.cell? ⟨b, 3, none⟩ = some (.slice P m cp) := (n2.far (Nat.lt_of_lt_of_le HSZ.out Z1.out) hnG.out).trans b13; have BB := hide (both_second D1.out A1.out U1.out HBD.out.upG (Nat.le_trans HBD.out.base Z1.out) r2 n2); have K2 := hide (K1.out.trans (n2.below (Nat.le_trans HBD.out.base Z1.out) HBD.out.upG)); clear r2 n2))
  go_wp2_with fail
  go_ret
  exact ⟨rfl, F1, G2, _, BB.out, KB.out.trans K2.out⟩
end Go.Proofs.Ytmledochidefeaa
namespace Go.Proofs.Ytmledochidefeaa
open Go.RowKit Go.Maps
theorem abs_names (X : List (Str × Fil)) : (absX X).map (·.1) = X.map (·.1) := by unfold absX mapK; rw [List.map_map]; rfl
theorem names_at (X : List (Str × Fil)) {k : Nat} (hk : k < X.length) : ((absX X).map (·.1)).getD k [] = X[k].1 := by
  rw [abs_names]
  simp [hk]
set_option maxRecDepth 100000 in
set_option maxHeartbeats 6400000 in
theorem stood_any (B : Nat) (w : World) (F G : Nat → Prop) (d p room : Nat) (L : DiskL) (hB : Both B w F G d p room L) :
    Calls Try.prog 12 #[.pointer (some ⟨d, 0, none⟩), .pointer (some ⟨p, 0, none⟩)] w fun e w' => e = .returned (.bool true) ∧ Below w.heap.size w w' := by
  have SA := hide hB.disk.sane
  have NM := hide hB.disk.facts.2.2.2.2.2
  have HB := hide hB
  clear hB
  obtain ⟨v0, X0, hX, hx0⟩ := HB.out.ref
  obtain ⟨M, hM⟩ : ∃ M, M = X0.length := ⟨_, rfl⟩
  have hM256 : M ≤ 256 := by rw [hM, ← absX_length, ← hX]; exact SA.out.few
  have hnl : (L.map (·.1)).length = M := by rw [hX, List.length_map, absX_length, hM]
  have hp0 : p < w.heap.size := hx0.low p hx0.own
  have HX := hide hX
  have HMM := hide hM
  have HNL := hide hnl
  have HR0 := hide hx0
  clear hX hM hnl hx0
  go_enter Try.func12, Try.ntmps12
  go_wp2_with fail
  refine (list_any F d room L w HB.out.disk).mono ?_
  rintro e w1 ⟨v1, rfl, o1, k1⟩
  obtain ⟨A1, c1, rfl, l1, m1, q1⟩ := o1.rows HNL.out
  have K1 := hide k1
  have R1 := hide (HR0.out.below k1)
  have Q1 := hide q1
  have LT1 := hide (fun g hg => (o1.lt g hg).2 : ∀ g, (Value.slice A1 M c1).ownBlock = some g → g < w1.heap.size)
  have B1 := hide (HB.out.below k1)
  have hp1 : p < w1.heap.size := Nat.lt_of_lt_of_le hp0 k1.size
  clear k1 o1 q1 hp0
  obtain ⟨A, c, e0, hlc, hc63, -, hcell⟩ := R1.out.form
  have c1' : w1.cell? ⟨p, 1, none⟩ = some (.slice A M c) := by rw [HMM.out, ← e0]; exact R1.out.cells.cell 1
  have HC := hide hcell
  have hlc : M ≤ c := by rw [HMM.out]; exact hlc
  have hMM : ((M : Int) != (M : Int)) = false := by simp
  clear e0 hcell
  go_wp2_with fail
  go_loopw [6] (fun i wr => ∃ k : Nat, k ≤ M ∧ i = .int .i64 (k : Int) ∧ Hid (Below w1.heap.size w1 wr)) (fun i _ => M - (intOf i).toNat)
  case atStart => exact ⟨0, Nat.zero_le _, rfl, hide (Below.refl _ _)⟩
  case round =>
    obtain ⟨k, hk, rfl, hbel⟩ := hrel
    by_cases hlt : k < M
    · have hkX : k < X0.length := by rw [← HMM.out]; exact hlt
      obtain ⟨g, rfl, _, hgl, q0, q1, _, _⟩ := HC.out k hkX
      obtain ⟨g1, rfl, n1⟩ := Q1.out k hlt
      have hnk : (L.map (·.1)).getD k [] = X0[k].1 := by rw [HX.out]; exact names_at X0 hkX
      rw [hnk] at n1
      have hoj := R1.out.each X0[k] (List.getElem_mem hkX)
      have hg0 := abs_at (HX.out ▸ SA.out.rise) hkX
      rw [← HX.out] at hg0
      have hnm := NM.out (X0[k].1, X0[k].2.2) (getK_mem hg0)
      obtain ⟨A', cc, e, hIB, h7, h8⟩ := hoj.1.isB.form rfl
      obtain ⟨nm, hnm2⟩ : ∃ nm, nm = X0[k].1 := ⟨_, rfl⟩
      obtain ⟨xs, hxs⟩ : ∃ xs, xs = X0[k].2.2.1 := ⟨_, rfl⟩
      obtain ⟨l, hl⟩ : ∃ l, l = X0[k].2.2.2 := ⟨_, rfl⟩
      have hpe : X0[k].2.2 = (xs, l) := by rw [hxs, hl]
      rw [hpe, ← hnm2] at hg0 hnm
      rw [e] at q1
      rw [← hnm2] at q0 n1
      rw [← hxs] at q1 hIB h7
      obtain ⟨s, hs, hs2⟩ := str_at nm
      rw [hs] at q0 n1
      rw [← hs2] at hg0 hnm
      have hxl := SA.out.len hg0
      obtain ⟨m, hm⟩ : ∃ m, m = xs.length := ⟨_, rfl⟩
      rw [← hm] at q1 hIB h7
      have hxl : m ≤ 1073741824 := by rw [hm]; exact hxl
      have hs64 : s.size ≤ 64 := hnm
      have hg1 : g1 < w1.heap.size := cell_lt n1
      have r0 := (hbel.out.cell (p := ⟨g1, k, none⟩) hg1).trans n1
      have HG := hide hg0
      have HIB := hide hIB
      have HMX := hide hm
      have Q0 := hide q0
      have QQ := hide q1
      have N1 := hide n1
      have C1 := hide c1'
      clear hoj hg0 hnm e hIB hnm2 hxs hl hpe hs hs2 q0 q1 n1 hm hnk c1'
      go_wp2_with fail
      refine (read_some F d room L s xs l wr (B1.out.below hbel.out).disk (by omega) HG.out).mono ?_
      rintro e w4 ⟨v4, rfl, o4, k4⟩
      obtain ⟨A4, c4, rfl, i4, l4, m4⟩ := o4.isB.form HMX.out.symm
      have K4 := hide (hbel.out.trans (k4.mono hbel.out.size))
      have I4 := hide i4
      have t0 := (K4.out.cell (p := ⟨p, 1, none⟩) hp1).trans C1.out
      have t1 := (K4.out.cell (p := ⟨g, k * 3, none⟩) hgl).trans Q0.out
      have t2 := (K4.out.cell (p := ⟨g, k * 3 + 1, none⟩) hgl).trans QQ.out
      have t3 := (K4.out.cell (p := ⟨g1, k, none⟩) hg1).trans N1.out
      have BI := hide (HIB.out.keep K4.out)
      clear k4 o4 i4 r0
      go_wp2_with fail
      go_quiet ((go_at_call 16; refine Calls.quiet_of (v := .bool true) ?_; refine (same_any A4 A' m m c4 cc xs xs _ (I4.out.keep (below_drewN (Below.refl _ _) _)).rd (BI.out.keep (below_drewN (Below.refl _ _) _)).rd HMX.out HMX.out (by omega) (by omega)).mono ?_; rintro e w' ⟨rfl, d9, rfl⟩; exact ⟨by rw [decide_eq_true (rfl : xs = xs)], d9, rfl⟩))
      have K5 := hide (below_drewN K4.out nq)
      clear t0 t1 t2 t3
      go_wp2_with fail
      go_roundw
      case rel => exact ⟨k + 1, by omega, by go_num, K5⟩
      case measure => simp [intOf]; omega
    · go_wp2_with fail
      go_ret
      exact ⟨rfl, below_step K1.out hbel.out⟩
end Go.Proofs.Ytmledochidefeaa
