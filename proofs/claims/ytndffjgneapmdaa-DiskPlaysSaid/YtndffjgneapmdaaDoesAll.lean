/- The law's own 'does': a step in both disks. Condition: the step's texts are shorter than 2 to the 40; The law's own 'does': the steps that crash, read, append, in both disks. Condition: the step's texts are shorter than 2 to the 40, its bytes at most 1000000. -/
import Derived.Test.YtndffjgneapmdaaBothL
import Derived.Test.YtndffjgneapmdaaRoomy
import Derived.Deep.RegionHeld3
import Derived.Test.YtndffjgneapmdaaRoomyO
import Derived.Test.YtndffjgneapmdaaSpoilB
import Derived.Test.YtndffjgneapmdaaSpoilT
namespace Go.Proofs.Ytndffjgneapmdaa
open Go.RowKit Go.Maps
structure Both (B : Nat) (w : World) (F G : Nat → Prop) (d p room : Nat) (L : DiskL) : Prop where
  disk : DiskAt w F d room L
  ref : RAt w G p room L
  apart : ∀ k, F k → ¬ G k
  upF : ∀ k, F k → B ≤ k
  upG : ∀ k, G k → B ≤ k
  base : B ≤ w.heap.size
/-- Behind the program's call the document's disk stands as it was. -/
theorem Both.first {B : Nat} {w w1 : World} {F G F' : Nat → Prop} {d p room : Nat} {L : DiskL} (h : Both B w F G d p room L) (n : Next F w F' w1) :
    RAt w1 G p room L ∧ (∀ k, F' k → ¬ G k) ∧ (∀ k, F' k → B ≤ k) ∧ Below B w w1 := by
  refine ⟨h.ref.turn n.turn (fun g hg hf => h.apart g hf hg), fun k hk hg => ?_, n.up h.base h.upF, n.below h.base h.upF⟩
  rcases n.foot k hk with h1 | h1
  · exact h.apart k h1 hg
  · have := h.ref.low k hg
    omega
theorem both_second {B : Nat} {w1 w2 : World} {F' G G' : Nat → Prop} {d p room : Nat} {L' : DiskL} (hD : DiskAt w1 F' d room L') (ha : ∀ k, F' k → ¬ G k) (hF : ∀ k, F' k → B ≤ k) (hG : ∀ k, G k → B ≤ k) (hB : B ≤ w1.heap.size)
    (hR : RAt w2 G' p room L') (n : Next G w1 G' w2) : Both B w2 F' G' d p room L' := by
  refine ⟨hD.turn n.turn (fun g hf hg => ha g hf hg), hR, fun k hk hg => ?_, hF, n.up hB hG, Nat.le_trans hB n.turn.size⟩
  rcases n.foot k hg with h1 | h1
  · exact ha k hk h1
  · have := hD.low k hk
    omega
theorem Both.below {B : Nat} {w w1 : World} {F G : Nat → Prop} {d p room : Nat} {L : DiskL} (h : Both B w F G d p room L) (k : Below w.heap.size w w1) : Both B w1 F G d p room L :=
  ⟨h.disk.below k, h.ref.below k, h.apart, h.upF, h.upG, Nat.le_trans h.base k.size⟩
theorem Both.drawn {B : Nat} {w : World} {F G : Nat → Prop} {d p room : Nat} {L : DiskL} (h : Both B w F G d p room L) (n : Nat) : Both B (w.drewN n) F G d p room L :=
  h.below (below_drewN (Below.refl _ _) n)
/-- A cell that is none of a disk's stands behind a call of it. -/
theorem Next.far {F F' : Nat → Prop} {w w' : World} (n : Next F w F' w') {b i : Nat} (hb : b < w.heap.size) (hn : ¬ F b) : w'.cell? ⟨b, i, none⟩ = w.cell? ⟨b, i, none⟩ := by
  have := n.turn.block b hb hn
  unfold World.cell?
  simp only [this]
theorem below_drew (w : World) : Below w.heap.size w w.drew := ⟨rfl, rfl, rfl, Nat.le_refl _, fun _ _ => rfl⟩
theorem box_cells (w : World) (v0 v1 v2 v3 v4 v5 : Value) (b : Nat) (hb : b = w.heap.size) :
    (w.alloc (.cells #[v0, v1, v2, v3, v4, v5] 34)).drew.cell? ⟨b, 1, none⟩ = some v1 ∧ (w.alloc (.cells #[v0, v1, v2, v3, v4, v5] 34)).drew.cell? ⟨b, 2, none⟩ = some v2 ∧ (w.alloc (.cells #[v0, v1, v2, v3, v4, v5] 34)).drew.cell? ⟨b, 3, none⟩ = some v3 ∧ (w.alloc (.cells #[v0, v1, v2, v3, v4, v5] 34)).drew.cell? ⟨b, 4, none⟩ = some v4 ∧ (w.alloc (.cells #[v0, v1, v2, v3, v4, v5] 34)).drew.cell? ⟨b, 5, none⟩ = some v5 := by
  subst hb
  have h : ∀ i v, #[v0, v1, v2, v3, v4, v5][i]? = some v → (w.alloc (.cells #[v0, v1, v2, v3, v4, v5] 34)).drew.cell? ⟨w.heap.size, i, none⟩ = some v := fun i v hv => by
    rw [← hv]
    exact cell_of_row _ _ _ _ _ (0, 0) (heap_alloc_new w _)
  exact ⟨h 1 _ rfl, h 2 _ rfl, h 3 _ rfl, h 4 _ rfl, h 5 _ rfl⟩
section
variable (B : Nat) (w : World) (F G : Nat → Prop) (d p room : Nat) (L : DiskL) (N y : Int) (s t : ByteArray) (P : Option Addr) (m cp : Nat) (hB : Both B w F G d p room L) (hs : s.size ≤ 1099511627776)
include hB hs
set_option maxRecDepth 100000 in
set_option maxHeartbeats 3200000 in
theorem does_sync : Calls Try.prog 12 #[.pointer (some ⟨d, 0, none⟩), .pointer (some ⟨p, 0, none⟩), .agg #[.int .i64 3, .int .i64 N, .string s, .string t, .slice P m cp, .int .u8 y]] w fun e w' => e = .returned (.bool true) ∧ ∃ F' G' L', Both B w' F' G' d p room L' ∧ Below B w w' := by
  have HB := hide hB
  have HS := hide hs
  clear hB hs
  go_enter Try.func12, Try.ntmps12
  go_wp2_with fail
  obtain ⟨b, hb⟩ : ∃ b, b = w.heap.size := ⟨_, rfl⟩
  have bc := box_cells w (.int .i64 3) (.int .i64 N) (.string s) (.string t) (.slice P m cp) (.int .u8 y) b hb
  have kB := below_alloc w (.cells #[.int .i64 3, .int .i64 N, .string s, .string t, .slice P m cp, .int .u8 y] 34)
  obtain ⟨W, hW⟩ : ∃ W, W = w.alloc (.cells #[.int .i64 3, .int .i64 N, .string s, .string t, .slice P m cp, .int .u8 y] 34) := ⟨_, rfl⟩
  have hsz : b < W.heap.size := by rw [hW, hb]; simp
  rw [← hW] at bc kB
  rw [← hW, ← hb]
  have KB := hide ((kB.mono HB.out.base).trans ((below_drew W).mono (Nat.le_trans HB.out.base kB.size)))
  have HBD := hide ((HB.out.below kB).below (below_drew W))
  have hnF : Hid (¬ F b) := hide (fun h => by have := HB.out.disk.low b h; omega)
  have hnG : Hid (¬ G b) := hide (fun h => by have := HB.out.ref.low b h; omega)
  have HSZ := hide hsz
  have SA := hide HB.out.disk.sane
  obtain ⟨c1, c2, c3, c4, c5⟩ := bc
  clear kB hW hb hsz
  go_region_held3 (fun W' => W'.cell? ⟨b, 2, none⟩ = some (.string s)) (go_keep)
    (first
      | (go_at_call 15; refine (sync_any F d room L s W.drew HBD.out.disk HS.out).mono ?_; rintro e w1 ⟨rfl, F1, d1, n1⟩; obtain ⟨r1, a1, u1, k1⟩ := HBD.out.first n1; have b12 : w1.cell? ⟨b, 2, none⟩ = some (.string s) := (n1.far HSZ.out hnF.out).trans c2; have D1 := hide d1; have R1 := hide r1; have A1 := hide a1; have U1 := hide u1; have K1 := hide k1; have Z1 := hide n1.turn.size; clear d1 r1 a1 u1 k1 n1)
      | (go_at_call 29; refine (rsync_any G p room L s w1 R1.out SA.out).mono ?_; rintro e w2 ⟨rfl, G2, r2, n2⟩; have e12 : w2.cell? ⟨b, 2, none⟩ = some (.string s) := (n2.far (Nat.lt_of_lt_of_le HSZ.out Z1.out) hnG.out).trans b12; have BB := hide (both_second D1.out A1.out U1.out HBD.out.upG (Nat.le_trans HBD.out.base Z1.out) r2 n2); have K2 := hide (K1.out.trans (n2.below (Nat.le_trans HBD.out.base Z1.out) HBD.out.upG)); clear r2 n2))
  go_wp2_with fail
  go_ret
  exact ⟨rfl, F1, G2, _, BB.out, KB.out.trans K2.out⟩
set_option maxRecDepth 100000 in
set_option maxHeartbeats 3200000 in
theorem does_rename (ht : t.size ≤ 1099511627776) : Calls Try.prog 12 #[.pointer (some ⟨d, 0, none⟩), .pointer (some ⟨p, 0, none⟩), .agg #[.int .i64 4, .int .i64 N, .string s, .string t, .slice P m cp, .int .u8 y]] w fun e w' => e = .returned (.bool true) ∧ ∃ F' G' L', Both B w' F' G' d p room L' ∧ Below B w w' := by
  have HB := hide hB
  have HS := hide hs
  clear hB hs
  have HT := hide ht
  clear ht
  go_enter Try.func12, Try.ntmps12
  go_wp2_with fail
  obtain ⟨b, hb⟩ : ∃ b, b = w.heap.size := ⟨_, rfl⟩
  have bc := box_cells w (.int .i64 4) (.int .i64 N) (.string s) (.string t) (.slice P m cp) (.int .u8 y) b hb
  have kB := below_alloc w (.cells #[.int .i64 4, .int .i64 N, .string s, .string t, .slice P m cp, .int .u8 y] 34)
  obtain ⟨W, hW⟩ : ∃ W, W = w.alloc (.cells #[.int .i64 4, .int .i64 N, .string s, .string t, .slice P m cp, .int .u8 y] 34) := ⟨_, rfl⟩
  have hsz : b < W.heap.size := by rw [hW, hb]; simp
  rw [← hW] at bc kB
  rw [← hW, ← hb]
  have KB := hide ((kB.mono HB.out.base).trans ((below_drew W).mono (Nat.le_trans HB.out.base kB.size)))
  have HBD := hide ((HB.out.below kB).below (below_drew W))
  have hnF : Hid (¬ F b) := hide (fun h => by have := HB.out.disk.low b h; omega)
  have hnG : Hid (¬ G b) := hide (fun h => by have := HB.out.ref.low b h; omega)
  have HSZ := hide hsz
  have SA := hide HB.out.disk.sane
  obtain ⟨c1, c2, c3, c4, c5⟩ := bc
  clear kB hW hb hsz
  go_region_held3 (fun W' => W'.cell? ⟨b, 2, none⟩ = some (.string s) ∧ W'.cell? ⟨b, 3, none⟩ = some (.string t)) (go_keep)
    (first
      | (go_at_call 30; refine (rename_any F d room L s W.drew HBD.out.disk HS.out t HT.out).mono ?_; rintro e w1 ⟨rfl, F1, d1, n1⟩; obtain ⟨r1, a1, u1, k1⟩ := HBD.out.first n1; have b12 : w1.cell? ⟨b, 2, none⟩ = some (.string s) := (n1.far HSZ.out hnF.out).trans c2; have b13 : w1.cell? ⟨b, 3, none⟩ = some (.string t) := (n1.far HSZ.out hnF.out).trans c3; have D1 := hide d1; have R1 := hide r1; have A1 := hide a1; have U1 := hide u1; have K1 := hide k1; have Z1 := hide n1.turn.size; clear d1 r1 a1 u1 k1 n1)
      | (go_at_call 31; refine (rrename_at G p room L s w1 R1.out SA.out t HT.out).mono ?_; rintro e w2 ⟨rfl, G2, r2, n2⟩; have e12 : w2.cell? ⟨b, 2, none⟩ = some (.string s) := (n2.far (Nat.lt_of_lt_of_le HSZ.out Z1.out) hnG.out).trans b12; have e13 : w2.cell? ⟨b, 3, none⟩ = some (.string t) := (n2.far (Nat.lt_of_lt_of_le HSZ.out Z1.out) hnG.out).trans b13; have BB := hide (both_second D1.out A1.out U1.out HBD.out.upG (Nat.le_trans HBD.out.base Z1.out) r2 n2); have K2 := hide (K1.out.trans (n2.below (Nat.le_trans HBD.out.base Z1.out) HBD.out.upG)); clear r2 n2))
  go_wp2_with fail
  go_ret
  exact ⟨rfl, F1, G2, _, BB.out, KB.out.trans K2.out⟩
set_option maxRecDepth 100000 in
set_option maxHeartbeats 3200000 in
theorem does_remove : Calls Try.prog 12 #[.pointer (some ⟨d, 0, none⟩), .pointer (some ⟨p, 0, none⟩), .agg #[.int .i64 5, .int .i64 N, .string s, .string t, .slice P m cp, .int .u8 y]] w fun e w' => e = .returned (.bool true) ∧ ∃ F' G' L', Both B w' F' G' d p room L' ∧ Below B w w' := by
  have HB := hide hB
  have HS := hide hs
  clear hB hs
  go_enter Try.func12, Try.ntmps12
  go_wp2_with fail
  obtain ⟨b, hb⟩ : ∃ b, b = w.heap.size := ⟨_, rfl⟩
  have bc := box_cells w (.int .i64 5) (.int .i64 N) (.string s) (.string t) (.slice P m cp) (.int .u8 y) b hb
  have kB := below_alloc w (.cells #[.int .i64 5, .int .i64 N, .string s, .string t, .slice P m cp, .int .u8 y] 34)
  obtain ⟨W, hW⟩ : ∃ W, W = w.alloc (.cells #[.int .i64 5, .int .i64 N, .string s, .string t, .slice P m cp, .int .u8 y] 34) := ⟨_, rfl⟩
  have hsz : b < W.heap.size := by rw [hW, hb]; simp
  rw [← hW] at bc kB
  rw [← hW, ← hb]
  have KB := hide ((kB.mono HB.out.base).trans ((below_drew W).mono (Nat.le_trans HB.out.base kB.size)))
  have HBD := hide ((HB.out.below kB).below (below_drew W))
  have hnF : Hid (¬ F b) := hide (fun h => by have := HB.out.disk.low b h; omega)
  have hnG : Hid (¬ G b) := hide (fun h => by have := HB.out.ref.low b h; omega)
  have HSZ := hide hsz
  have SA := hide HB.out.disk.sane
  obtain ⟨c1, c2, c3, c4, c5⟩ := bc
  clear kB hW hb hsz
  go_region_held3 (fun W' => W'.cell? ⟨b, 2, none⟩ = some (.string s)) (go_keep)
    (first
      | (go_at_call 32; refine (remove_any F d room L s W.drew HBD.out.disk HS.out).mono ?_; rintro e w1 ⟨rfl, F1, d1, n1⟩; obtain ⟨r1, a1, u1, k1⟩ := HBD.out.first n1; have b12 : w1.cell? ⟨b, 2, none⟩ = some (.string s) := (n1.far HSZ.out hnF.out).trans c2; have D1 := hide d1; have R1 := hide r1; have A1 := hide a1; have U1 := hide u1; have K1 := hide k1; have Z1 := hide n1.turn.size; clear d1 r1 a1 u1 k1 n1)
      | (go_at_call 33; refine (rremove_at G p room L s w1 R1.out SA.out).mono ?_; rintro e w2 ⟨rfl, G2, r2, n2⟩; have e12 : w2.cell? ⟨b, 2, none⟩ = some (.string s) := (n2.far (Nat.lt_of_lt_of_le HSZ.out Z1.out) hnG.out).trans b12; have BB := hide (both_second D1.out A1.out U1.out HBD.out.upG (Nat.le_trans HBD.out.base Z1.out) r2 n2); have K2 := hide (K1.out.trans (n2.below (Nat.le_trans HBD.out.base Z1.out) HBD.out.upG)); clear r2 n2))
  go_wp2_with fail
  go_ret
  exact ⟨rfl, F1, G2, _, BB.out, KB.out.trans K2.out⟩
set_option maxRecDepth 100000 in
set_option maxHeartbeats 3200000 in
theorem does_cut : Calls Try.prog 12 #[.pointer (some ⟨d, 0, none⟩), .pointer (some ⟨p, 0, none⟩), .agg #[.int .i64 6, .int .i64 N, .string s, .string t, .slice P m cp, .int .u8 y]] w fun e w' => e = .returned (.bool true) ∧ ∃ F' G' L', Both B w' F' G' d p room L' ∧ Below B w w' := by
  have HB := hide hB
  have HS := hide hs
  clear hB hs
  go_enter Try.func12, Try.ntmps12
  go_wp2_with fail
  obtain ⟨b, hb⟩ : ∃ b, b = w.heap.size := ⟨_, rfl⟩
  have bc := box_cells w (.int .i64 6) (.int .i64 N) (.string s) (.string t) (.slice P m cp) (.int .u8 y) b hb
  have kB := below_alloc w (.cells #[.int .i64 6, .int .i64 N, .string s, .string t, .slice P m cp, .int .u8 y] 34)
  obtain ⟨W, hW⟩ : ∃ W, W = w.alloc (.cells #[.int .i64 6, .int .i64 N, .string s, .string t, .slice P m cp, .int .u8 y] 34) := ⟨_, rfl⟩
  have hsz : b < W.heap.size := by rw [hW, hb]; simp
  rw [← hW] at bc kB
  rw [← hW, ← hb]
  have KB := hide ((kB.mono HB.out.base).trans ((below_drew W).mono (Nat.le_trans HB.out.base kB.size)))
  have HBD := hide ((HB.out.below kB).below (below_drew W))
  have hnF : Hid (¬ F b) := hide (fun h => by have := HB.out.disk.low b h; omega)
  have hnG : Hid (¬ G b) := hide (fun h => by have := HB.out.ref.low b h; omega)
  have HSZ := hide hsz
  have SA := hide HB.out.disk.sane
  obtain ⟨c1, c2, c3, c4, c5⟩ := bc
  clear kB hW hb hsz
  go_region_held3 (fun W' => W'.cell? ⟨b, 2, none⟩ = some (.string s) ∧ W'.cell? ⟨b, 1, none⟩ = some (.int .i64 N)) (go_keep)
    (first
      | (go_at_call 34; refine (cutD_any F d room L s W.drew HBD.out.disk HS.out N).mono ?_; rintro e w1 ⟨rfl, F1, d1, n1⟩; obtain ⟨r1, a1, u1, k1⟩ := HBD.out.first n1; have b12 : w1.cell? ⟨b, 2, none⟩ = some (.string s) := (n1.far HSZ.out hnF.out).trans c2; have b11 : w1.cell? ⟨b, 1, none⟩ = some (.int .i64 N) := (n1.far HSZ.out hnF.out).trans c1; have D1 := hide d1; have R1 := hide r1; have A1 := hide a1; have U1 := hide u1; have K1 := hide k1; have Z1 := hide n1.turn.size; clear d1 r1 a1 u1 k1 n1)
      | (go_at_call 35; refine (rcut_any G p room L s w1 R1.out SA.out N).mono ?_; rintro e w2 ⟨rfl, G2, r2, n2⟩; have e12 : w2.cell? ⟨b, 2, none⟩ = some (.string s) := (n2.far (Nat.lt_of_lt_of_le HSZ.out Z1.out) hnG.out).trans b12; have e11 : w2.cell? ⟨b, 1, none⟩ = some (.int .i64 N) := (n2.far (Nat.lt_of_lt_of_le HSZ.out Z1.out) hnG.out).trans b11; have BB := hide (both_second D1.out A1.out U1.out HBD.out.upG (Nat.le_trans HBD.out.base Z1.out) r2 n2); have K2 := hide (K1.out.trans (n2.below (Nat.le_trans HBD.out.base Z1.out) HBD.out.upG)); clear r2 n2))
  go_wp2_with fail
  go_ret
  exact ⟨rfl, F1, G2, _, BB.out, KB.out.trans K2.out⟩
set_option maxRecDepth 100000 in
set_option maxHeartbeats 3200000 in
theorem does_rot (K : Int) (z : Nat) (hz : z < 256) (hk : (K == 1) = false ∧ (K == 2) = false ∧ (K == 3) = false ∧ (K == 4) = false ∧ (K == 5) = false ∧ (K == 6) = false ∧ (K == 7) = false) : Calls Try.prog 12 #[.pointer (some ⟨d, 0, none⟩), .pointer (some ⟨p, 0, none⟩), .agg #[.int .i64 K, .int .i64 N, .string s, .string t, .slice P m cp, .int .u8 (z : Int)]] w fun e w' => e = .returned (.bool true) ∧ ∃ F' G' L', Both B w' F' G' d p room L' ∧ Below B w w' := by
  have HB := hide hB
  have HS := hide hs
  clear hB hs
  have HZ := hide hz
  obtain ⟨k1, k2, k3, k4, k5, k6, k7⟩ := hk
  clear hz
  go_enter Try.func12, Try.ntmps12
  go_wp2_with fail
  obtain ⟨b, hb⟩ : ∃ b, b = w.heap.size := ⟨_, rfl⟩
  have bc := box_cells w (.int .i64 K) (.int .i64 N) (.string s) (.string t) (.slice P m cp) (.int .u8 (z : Int)) b hb
  have kB := below_alloc w (.cells #[.int .i64 K, .int .i64 N, .string s, .string t, .slice P m cp, .int .u8 (z : Int)] 34)
  obtain ⟨W, hW⟩ : ∃ W, W = w.alloc (.cells #[.int .i64 K, .int .i64 N, .string s, .string t, .slice P m cp, .int .u8 (z : Int)] 34) := ⟨_, rfl⟩
  have hsz : b < W.heap.size := by rw [hW, hb]; simp
  rw [← hW] at bc kB
  rw [← hW, ← hb]
  have KB := hide ((kB.mono HB.out.base).trans ((below_drew W).mono (Nat.le_trans HB.out.base kB.size)))
  have HBD := hide ((HB.out.below kB).below (below_drew W))
  have hnF : Hid (¬ F b) := hide (fun h => by have := HB.out.disk.low b h; omega)
  have hnG : Hid (¬ G b) := hide (fun h => by have := HB.out.ref.low b h; omega)
  have HSZ := hide hsz
  have SA := hide HB.out.disk.sane
  obtain ⟨c1, c2, c3, c4, c5⟩ := bc
  clear kB hW hb hsz
  go_region_held3 (fun W' => W'.cell? ⟨b, 2, none⟩ = some (.string s) ∧ W'.cell? ⟨b, 1, none⟩ = some (.int .i64 N) ∧ W'.cell? ⟨b, 5, none⟩ = some (.int .u8 (z : Int))) (go_keep)
    (first
      | (go_at_call 36; refine (rot_any F d room L s W.drew HBD.out.disk HS.out N z HZ.out).mono ?_; rintro e w1 ⟨rfl, F1, d1, n1⟩; obtain ⟨r1, a1, u1, k1⟩ := HBD.out.first n1; have b12 : w1.cell? ⟨b, 2, none⟩ = some (.string s) := (n1.far HSZ.out hnF.out).trans c2; have b11 : w1.cell? ⟨b, 1, none⟩ = some (.int .i64 N) := (n1.far HSZ.out hnF.out).trans c1; have b15 : w1.cell? ⟨b, 5, none⟩ = some (.int .u8 (z : Int)) := (n1.far HSZ.out hnF.out).trans c5; have D1 := hide d1; have R1 := hide r1; have A1 := hide a1; have U1 := hide u1; have K1 := hide k1; have Z1 := hide n1.turn.size; clear d1 r1 a1 u1 k1 n1)
      | (go_at_call 37; refine (rrot_any G p room L s w1 R1.out SA.out N z HZ.out).mono ?_; rintro e w2 ⟨rfl, G2, r2, n2⟩; have e12 : w2.cell? ⟨b, 2, none⟩ = some (.string s) := (n2.far (Nat.lt_of_lt_of_le HSZ.out Z1.out) hnG.out).trans b12; have e11 : w2.cell? ⟨b, 1, none⟩ = some (.int .i64 N) := (n2.far (Nat.lt_of_lt_of_le HSZ.out Z1.out) hnG.out).trans b11; have e15 : w2.cell? ⟨b, 5, none⟩ = some (.int .u8 (z : Int)) := (n2.far (Nat.lt_of_lt_of_le HSZ.out Z1.out) hnG.out).trans b15; have BB := hide (both_second D1.out A1.out U1.out HBD.out.upG (Nat.le_trans HBD.out.base Z1.out) r2 n2); have K2 := hide (K1.out.trans (n2.below (Nat.le_trans HBD.out.base Z1.out) HBD.out.upG)); clear r2 n2))
  go_wp2_with fail
  go_ret
  exact ⟨rfl, F1, G2, _, BB.out, KB.out.trans K2.out⟩
end
end Go.Proofs.Ytndffjgneapmdaa
namespace Go.Proofs.Ytndffjgneapmdaa
open Go.RowKit Go.Maps
theorem box_at (w : World) (v0 v1 v2 v3 v4 v5 : Value) (b : Nat) (hb : b = w.heap.size) :
    (w.alloc (.cells #[v0, v1, v2, v3, v4, v5] 34)).cell? ⟨b, 1, none⟩ = some v1 ∧ (w.alloc (.cells #[v0, v1, v2, v3, v4, v5] 34)).cell? ⟨b, 2, none⟩ = some v2 ∧ (w.alloc (.cells #[v0, v1, v2, v3, v4, v5] 34)).cell? ⟨b, 4, none⟩ = some v4 := by
  obtain ⟨h1, h2, _, h4, _⟩ := box_cells w v0 v1 v2 v3 v4 v5 b hb
  exact ⟨h1, h2, h4⟩
theorem readL_len {room : Nat} {L : DiskL} (h : Sane room L) (k : Str) : (readL k L).1.length ≤ 1073741824 := by
  unfold readL
  rcases hg : getK k L with _ | a
  · simp
  · exact (h.len hg : a.1.length ≤ 1073741824)
theorem Both.turn {S : Nat → Prop} {B : Nat} {w w1 : World} {F G : Nat → Prop} {d p room : Nat} {L : DiskL} (h : Both B w F G d p room L) (t : Turn S w w1) (hF : ∀ g, F g → ¬ S g) (hG : ∀ g, G g → ¬ S g) : Both B w1 F G d p room L :=
  ⟨h.disk.turn t hF, h.ref.turn t hG, h.apart, h.upF, h.upG, Nat.le_trans h.base t.size⟩
section
variable (B : Nat) (w : World) (F G : Nat → Prop) (d p room : Nat) (L : DiskL) (N y : Int) (s t : ByteArray) (P : Option Addr) (m cp : Nat) (hB : Both B w F G d p room L)
include hB
set_option maxRecDepth 100000 in
set_option maxHeartbeats 3200000 in
theorem does_crash : Calls Try.prog 12 #[.pointer (some ⟨d, 0, none⟩), .pointer (some ⟨p, 0, none⟩), .agg #[.int .i64 7, .int .i64 N, .string s, .string t, .slice P m cp, .int .u8 y]] w fun e w' => e = .returned (.bool true) ∧ ∃ F' G' L', Both B w' F' G' d p room L' ∧ Below B w w' := by
  have HB := hide hB
  clear hB
  obtain ⟨b, hb⟩ : ∃ b, b = w.heap.size := ⟨_, rfl⟩
  have bc := box_at w (.int .i64 7) (.int .i64 N) (.string s) (.string t) (.slice P m cp) (.int .u8 y) b hb
  have kB := below_alloc w (.cells #[.int .i64 7, .int .i64 N, .string s, .string t, .slice P m cp, .int .u8 y] 34)
  go_enter Try.func12, Try.ntmps12
  go_wp2_with fail
  obtain ⟨W, hW⟩ : ∃ W, W = w.alloc (.cells #[.int .i64 7, .int .i64 N, .string s, .string t, .slice P m cp, .int .u8 y] 34) := ⟨_, rfl⟩
  have hsz : b < W.heap.size := by rw [hW, hb]; simp
  rw [← hW] at bc kB
  rw [← hW, ← hb]
  have KB := hide (kB.mono HB.out.base)
  have HBD := hide (HB.out.below kB)
  have hnF : Hid (¬ F b) := hide (fun h => by have := HB.out.disk.low b h; omega)
  have hnG : Hid (¬ G b) := hide (fun h => by have := HB.out.ref.low b h; omega)
  have HSZ := hide hsz
  have SA := hide HB.out.disk.sane
  obtain ⟨c1, c2, c4⟩ := bc
  clear kB hW hb hsz
  refine (crash_any F d room L N W HBD.out.disk).mono ?_
  rintro e w1 ⟨rfl, F1, d1, n1⟩
  obtain ⟨r1, a1, u1, k1⟩ := HBD.out.first n1
  have b1 : w1.cell? ⟨b, 1, none⟩ = some (.int .i64 N) := (n1.far HSZ.out hnF.out).trans c1
  have D1 := hide d1
  have R1 := hide r1
  have A1 := hide a1
  have U1 := hide u1
  have K1 := hide k1
  have Z1 := hide n1.turn.size
  clear d1 r1 a1 u1 k1 n1 c1 c2 c4
  go_wp2_with fail
  refine (rcrash_at G p room L w1 R1.out SA.out N).mono ?_
  rintro e w2 ⟨rfl, G2, r2, n2⟩
  have BB := hide (both_second D1.out A1.out U1.out HBD.out.upG (Nat.le_trans HBD.out.base Z1.out) r2 n2)
  have K2 := hide (K1.out.trans (n2.below (Nat.le_trans HBD.out.base Z1.out) HBD.out.upG))
  clear r2 n2
  go_wp2_with fail
  go_ret
  exact ⟨rfl, F1, G2, _, BB.out, KB.out.trans K2.out⟩
set_option maxRecDepth 100000 in
set_option maxHeartbeats 3200000 in
theorem does_read (hs : s.size ≤ 1099511627776) : Calls Try.prog 12 #[.pointer (some ⟨d, 0, none⟩), .pointer (some ⟨p, 0, none⟩), .agg #[.int .i64 2, .int .i64 N, .string s, .string t, .slice P m cp, .int .u8 y]] w fun e w' => e = .returned (.bool true) ∧ ∃ F' G' L', Both B w' F' G' d p room L' ∧ Below B w w' := by
  have HB := hide hB
  have HS := hide hs
  clear hB hs
  obtain ⟨b, hb⟩ : ∃ b, b = w.heap.size := ⟨_, rfl⟩
  have bc := box_at w (.int .i64 2) (.int .i64 N) (.string s) (.string t) (.slice P m cp) (.int .u8 y) b hb
  have kB := below_alloc w (.cells #[.int .i64 2, .int .i64 N, .string s, .string t, .slice P m cp, .int .u8 y] 34)
  go_enter Try.func12, Try.ntmps12
  go_wp2_with fail
  obtain ⟨W, hW⟩ : ∃ W, W = w.alloc (.cells #[.int .i64 2, .int .i64 N, .string s, .string t, .slice P m cp, .int .u8 y] 34) := ⟨_, rfl⟩
  have hsz : b < W.heap.size := by rw [hW, hb]; simp
  rw [← hW] at bc kB
  rw [← hW, ← hb]
  have KB := hide (kB.mono HB.out.base)
  have HBD := hide (HB.out.below kB)
  have HSZ := hide hsz
  have SA := hide HB.out.disk.sane
  obtain ⟨c1, c2, c4⟩ := bc
  clear kB hW hb hsz
  have hlen := readL_len SA.out s.data.toList
  obtain ⟨xs, hxs⟩ : ∃ xs, xs = (readL s.data.toList L).1 := ⟨_, rfl⟩
  obtain ⟨er, her⟩ : ∃ er, er = (readL s.data.toList L).2 := ⟨_, rfl⟩
  rw [← hxs] at hlen
  have HXS := hide hxs
  have HER := hide her
  clear hxs her
  refine (read_any F d room L s W HBD.out.disk HS.out).mono ?_
  rintro e w1 ⟨v1, rfl, o1, k1⟩
  rw [← HXS.out] at o1
  rw [← HER.out]
  obtain ⟨n, hn⟩ : ∃ n, n = xs.length := ⟨_, rfl⟩
  rw [← hn] at hlen
  obtain ⟨A1, q1, rfl, i1, l1, m1⟩ := o1.isB.form hn.symm
  have b2 : w1.cell? ⟨b, 2, none⟩ = some (.string s) := (k1.cell HSZ.out).trans c2
  have HN := hide hn
  have O1 := hide o1
  have K1 := hide k1
  have B1 := hide (HBD.out.below k1)
  clear o1 i1 k1 hn c1 c2 c4
  go_wp2_with fail
  refine (rread_any G p room L s w1 B1.out.ref SA.out).mono ?_
  rintro e w2 ⟨v2, rfl, o2, k2⟩
  rw [← HXS.out] at o2
  rw [← HER.out]
  obtain ⟨A2, q2, rfl, i2, l2, m2⟩ := o2.isB.form HN.out.symm
  have O1' := hide (O1.out.keep k2)
  have I2 := hide i2
  have K2 := hide (K1.out.trans (k2.mono K1.out.size))
  clear o2 i2 k2 O1
  go_wp2_with fail
  refine (same_any A1 A2 n n q1 q2 xs xs w2 O1'.out.isB.rd I2.out.rd HN.out HN.out (by omega) (by omega)).mono ?_
  rintro e w3 ⟨rfl, d3, rfl⟩
  rw [decide_eq_true (rfl : xs = xs)]
  go_wp2_with fail
  refine (spoil_any A1 n q1 xs (w2.drewN d3) W.heap.size (O1'.out.drewN d3) HN.out.symm K2.out.size (by omega)).mono ?_
  rintro e w4 ⟨rfl, k4⟩
  have K4 := hide ((below_drewN K2.out d3).trans k4)
  clear k4
  go_wp2_with fail
  go_ret
  exact ⟨rfl, F, G, L, HBD.out.below K4.out, KB.out.trans (K4.out.mono HBD.out.base)⟩
set_option maxRecDepth 100000 in
set_option maxHeartbeats 6400000 in
theorem does_append (hs : s.size ≤ 1099511627776) (ps : List Nat) (hP : IsB w (.slice P m cp) ps) (hm : ps.length = m) (h8 : ∀ x ∈ ps, x < 256) (h3 : m ≤ 1000000) (hPo : ps ≠ [] → ∀ g, (Value.slice P m cp).ownBlock = some g → g < B) :
    Calls Try.prog 12 #[.pointer (some ⟨d, 0, none⟩), .pointer (some ⟨p, 0, none⟩), .agg #[.int .i64 1, .int .i64 N, .string s, .string t, .slice P m cp, .int .u8 y]] w fun e w' => e = .returned (.bool true) ∧ ∃ F' G' L', Both B w' F' G' d p room L' ∧ Below B w w' := by
  have HB := hide hB
  have HS := hide hs
  have HP := hide hP
  have HM := hide hm
  have H8 := hide h8
  have HPO := hide hPo
  clear hB hs hP hm h8 hPo
  obtain ⟨b, hb⟩ : ∃ b, b = w.heap.size := ⟨_, rfl⟩
  have bc := box_at w (.int .i64 1) (.int .i64 N) (.string s) (.string t) (.slice P m cp) (.int .u8 y) b hb
  have kB := below_alloc w (.cells #[.int .i64 1, .int .i64 N, .string s, .string t, .slice P m cp, .int .u8 y] 34)
  go_enter Try.func12, Try.ntmps12
  go_wp2_with fail
  obtain ⟨W, hW⟩ : ∃ W, W = w.alloc (.cells #[.int .i64 1, .int .i64 N, .string s, .string t, .slice P m cp, .int .u8 y] 34) := ⟨_, rfl⟩
  have hsz : b < W.heap.size := by rw [hW, hb]; simp
  rw [← hW] at bc kB
  rw [← hW, ← hb]
  have KB := hide (kB.mono HB.out.base)
  have hnF : Hid (¬ F b) := hide (fun h => by have := HB.out.disk.low b h; omega)
  have hnG : Hid (¬ G b) := hide (fun h => by have := HB.out.ref.low b h; omega)
  have SA := hide HB.out.disk.sane
  have HPW := hide (HP.out.keep kB)
  have HBW := HB.out.below kB
  obtain ⟨c1, c2, c4⟩ := bc
  refine (roomyO_any P m cp ps W HPW.out HM.out h3).mono ?_
  rintro e w0 ⟨g0, cr, rfl, o0, l0, m0, k0⟩
  have e2 : w0.drew.cell? ⟨b, 2, none⟩ = some (.string s) := (k0.cell hsz).trans c2
  have e4 : w0.drew.cell? ⟨b, 4, none⟩ = some (.slice P m cp) := (k0.cell hsz).trans c4
  have kD := k0.trans (below_drew w0 |>.mono k0.size)
  have O0 := hide (show Own w0.drew W.heap.size (.slice (some ⟨g0, 0, none⟩) (m + 1) cr) (ps ++ [171]) from o0.keep (below_drew w0))
  have HBD := hide (HBW.below kD)
  have HPD := hide (HPW.out.keep kD)
  have HSZ : Hid (b < w0.drew.heap.size) := hide (Nat.lt_of_lt_of_le hsz k0.size)
  have LW := hide HBW.disk.low
  have LG := hide HBW.ref.low
  have BW := hide HBW.base
  have K0 := hide (KB.out.trans (kD.mono HBW.base))
  have hq0 : (0 : Int) ≤ (m : Int) := by omega
  have hq1 : (m : Int) ≤ (cr : Int) := by omega
  have hfr := O0.out.front m (by rw [List.length_append, HM.out]; simp)
  rw [List.take_left' HM.out] at hfr
  have OF := hide hfr
  have offF : Hid (Off F (.slice (some ⟨g0, 0, none⟩) m cr)) := hide (fun g hg hf => by
    have h1 := (hfr.lt g hg).1
    have h2 := LW.out g hf
    omega)
  clear kB hW hb hsz HBW o0 k0 kD c1 c2 c4 hfr
  go_wp2_with fail
  go_region_held3 (fun W' => W'.cell? ⟨b, 2, none⟩ = some (.string s) ∧ W'.cell? ⟨b, 4, none⟩ = some (.slice P m cp)) (go_keep)
    (first
      | (go_at_call 10; refine (append_any F d room L s (some ⟨g0, 0, none⟩) m cr ps w0.drew HBD.out.disk HS.out OF.out.isB HM.out H8.out (by omega)).mono ?_; rintro e w1 ⟨rfl, F1, d1, n1⟩; obtain ⟨r1, a1, u1, k1⟩ := HBD.out.first n1; have f2 : w1.cell? ⟨b, 2, none⟩ = some (.string s) := (n1.far HSZ.out hnF.out).trans e2; have f4 : w1.cell? ⟨b, 4, none⟩ = some (.slice P m cp) := (n1.far HSZ.out hnF.out).trans e4; have D1 := hide d1; have R1 := hide r1; have A1 := hide a1; have U1 := hide u1; have K1 := hide k1; have Z1 := hide n1.turn.size; have NF := hide n1.foot; have P1 := hide (HPD.out.turnE n1.turn (fun hne g hg hf => by have := HBD.out.upF g hf; have := HPO.out hne g hg; omega)); have O1 := hide (O0.out.turn n1.turn (fun g hg hf => by have := (O0.out.lt g hg).1; have := LW.out g hf; omega)); clear d1 r1 a1 u1 k1 n1)
      | (go_at_call 25; refine (rappend_at G p room L s w1 R1.out SA.out P m cp ps P1.out HM.out H8.out (fun hne g hg hf => by have := HBD.out.upG g hf; have := HPO.out hne g hg; omega) HS.out (by omega)).mono ?_; rintro e w2 ⟨rfl, G2, r2, n2⟩; have g2 : w2.cell? ⟨b, 2, none⟩ = some (.string s) := (n2.far (Nat.lt_of_lt_of_le HSZ.out Z1.out) hnG.out).trans f2; have g4 : w2.cell? ⟨b, 4, none⟩ = some (.slice P m cp) := (n2.far (Nat.lt_of_lt_of_le HSZ.out Z1.out) hnG.out).trans f4; have BB := hide (both_second D1.out A1.out U1.out HBD.out.upG (Nat.le_trans HBD.out.base Z1.out) r2 n2); have K2 := hide (K1.out.trans (n2.below (Nat.le_trans HBD.out.base Z1.out) HBD.out.upG)); have NG := hide n2.foot; have P2 := hide (P1.out.turnE n2.turn (fun hne g hg hf => by have := HBD.out.upG g hf; have := HPO.out hne g hg; omega)); have O2 := hide (O1.out.turn n2.turn (fun g hg hf => by have := (O1.out.lt g hg).1; have := LG.out g hf; omega)); clear r2 n2)
      | (go_at_call 26; refine (stands_any (some ⟨g0, 0, none⟩) cr P m cp ps w2 O2.out.isB P2.out HM.out h3 l0 m0).mono ?_; rintro e w3 ⟨rfl, d3, rfl⟩; have h2 : (w2.drewN d3).cell? ⟨b, 2, none⟩ = some (.string s) := g2; have h4 : (w2.drewN d3).cell? ⟨b, 4, none⟩ = some (.slice P m cp) := g4))
  have hg0 := O0.out.lt g0 rfl
  have notF : ∀ k, F1 k → ¬ (Value.slice (some ⟨g0, 0, none⟩) (m + 1) cr).ownBlock = some k := fun k hk e => by
    have e : g0 = k := Option.some.inj e
    rcases NF.out k hk with h | h
    · have := LW.out k h; omega
    · omega
  have notG : ∀ k, G2 k → ¬ (Value.slice (some ⟨g0, 0, none⟩) (m + 1) cr).ownBlock = some k := fun k hk e => by
    have e : g0 = k := Option.some.inj e
    have := Z1.out
    rcases NG.out k hk with h | h
    · have := LG.out k h; omega
    · omega
  have NOF := hide notF
  have NOG := hide notG
  have O3 := hide ((O2.out.more (Nat.zero_le _)).drewN d3)
  have G0 := hide hg0
  clear notF notG hg0
  go_wp2_with fail
  refine (spoilT_any (some ⟨g0, 0, none⟩) (m + 1) cr (ps ++ [171]) (w2.drewN d3) O3.out (by rw [List.length_append, HM.out]; rfl) (by omega)).mono ?_
  rintro e w4 ⟨rfl, t4⟩
  have B4 := hide ((BB.out.drawn d3).turn t4 NOF.out NOG.out)
  have K4 := hide (K0.out.trans ((below_drewN K2.out d3).trans (t4.below (show B ≤ w2.heap.size from BB.out.base) (fun k e => by
    have e : g0 = k := Option.some.inj e
    have h1 := G0.out.1
    have h2 := BW.out
    omega))))
  clear t4
  go_wp2_with fail
  go_ret
  exact ⟨rfl, F1, G2, _, B4.out, K4.out⟩
end
end Go.Proofs.Ytndffjgneapmdaa
