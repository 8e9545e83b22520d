/- The contract of the disk's Crash. No condition. What each call does to a disk, as lists; the program's calls by it. No condition but the widths. The contract of -/
import Derived.Test.YtbmhfnhfhdgdgaaVn26
import Derived.Deep.CutRange
namespace Go.Proofs.Ytbmhfnhfhdgdgaa
open Go.RowKit Go.Maps Go.Sort
variable {w w' : World} {B : Nat}
theorem OwnS.form {v : Value} {ks : List Str} (h : OwnS w B v ks) : ∃ A c, v = .slice A ks.length c /\ ks.length <= c /\ c <= 9223372036854775807 /\ ∀ i, i < ks.length -> ∃ g, A = some ⟨g, 0, none⟩ /\ B <= g /\ g < w.heap.size /\ w.cell? ⟨g, i, none⟩ = some (encStr (ks.getD i [])) := by
 unfold OwnS at h;rcases h.2 with ⟨rfl, hn⟩ | ⟨g, cap, cur, rfl, hb, hg, h1, h2, _⟩
 ·exact ⟨none, 0, by rw [hn], by omega, by decide, fun i hi => by omega⟩
 ·refine ⟨_, cap, rfl, h1, by unfold maxLen at h2; omega, fun i hi => ⟨g, rfl, hb, heap_lt hg, ?_⟩⟩;rw [World.ownsRow.cellAt h i (by omega)];simp [hi]
theorem OwnS.turn {S : Nat -> Prop} {v : Value} {ks : List Str} (h : OwnS w B v ks) (t : Turn S w w') (ho : Off S v) : OwnS w' B v ks := by
 unfold OwnS at h ⊢;refine ⟨h.1, ?_⟩;rcases h.2 with hn | ⟨g, cap, cur, hv, h1, h2, r⟩
 ·exact .inl hn
 ·refine .inr ⟨g, cap, cur, hv, h1, ?_, r⟩;rw [t.block g (heap_lt h2) (ho g (by rw [hv]; rfl))];exact h2
theorem OwnS.lt {v : Value} {ks : List Str} (h : OwnS w B v ks) : ∀ g, v.ownBlock = some g -> B <= g /\ g < w.heap.size := World.ownsRow.lt h
end Go.Proofs.Ytbmhfnhfhdgdgaa
namespace Go.Proofs.Ytbmhfnhfhdgdgaa
open Go.RowKit Go.Maps
section
variable (F : Nat -> Prop) (d room : Nat) (L : DiskL) (s : ByteArray) (w : World) (hD : DiskAt w F d room L) (hs : s.size <= 1099511627776)
include hD hs
theorem sync_any : Calls Try.prog 46 #[.pointer (some ⟨d, 0, none⟩), .string s] w fun e w' => e = .returned (.int .i64 ((syncL s.data.toList L).2 : Nat)) /\ ∃ F', DiskAt w' F' d room (syncL s.data.toList L).1 /\ Next F w F' w' := by
 unfold syncL;rcases hg : getK s.data.toList L with _ | ⟨xs, l⟩
 ·refine (sync_none F d room L s w hD hs hg).mono ?_;rintro e w' ⟨rfl, k⟩;exact ⟨rfl, F, hD.below k, Next.of_below F k⟩
 ·exact sync_some F d room L s xs l w hD hs hg
theorem read_any : Calls Try.prog 33 #[.pointer (some ⟨d, 0, none⟩), .string s] w fun e w' => ∃ v, e = .returned (.tuple #[v, .int .i64 ((readL s.data.toList L).2 : Nat)]) /\ Own w' w.heap.size v (readL s.data.toList L).1 /\ Below w.heap.size w w' := by
 unfold readL;rcases hg : getK s.data.toList L with _ | ⟨xs, l⟩
 ·refine (read_none F d room L s w hD hs hg).mono ?_;rintro e w' ⟨rfl, k⟩;exact ⟨_, rfl, World.ownsRow_nil _ _ _ _, k⟩
 ·exact read_some F d room L s xs l w hD hs hg
end
def layL (room : Nat) (k : Str) (p : List Nat) (L : DiskL) : DiskL × Nat := if (appL room k p L).2 ≠ 0 then appL room k p L else syncL k (appL room k p L).1
theorem vlay_any (F : Nat -> Prop) (d room : Nat) (L : DiskL) (s : ByteArray) (P : Option Addr) (m cp : Nat) (p : List Nat) (w : World) (hD : DiskAt w F d room L) (hs : s.size <= 1099511627776) (hP : IsB w (.slice P m cp) p) (hm : p.length = m) (hb : ∀ x ∈ p, x < 256) (hmr : m <= 1099511627776) :
  Calls Try.prog 24 #[.pointer (some ⟨d, 0, none⟩), .string s, .slice P m cp] w fun e w' => e = .returned (.int .i64 ((layL room s.data.toList p L).2 : Nat)) /\ ∃ F', DiskAt w' F' d room (layL room s.data.toList p L).1 /\ Next F w F' w' := by
 have HA := hide (append_any F d room L s P m cp p w hD hs hP hm hb hmr);have HS := hide hs;obtain ⟨c, hc⟩ : ∃ c, c = (appL room s.data.toList p L).2 := ⟨_, rfl⟩;obtain ⟨L1, hL1⟩ : ∃ L1, L1 = (appL room s.data.toList p L).1 := ⟨_, rfl⟩;rw [<- hc, <- hL1] at HA;have HL : Hid (layL room s.data.toList p L = if c ≠ 0 then (L1, c) else syncL s.data.toList L1) := hide (by unfold layL; rw [<- hc, <- hL1, show appL room s.data.toList p L = (L1, c) by rw [hL1, hc]]);clear hD hs hP hm hb hmr hc hL1;go_enter Try.func24, Try.ntmps24;go_wp2_with fail
 refine HA.out.mono ?_;rintro e w1 ⟨rfl, F1, d1, n1⟩;by_cases h0 : c = 0
 ·subst h0;have HD := hide d1;have HN := hide n1;clear d1 n1 HA;go_wp2_with fail
  refine (sync_any F1 d room L1 s w1 HD.out HS.out).mono ?_;rintro e w2 ⟨rfl, F2, d2, n2⟩;have H2 := hide d2;have N2 := hide n2;clear d2 n2;go_wp2_with fail
  go_ret;rw [HL.out];exact ⟨rfl, F2, H2.out, HN.out.trans N2.out⟩
 ·have hc0 : ((c : Int) != 0) = true := by simp; omega
  have HD := hide d1;have HN := hide n1;have HC := hide h0;clear d1 n1 HA h0;go_wp2_with fail
  go_ret;rw [HL.out, if_pos HC.out];exact ⟨rfl, F1, HD.out, HN.out⟩
end Go.Proofs.Ytbmhfnhfhdgdgaa
