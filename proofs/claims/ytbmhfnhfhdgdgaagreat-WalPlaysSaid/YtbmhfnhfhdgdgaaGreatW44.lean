/- The document's Append, whole. Condition: fewer than 2 to the 30 segments, entries and rows. -/
import Derived.Test.YtbmhfnhfhdgdgaaGreatW43
namespace Go.Proofs.YtbmhfnhfhdgdgaaGreat
open Go.RowKit Go.Maps
variable {w : World} {G Gd : Nat -> Prop} {L : DiskL} {s : ByteArray} {M : LogL} {room dp l : Nat}
set_option maxRecDepth 100000 in
theorem rlogadd_long (w : World) (l : Nat) (P : Option Addr) (m cp : Nat) (hmr : ¬ m <= 1048566) :
  Calls Tryz.prog 37 #[.pointer (some ⟨l, 0, none⟩), .slice P m cp] w fun e w' => e = .returned (.tuple #[.int .i64 0, .int .i64 5]) /\ ∃ d, w' = w.drewN d := by
 have hz2 : (1048566 : Int) < (m : Int) := by omega
 go_enter Tryz.func37, Tryz.ntmps37;go_wp2_with fail
 refine bodyPost_ret (v := .tuple #[.int .i64 0, .int .i64 5]) (by simp [results, Tryz.results37, go_sem]) rfl ?_;exact ⟨rfl, 0, rfl⟩
set_option maxRecDepth 100000 in
theorem rlogadd_full (w : World) (l nx : Nat) (P : Option Addr) (m cp : Nat) (hmr : m <= 1048566) (hnx : 99999999 <= nx) (c3 : w.cell? ⟨l, 3, none⟩ = some (.int .i64 (nx : Int))) :
  Calls Tryz.prog 37 #[.pointer (some ⟨l, 0, none⟩), .slice P m cp] w fun e w' => e = .returned (.tuple #[.int .i64 0, .int .i64 6]) /\ ∃ d, w' = w.drewN d := by
 have hz2 : (m : Int) <= 1048566 := by omega
 have hz3 : ((99999999 : Int) <= (nx : Int)) = True := eq_true (by omega);clear hnx hmr;go_enter Tryz.func37, Tryz.ntmps37;go_wp2_with fail
 refine bodyPost_ret (v := .tuple #[.int .i64 0, .int .i64 6]) (by simp [results, Tryz.results37, go_sem]) rfl ?_;exact ⟨rfl, 0, rfl⟩
theorem RBoth.drewN (h : RBoth w Gd G dp l room s M L) (d : Nat) : RBoth (w.drewN d) Gd G dp l room s M L := by
 have k : Below w.heap.size w (w.drewN d) := ⟨rfl, rfl, rfl, Nat.le_refl _, fun _ _ => rfl⟩;exact ⟨h.disk.below k, h.log.below k, h.apart, h.sane⟩
theorem rlogadd_any (w : World) (Gd G : Nat -> Prop) (dp l room : Nat) (s : ByteArray) (M : LogL) (L : DiskL) (P : Option Addr) (m cp : Nat) (p : List Nat) (h : RBoth w Gd G dp l room s M L) (hs : s.size <= 64)
  (hP : IsB w (.slice P m cp) p) (hm : p.length = m) (hb : ∀ x ∈ p, x < 256) (hPo : p ≠ [] -> ∀ g, (Value.slice P m cp).ownBlock = some g -> ¬ Gd g /\ ¬ G g)
  (hf : ∀ s ∈ M.segs, s.1 <= 1099511627776) (hsl : M.segs.length < 1073741824) (he : ∀ s ∈ M.segs, s.2.length <= 1073741824) (hdy : M.dirty.length <= 1073741824) :
  Calls Tryz.prog 37 #[.pointer (some ⟨l, 0, none⟩), .slice P m cp] w fun e w' => e = .returned (.tuple #[.int .i64 ((addL room s.data.toList p M L).2.1 : Int), .int .i64 ((addL room s.data.toList p M L).2.2 : Int)]) /\
   ∃ Gd' G', RBoth w' Gd' G' dp l room s (addL room s.data.toList p M L).1.1 (addL room s.data.toList p M L).1.2 /\ Turn (fun k => Gd k \/ G k) w w' /\ (∀ k, Gd' k -> Gd k \/ w.heap.size <= k) /\ (∀ k, G' k -> G k \/ w.heap.size <= k) := by
 have hid : ∀ d, Turn (fun k => Gd k \/ G k) w (w.drewN d) := fun d => ⟨rfl, rfl, rfl, Nat.le_refl _, fun _ _ _ => rfl⟩
 by_cases hmr : m <= 1048566
 ·by_cases hnx : 99999999 <= M.next
  ·have e : addL room s.data.toList p M L = ((M, L), 0, 6) := by unfold addL; rw [if_neg (by omega), if_pos hnx]
   rw [e];have c3 : w.cell? ⟨l, 3, none⟩ = some (.int .i64 (M.next : Int)) := by
    obtain ⟨E, vS, vD, X, _, hW⟩ := h.log;exact hW.cells.cell 3
   refine (rlogadd_full w l M.next P m cp hmr hnx c3).mono ?_;rintro e1 w1 ⟨rfl, d, rfl⟩;exact ⟨rfl, Gd, G, h.drewN d, hid d, fun _ => .inl, fun _ => .inl⟩
  ·have hnx2 : M.next < 99999999 := by omega
   rcases hl : M.segs.getLast? with _ | ⟨f, es⟩
   ·have hfr : freshL s.data.toList M L = true := by unfold freshL; rw [hl]
    have hwh : whereL s.data.toList M L = M.next := by unfold whereL; rw [if_pos hfr]
    have hn : M.segs = [] := List.getLast?_eq_none_iff.1 hl;by_cases ha : (appL room (nameL s.data.toList M.next) (recL M.next p) L).2 = 0
    ·have e : addL room s.data.toList p M L = ((⟨laidL (M.segs ++ [(M.next, [])]) p, M.next + 1, M.dirty ++ [M.next]⟩, (appL room (nameL s.data.toList M.next) (recL M.next p) L).1), M.next, 0) := by
      unfold addL;rw [if_neg (by omega), if_neg hnx, hwh, if_neg (by rw [ha]; exact fun h => h rfl), if_pos hfr]
     rw [e];exact rlogadd_none w Gd G dp l room s M L P m cp p h hs hP hm hb hmr hPo hn hnx2 hdy ha
    ·have e : addL room s.data.toList p M L = ((M, L), 0, (appL room (nameL s.data.toList M.next) (recL M.next p) L).2) := by
      unfold addL;rw [if_neg (by omega), if_neg hnx, hwh, if_pos ha]
     rw [e];refine (rlogadd_none_err w Gd G dp l room s M L P m cp p h hs hP hm hb hmr hPo hn hnx2 hdy _ rfl ha).mono ?_;rintro e1 w1 ⟨rfl, Gd', h1, h2, h3⟩;exact ⟨rfl, Gd', G, h1, h2, h3, fun _ => .inl⟩
   ·have hmem : (f, es) ∈ M.segs := List.mem_of_getLast? hl;by_cases hsz : sizeL (nameL s.data.toList f) L < 1024
    ·have hfr : freshL s.data.toList M L = false := by unfold freshL; rw [hl]; simp; exact hsz
     have hwh : whereL s.data.toList M L = f := by unfold whereL lastL; rw [if_neg (by rw [hfr]; decide), hl]; rfl
     by_cases ha : (appL room (nameL s.data.toList f) (recL M.next p) L).2 = 0
     ·have e : addL room s.data.toList p M L = ((⟨laidL M.segs p, M.next + 1, M.dirty ++ [f]⟩, (appL room (nameL s.data.toList f) (recL M.next p) L).1), M.next, 0) := by
       unfold addL;rw [if_neg (by omega), if_neg hnx, hwh, if_neg (by rw [ha]; exact fun h => h rfl), if_neg (by rw [hfr]; decide)]
      rw [e];exact rlogadd_more w Gd G dp l room s M L P m cp p f es h hs hP hm hb hmr hPo hl (hf _ hmem) hsz hnx2 (he _ hmem) hdy ha
     ·have e : addL room s.data.toList p M L = ((M, L), 0, (appL room (nameL s.data.toList f) (recL M.next p) L).2) := by
       unfold addL;rw [if_neg (by omega), if_neg hnx, hwh, if_pos ha]
      rw [e];refine (rlogadd_more_err w Gd G dp l room s M L P m cp p f es h hs hP hm hb hmr hPo hl (hf _ hmem) hsz hnx2 hdy _ rfl ha).mono ?_;rintro e1 w1 ⟨rfl, Gd', h1, h2, h3⟩;exact ⟨rfl, Gd', G, h1, h2, h3, fun _ => .inl⟩
    ·have hfr : freshL s.data.toList M L = true := by unfold freshL; rw [hl]; simp; omega
     have hwh : whereL s.data.toList M L = M.next := by unfold whereL; rw [if_pos hfr]
     by_cases ha : (appL room (nameL s.data.toList M.next) (recL M.next p) L).2 = 0
     ·have e : addL room s.data.toList p M L = ((⟨laidL (M.segs ++ [(M.next, [])]) p, M.next + 1, M.dirty ++ [M.next]⟩, (appL room (nameL s.data.toList M.next) (recL M.next p) L).1), M.next, 0) := by
       unfold addL;rw [if_neg (by omega), if_neg hnx, hwh, if_neg (by rw [ha]; exact fun h => h rfl), if_pos hfr]
      rw [e];exact rlogadd_big w Gd G dp l room s M L P m cp p f es h hs hP hm hb hmr hPo hl (hf _ hmem) hsz hsl hnx2 hdy ha
     ·have e : addL room s.data.toList p M L = ((M, L), 0, (appL room (nameL s.data.toList M.next) (recL M.next p) L).2) := by
       unfold addL;rw [if_neg (by omega), if_neg hnx, hwh, if_pos ha]
      rw [e];refine (rlogadd_big_err w Gd G dp l room s M L P m cp p f es h hs hP hm hb hmr hPo hl (hf _ hmem) hsz hsl hnx2 hdy _ rfl ha).mono ?_;rintro e1 w1 ⟨rfl, Gd', h1, h2, h3⟩;exact ⟨rfl, Gd', G, h1, h2, h3, fun _ => .inl⟩
 ·have e : addL room s.data.toList p M L = ((M, L), 0, 5) := by unfold addL; rw [if_pos (by omega)]
  rw [e];refine (rlogadd_long w l P m cp hmr).mono ?_;rintro e1 w1 ⟨rfl, d, rfl⟩;exact ⟨rfl, Gd, G, h.drewN d, hid d, fun _ => .inl, fun _ => .inl⟩
end Go.Proofs.YtbmhfnhfhdgdgaaGreat
