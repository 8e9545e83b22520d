/- The contracts of the reader of numbers with an error that stays. Condition: the reader and what is left lie in blocks of the call's own. -/
import Derived.Test.YtjchpnmipmplkaaMsg
import Derived.Test.YtjchpnmipmplkaaPiece
namespace Go.Proofs.Ytjchpnmipmplkaa
open Go.RowKit
/-- The reader at block g: what is left, or that an error was met. -/
def RS (w : World) (B g : Nat) (st : Option (List Nat)) : Prop :=
  ∃ V e, Blk w B 55 g [V, .int .i64 e] ∧ (match st with | none => e = 3 | some xs => e = 0 ∧ Piece w B V xs ∧ (∀ x ∈ xs, x < 256) ∧ xs.length ≤ 1048576)
theorem RS.apart {w w' : World} {B B' g h : Nat} {st : Option (List Nat)} {e : TypeId} {cs : List Value} (hR : RS w B g st) (hr : Blk w B' e h cs) (h1 : e ≠ 5) (h2 : e ≠ 55) (hg : w.grownBy w' (some h)) : RS w' B g st := by
  obtain ⟨V, er, hb, hm⟩ := hR
  refine ⟨V, er, hb.kept hg (fun e => hr.ne hb h2 (by simpa using e)), ?_⟩
  rcases st with _ | xs
  · exact hm
  · exact ⟨hm.1, hm.2.1.apart hr h1 hg, hm.2.2⟩
theorem RS.keep {w w' : World} {B g : Nat} {st : Option (List Nat)} (hR : RS w B g st) (hb : Below w.heap.size w w') : RS w' B g st := by
  obtain ⟨V, er, hB, hm⟩ := hR
  refine ⟨V, er, hB.keep hb, ?_⟩
  rcases st with _ | xs
  · exact hm
  · exact ⟨hm.1, hm.2.1.keep hb, hm.2.2⟩
theorem RS.blk {w : World} {B g : Nat} {st : Option (List Nat)} (hR : RS w B g st) : ∃ cs, Blk w B 55 g cs := by
  obtain ⟨V, er, hB, _⟩ := hR
  exact ⟨_, hB⟩
/-- An error is set: it stays. -/
theorem RS.fail {w : World} {B g : Nat} {st : Option (List Nat)} (hR : RS w B g st) : RS (w.setCell ⟨g, 1, none⟩ (.int .i64 3)) B g none := by
  obtain ⟨V, er, hB, _⟩ := hR
  exact ⟨V, 3, hB.stored 1 _, rfl⟩
theorem RS.drewN {w : World} {B g : Nat} {st : Option (List Nat)} (hR : RS w B g st) (d : Nat) : RS (w.drewN d) B g st := hR
set_option maxHeartbeats 800000 in
theorem number_any (B g : Nat) (st : Option (List Nat)) (w : World) (h : RS w B g st) :
    Calls Try.prog 46 #[.pointer (some ⟨g, 0, none⟩)] w fun e w' => e = .returned (.int .u64 ((rnum st).1 : Nat)) ∧ RS w' B g (rnum st).2 ∧ w.grownBy w' (some g) := by
  have HR := hide h
  obtain ⟨V, er, hB, hm⟩ := h
  have c0 : w.cell? ⟨g, 0, none⟩ = some V := hB.cell 0
  have c1 : w.cell? ⟨g, 1, none⟩ = some (.int .i64 er) := hB.cell 1
  have f0 := hB.frozen 0
  have f1 := hB.frozen 1
  rcases st with _ | xs
  · obtain rfl : er = 3 := hm
    rw [rnum_none]
    clear hB c0 f0 f1
    go_enter Try.func46, Try.ntmps46
    go_wp2_with fail
    go_ret
    exact ⟨rfl, HR.out, World.grownBy.refl _ _⟩
  · obtain ⟨rfl, hp, hby, hlen⟩ := hm
    obtain ⟨A, c, hV, hi, hnc, hc63⟩ := hp.isB.form (n := xs.length) rfl
    subst hV
    obtain ⟨n, hn⟩ : ∃ n, n = xs.length := ⟨_, rfl⟩
    rw [← hn] at hp hi hnc c0 hB hlen
    obtain ⟨v, k, er, hr⟩ : ∃ v k er, rvl 0 0 xs = (v, k, er) := ⟨_, _, _, rfl⟩
    have hread := read_any A n c xs w hi.rd hn hby (by omega)
    rw [hr] at hread
    have hle := rvl_le xs 0 0 (by decide) (by decide)
    rw [hr] at hle
    obtain ⟨hv64, hk10, he3⟩ := hle
    simp only at hv64 hk10 he3
    have HREAD := hide hread
    have HP := hide hp
    have HB := hide hB
    have HBY := hide hby
    have HN := hide hn
    by_cases he : er = 0
    · subst he
      have hnum : numL xs = some (v, xs.drop k) := by unfold numL; rw [hr]; rfl
      rw [rnum_ok hnum]
      obtain ⟨u, hvu, _, hx, hku⟩ := rvl_inv xs 0 0 v k hby (by decide) hr
      have hk1 : 1 ≤ k := by
        have : (uvl u).length ≠ 0 := by
          by_cases h0 : u < 128
          · rw [uvl_low h0]; simp
          · rw [uvl_high h0]; simp
        omega
      have hkn : k ≤ n := by
        have e := congrArg List.length hx
        rw [List.length_append, List.length_drop] at e
        omega
      obtain ⟨b, off, rfl⟩ := hi.at_ (by omega)
      have ht := hp.tail k hkn
      have hlt : (xs.drop k).length ≤ 1048576 := by rw [List.length_drop]; omega
      have hbt : ∀ x ∈ xs.drop k, x < 256 := fun x hx => hby x (List.mem_of_mem_drop hx)
      have HX := hide (And.intro hbt hlt)
      have kn2 : (k : Int) ≤ (n : Int) := by omega
      by_cases hck : c = k
      · rw [if_pos hck] at ht
        subst hck
        have hs1 := hB.stored 0 (.slice (some ⟨b, off, none⟩) (n - c) (c - c))
        have hs2 := ht.apart hB (by decide) (grown_set w g 0 (.slice (some ⟨b, off, none⟩) (n - c) (c - c)))
        have e0 : c - c = 0 := by omega
        have e1 : n - c = 0 := by omega
        rw [e0, e1] at hs1 hs2
        have RS2 : Hid (RS (w.setCell ⟨g, 0, none⟩ (.slice (some ⟨b, off, none⟩) 0 0)) B g (some (xs.drop c))) := ⟨_, 0, hs1, rfl, hs2, HX.out⟩
        clear hs1 hs2 ht hread hp hB hby hn hr hnum hx hku hvu hbt hlt hi e0 e1
        go_enter Try.func46, Try.ntmps46
        go_wp2_with fail
        refine HREAD.out.mono ?_
        rintro e w1 ⟨rfl, rfl⟩
        go_wp2_with fail
        go_ret
        exact ⟨rfl, RS2.out, grown_set _ _ _ _⟩
      · rw [if_neg hck] at ht
        have hs1 := hB.stored 0 (.slice (some ⟨b, off + k, none⟩) (n - k) (c - k))
        have hs2 := ht.apart hB (by decide) (grown_set w g 0 (.slice (some ⟨b, off + k, none⟩) (n - k) (c - k)))
        have RS2 : Hid (RS (w.setCell ⟨g, 0, none⟩ (.slice (some ⟨b, off + k, none⟩) (n - k) (c - k))) B g (some (xs.drop k))) := ⟨_, 0, hs1, rfl, hs2, HX.out⟩
        clear hs1 hs2 ht hread hp hB hby hn hr hnum hx hku hvu hbt hlt hi
        go_enter Try.func46, Try.ntmps46
        go_wp2_with fail
        refine HREAD.out.mono ?_
        rintro e w1 ⟨rfl, rfl⟩
        go_wp2_with fail
        go_ret
        exact ⟨rfl, RS2.out, grown_set _ _ _ _⟩
    · have hnum : numL xs = none := by unfold numL; rw [hr]; exact if_neg he
      rw [rnum_bad hnum]
      have hne : ((er : Int) != 0) = true := by simp; omega
      clear hread hp hB hby hn hr hnum hi he
      go_enter Try.func46, Try.ntmps46
      go_wp2_with fail
      refine HREAD.out.mono ?_
      rintro e w1 ⟨rfl, rfl⟩
      go_wp2_with fail
      go_ret
      exact ⟨rfl, HR.out.fail, grown_set _ _ _ _⟩
end Go.Proofs.Ytjchpnmipmplkaa
