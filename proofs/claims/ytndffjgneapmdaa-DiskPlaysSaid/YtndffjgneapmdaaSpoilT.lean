/- The contract of the law's own 'spoil': bytes of the call's own are written over and grown; nothing else is turned. Condition: there are fewer than 2 to the 40 bytes. -/
import Derived.Test.YtndffjgneapmdaaTurn
import Derived.Test.YtndffjgneapmdaaOwnAt
import Derived.Maps.AppendAt
namespace Go.Proofs.Ytndffjgneapmdaa
open Go.RowKit
set_option maxHeartbeats 1600000 in
theorem spoilT_any (A : Option Addr) (n c : Nat) (xs : List Nat) (w : World) (hO : Own w 0 (.slice A n c) xs) (hn : xs.length = n) (h3 : n ≤ 1099511627776) :
    Calls Try.prog 27 #[.slice A n c] w fun e w' => e = .returned (.tuple #[]) ∧ Turn (fun k => (Value.slice A n c).ownBlock = some k) w w' := by
  have HO := hide hO
  have HN := hide hn
  clear hO hn
  obtain ⟨S, hS⟩ : ∃ S : Nat → Prop, S = fun k => (Value.slice A n c).ownBlock = some k := ⟨_, rfl⟩
  rw [← hS]
  have HS := hide hS
  clear hS
  go_enter Try.func27, Try.ntmps27
  go_wp2_with (at_builtin; refine halt ?_)
  refine ⟨?_⟩
  have nb := below_alloc w (.cells #[.int .u8 99] 5)
  obtain ⟨i0, hi, hz0, hz1, hz2⟩ := info_parts Try.info_u8'
  have hown := HO.out.keep nb
  unfold Own at hown
  rw [HN.out] at hown
  refine wpList_append_own_at _ rfl (.tmp 4) (.tmp 5) 32 rfl 0 5 i0 (.int .u8 0) 1 1 Try.underlying32 hi hz0 hz1 hz2 rfl (by decide) (.slice A n c) n _ rfl hown ⟨w.heap.size, 0, none⟩ 1 1 [.int .u8 99] rfl rfl (fun j u hj => by simpa using one_at w (.int .u8 99) 5 j u hj) (by intro u hu; rw [List.mem_singleton] at hu; subst hu; rfl) (by unfold maxLen; omega) (by omega) (Nat.zero_le _) ?_
  intro s1 w1 o1 g1 _ l1
  have o1 : Own w1 0 s1 (xs ++ [99]) := by unfold Own; rw [List.length_append, HN.out, List.map_append]; exact o1
  have t1 : Turn S w w1 := (Turn.of_below S nb).trans ((Turn.of_grown g1).mono (fun k hk => by rw [HS.out]; exact hk.symm))
  have hsz : w.heap.size < w1.heap.size := Nat.lt_of_lt_of_le (by simp) g1.size
  obtain ⟨g, c1, rfl, hg, hc, hc2, _, _⟩ := o1.at_ (n := n + 1) (by rw [List.length_append, HN.out]; rfl) (by omega)
  have hgS : S g ∨ w.heap.size ≤ g := by
    rcases l1 with e | e
    · left; rw [HS.out]; exact e.symm
    · right
      have e : g = (w.alloc (.cells #[.int .u8 99] 5)).heap.size := Option.some.inj e
      rw [e]; simp
  have O1 := hide o1
  have T1 := hide t1
  have GS := hide hgS
  have L1 : Hid ((xs ++ [99]).length = n + 1) := by unfold Hid; rw [List.length_append, HN.out]; rfl
  clear nb o1 t1 g1 l1 hown hgS hsz hi hz0 hz1 hz2 i0
  go_wp2_with fail
  go_loopw [3] (fun i wr => ∃ k : Nat, k ≤ n + 1 ∧ i = .int .i64 (k : Int) ∧ Hid (∃ ys : List Nat, ys.length = n + 1 ∧ Own wr 0 (.slice (some ⟨g, 0, none⟩) (n + 1) c1) ys) ∧ Hid (Turn S w wr)) (fun i _ => n + 1 - (intOf i).toNat)
  case atStart => exact ⟨0, Nat.zero_le _, rfl, ⟨_, L1.out, O1.out⟩, T1.out⟩
  case round =>
    obtain ⟨k, hk, rfl, hys, ht⟩ := hrel
    by_cases hlt : k < n + 1
    · obtain ⟨ys, hyl, hown⟩ := hys.out
      obtain ⟨g', c', e, _, _, _, cells, hfr⟩ := hown.at_ hyl (by omega)
      cases e
      have ck := cells k hlt
      have fk := hfr k
      have hst := hown.stored hyl k 98
      have Y2 : Hid (∃ ys : List Nat, ys.length = n + 1 ∧ Own (wr.setCell ⟨g, k, none⟩ (.int .u8 ((98 : Nat) : Int))) 0 (.slice (some ⟨g, 0, none⟩) (n + 1) c1) ys) := ⟨ys.set k 98, by rw [List.length_set, hyl], hst⟩
      have K2 : Hid (Turn S w (wr.setCell ⟨g, k, none⟩ (.int .u8 ((98 : Nat) : Int)))) := ht.out.then (Turn.of_grown (grown_set wr g k _)) (fun i hi => by
        have hi : i = g := Option.some.inj hi
        rw [hi]; exact GS.out)
      clear cells hfr hst hown hyl hys ht
      go_wp2_with fail
      go_roundw
      case rel => exact ⟨k + 1, by omega, by go_num, Y2, K2⟩
      case measure => simp [intOf]; omega
    · go_wp2_with fail
      go_end0
      exact ⟨rfl, ht.out⟩
end Go.Proofs.Ytndffjgneapmdaa
