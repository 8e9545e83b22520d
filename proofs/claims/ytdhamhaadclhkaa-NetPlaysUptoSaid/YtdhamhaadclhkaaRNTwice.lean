/- The contract of the document's Twice. No condition but the widths. -/
import Derived.Test.YtdhamhaadclhkaaNTwice
namespace Go.Proofs.Ytdhamhaadclhkaa
open Go.RowKit
theorem Fresh.nil {w : World} {B : Nat} {A : Option Addr} {n c : Nat} {zs : List Int} (h : OwnN w B (.slice A n c) zs) : A = none → c = 0 := fun ha => by
  unfold OwnN at h
  rcases h.2 with ⟨e3, _⟩ | ⟨g, cap, cur, e3, _⟩
  · simp only [Value.slice.injEq] at e3
    exact e3.2.2
  · simp only [Value.slice.injEq] at e3
    rw [ha] at e3
    cases e3.1
set_option maxHeartbeats 1600000 in
theorem rtwice_some (F : Nat → Prop) (g : Nat) (v : Value) (X : List Itm) (i : Nat) (w : World) (h : NShell RN w F g v X) (hi : i < X.length) :
    Calls Try.prog 29 #[.pointer (some ⟨g, 0, none⟩), .int .i64 (i : Int)] w fun e w' => e = .returned (.bool (decide (X.length < 4096))) ∧ ∃ F', NetAt RN w' F' g (sendL X[i].says (X.map Itm.says)) ∧ Next F w F' w' := by
  have HA := hide (rat_some F g v X i w h hi)
  have gd := h.each X[i] (List.getElem_mem hi)
  have hz := gd.lu
  have hd := gd.lv
  have HX := hide h
  obtain ⟨f, t, k, U, V, zs, d, hx⟩ : ∃ f t k U V zs d, X[i] = ⟨f, t, k, U, V, zs, d⟩ := ⟨_, _, _, _, _, _, _, rfl⟩
  rw [hx] at HA hz hd ⊢
  clear gd hx h
  go_enter Try.func29, Try.ntmps29
  go_wp2_with fail
  refine HA.out.mono ?_
  rintro e w1 ⟨r, rfl, ⟨A, c, D, cp, rfl, o1, o2⟩, k1⟩
  have ka := below_alloc w1 (.cells #[.int .i64 f, .int .i64 t, .int .i64 k, .slice A zs.length c, .slice D d.length cp] 45)
  have HS := hide (rsend_any F g (X.map Itm.says) f t k A D zs.length c d.length cp zs d _ ⟨v, X, rfl, HX.out.below (k1.trans (ka.mono k1.size))⟩ (o1.isI.keep ka) (Fresh.nil o1) (o2.isB.keep ka) rfl hz hd)
  rw [List.length_map] at HS
  have K1 := hide (k1.trans (ka.mono k1.size))
  clear o1 o2 k1 ka
  go_wp2_with fail
  refine HS.out.mono ?_
  rintro e w3 ⟨rfl, F', h3, n3⟩
  have H3 := hide h3
  have N3 := hide ((Next.of_below F K1.out).trans n3)
  clear h3 n3
  go_wp2_with fail
  go_ret
  exact ⟨rfl, F', H3.out, N3.out⟩
set_option maxHeartbeats 1600000 in
theorem rtwice_none (F : Nat → Prop) (g : Nat) (v : Value) (X : List Itm) (i : Int) (w : World) (h : NShell RN w F g v X) (hi : ¬ (0 ≤ i ∧ i < (X.length : Int))) :
    Calls Try.prog 29 #[.pointer (some ⟨g, 0, none⟩), .int .i64 i] w fun e w' => e = .returned (.bool false) ∧ Below w.heap.size w w' := by
  have HA := hide (rat_none F g v X i w h hi)
  unfold zeroMsg at HA
  clear h hi
  go_enter Try.func29, Try.ntmps29
  go_wp2_with fail
  refine HA.out.mono ?_
  rintro e w1 ⟨rfl, k1⟩
  have K1 := hide (k1.trans ((below_alloc w1 (.cells zeroArr 45)).mono k1.size))
  clear k1
  go_wp2_with fail
  go_ret
  exact ⟨rfl, K1.out⟩
theorem rtwice_any (F : Nat → Prop) (g : Nat) (L : List (Int × Int × Int × List Int × List Nat)) (i : Int) (w : World) (h : NetAt RN w F g L) :
    Calls Try.prog 29 #[.pointer (some ⟨g, 0, none⟩), .int .i64 i] w fun e w' => e = .returned (.bool (twiceL i L).2) ∧ ∃ F', NetAt RN w' F' g (twiceL i L).1 ∧ Next F w F' w' := by
  obtain ⟨v, X, rfl, hS⟩ := h
  have hm := hS.most
  unfold twiceL
  rw [List.length_map]
  by_cases hi : 0 ≤ i ∧ i < (X.length : Int)
  · obtain ⟨j, rfl⟩ : ∃ j : Nat, i = (j : Int) := ⟨i.toNat, by omega⟩
    have hj : j < X.length := by omega
    refine (rtwice_some F g v X j w hS hj).mono ?_
    rintro e w' ⟨rfl, F', h', n'⟩
    unfold sendL at h'
    rw [List.length_map] at h'
    by_cases hf : X.length < 4096
    · rw [if_neg (by omega)] at h'
      rw [if_pos ⟨hi.1, hi.2, hf⟩, decide_eq_true hf]
      refine ⟨rfl, F', ?_, n'⟩
      simpa [hj] using h'
    · rw [if_pos (by omega)] at h'
      rw [if_neg (by omega), decide_eq_false hf]
      exact ⟨rfl, F', h', n'⟩
  · rw [if_neg (by omega)]
    refine (rtwice_none F g v X i w hS hi).mono ?_
    rintro e w' ⟨rfl, k⟩
    exact ⟨rfl, F, ⟨v, X, rfl, hS.below k⟩, Next.of_below F k⟩
end Go.Proofs.Ytdhamhaadclhkaa
