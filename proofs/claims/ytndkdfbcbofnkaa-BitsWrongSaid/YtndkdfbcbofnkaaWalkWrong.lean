/- The walk of the law BitsWrong: it returns true for any bytes, any place and any byte that is exchanged into it, and writes nothing that was there. No conditions but the widths. -/
import Derived.Test.YtndkdfbcbofnkaaKnown
import Derived.Test.YtndkdfbcbofnkaaApp
namespace Go.Proofs.Ytndkdfbcbofnkaa
open Go.RowKit
theorem xor_rc {a b c : Nat} (h : a ^^^ c = b ^^^ c) : a = b := by
  have h1 : (a ^^^ c) ^^^ c = (b ^^^ c) ^^^ c := by rw [h]
  rwa [Nat.xor_assoc, Nat.xor_assoc, Nat.xor_self, Nat.xor_zero, Nat.xor_zero] at h1
theorem xor_lc {a b c : Nat} (h : a ^^^ b = a ^^^ c) : b = c := by
  rw [Nat.xor_comm a b, Nat.xor_comm a c] at h
  exact xor_rc h
theorem crcStep_inj {s t : Nat} (hs : s < 4294967296) (ht : t < 4294967296) (h : crcStep s = crcStep t) : s = t := by
  have top : ∀ a b : Nat, a < 4294967296 → b < 4294967296 → a / 2 ^^^ 3988292384 ≠ b / 2 := by
    intro a b ha hb e
    have h1 := congrArg (Nat.testBit · 31) e
    simp only [Nat.testBit_xor] at h1
    have e1 : (a / 2).testBit 31 = false := Nat.testBit_lt_two_pow (by omega)
    have e2 : (b / 2).testBit 31 = false := Nat.testBit_lt_two_pow (by omega)
    have e3 : Nat.testBit 3988292384 31 = true := by decide +kernel
    rw [e1, e2, e3] at h1
    cases h1
  unfold crcStep at h
  split at h <;> split at h
  · have : s / 2 = t / 2 := xor_rc h
    omega
  · exact absurd h (top s t hs ht)
  · exact absurd h.symm (top t s ht hs)
  · omega
theorem crcB_inj {s t : Nat} (hs : s < 4294967296) (ht : t < 4294967296) : ∀ k, crcB s k = crcB t k → s = t
  | 0, h => h
  | k + 1, h => crcB_inj hs ht k (crcStep_inj (crcB_lt hs k) (crcB_lt ht k) h)
theorem crcF_inj {xs : List Nat} (hx : ∀ x ∈ xs, x < 256) : ∀ {s t : Nat}, s < 4294967296 → t < 4294967296 → crcF s xs = crcF t xs → s = t := by
  induction xs with
  | nil => intro s t _ _ h; exact h
  | cons x xs ih =>
    intro s t hs ht h
    have hx0 : x < 4294967296 := by have := hx x (by simp); omega
    have h2 := ih (fun y hy => hx y (by simp [hy])) (crcB_lt (xor_lt32 hs hx0) 8) (crcB_lt (xor_lt32 ht hx0) 8) h
    exact xor_rc (crcB_inj (xor_lt32 hs hx0) (xor_lt32 ht hx0) 8 h2)
theorem sum_wrong {xs : List Nat} (hx : ∀ x ∈ xs, x < 256) (k y : Nat) (hk : k < xs.length) (hy : y < 256) (hy0 : y ≠ 0) : sumS (xs.set k (xs.getD k 0 ^^^ y)) ≠ sumS xs := by
  intro h
  have hx0 : xs.getD k 0 < 256 := by
    have e : xs.getD k 0 = xs[k] := by simp [hk]
    rw [e]; exact hx _ (List.getElem_mem hk)
  have hxy : xs.getD k 0 ^^^ y < 256 := Nat.xor_lt_two_pow (n := 8) hx0 hy
  have hset : ∀ x ∈ xs.set k (xs.getD k 0 ^^^ y), x < 256 := by
    intro z hz
    rcases List.mem_or_eq_of_mem_set hz with h | h
    · exact hx z h
    · rw [h]; exact hxy
  have l1 := crcF_lt (s := 4294967295) (by decide) hset
  have l2 := crcF_lt (s := 4294967295) (by decide) hx
  have e : crcF 4294967295 (xs.set k (xs.getD k 0 ^^^ y)) = crcF 4294967295 xs := by
    unfold sumS at h
    omega
  have d1 : xs.set k (xs.getD k 0 ^^^ y) = xs.take k ++ (xs.getD k 0 ^^^ y) :: xs.drop (k + 1) := List.set_eq_take_append_cons_drop.trans (if_pos hk)
  have d2 : xs = xs.take k ++ xs.getD k 0 :: xs.drop (k + 1) := by
    have e : xs.getD k 0 = xs[k] := by simp [hk]
    rw [e, List.getElem_cons_drop, List.take_append_drop]
  rw [d1] at e
  have e2 : crcF 4294967295 (xs.take k ++ (xs.getD k 0 ^^^ y) :: xs.drop (k + 1)) = crcF 4294967295 (xs.take k ++ xs.getD k 0 :: xs.drop (k + 1)) := by rw [e, ← d2]
  unfold crcF at e2
  rw [List.foldl_append, List.foldl_append, List.foldl_cons, List.foldl_cons] at e2
  have ls := crcF_lt (s := 4294967295) (by decide) (xs := xs.take k) (fun x hx' => hx x (List.mem_of_mem_take hx'))
  have a1 := xor_lt32 ls (show xs.getD k 0 ^^^ y < 4294967296 by omega)
  have a2 := xor_lt32 ls (show xs.getD k 0 < 4294967296 by omega)
  have e3 := crcF_inj (xs := xs.drop (k + 1)) (fun x hx' => hx x (List.mem_of_mem_drop hx')) (crcB_lt a1 8) (crcB_lt a2 8) e2
  have e4 := crcB_inj a1 a2 8 e3
  have e5 : xs.getD k 0 ^^^ y = xs.getD k 0 := xor_lc e4
  have e6 : xs.getD k 0 ^^^ y = xs.getD k 0 ^^^ 0 := by rw [e5, Nat.xor_zero]
  exact hy0 (xor_lc e6)
theorem Own.stored {w : World} {B : Nat} {g n c : Nat} {xs : List Nat} (h : Own w B (.slice (some ⟨g, 0, none⟩) n c) xs) (hn : xs.length = n) (k z : Nat) :
    Own (w.setCell ⟨g, k, none⟩ (.int .u8 (z : Int))) B (.slice (some ⟨g, 0, none⟩) n c) (xs.set k z) := by
  subst hn
  unfold Own at h ⊢
  have := (World.ownsRow.stored h k (.int .u8 (z : Int))).1
  simpa [List.map_set] using this
theorem Own.at_ {w : World} {B : Nat} {v : Value} {xs : List Nat} {n : Nat} (h : Own w B v xs) (hn : xs.length = n) (h1 : 1 ≤ n) :
    ∃ g c, v = .slice (some ⟨g, 0, none⟩) n c ∧ B ≤ g ∧ n ≤ c ∧ c ≤ 9223372036854775807 ∧ (∀ k, k < n → w.cell? ⟨g, k, none⟩ = some (.int .u8 ((xs.getD k 0 : Nat) : Int))) ∧ ∀ k, w.frozen? ⟨g, k, none⟩ = false := by
  subst hn
  have h0 := h
  unfold Own at h
  rcases h.2 with ⟨rfl, hn⟩ | ⟨g, cap, cur, rfl, hb, hg, hc, hm, _⟩
  · omega
  · refine ⟨g, cap, rfl, hb, hc, by unfold maxLen at hm; omega, fun k hk => ?_, fun k => World.ownsRow.frozenAt h k⟩
    rw [World.ownsRow.cellAt h k (by omega)]
    simp [hk]
theorem xor8 (a b : Nat) (ha : a < 256) (hb : b < 256) : bits .xor .u8 (a : Int) (b : Int) = ((a ^^^ b : Nat) : Int) := u8_xor_nat a b ha hb
set_option maxHeartbeats 1600000 in
theorem bitsWrong_core (len cap k y : Nat) (at_ : Int) (M : Option Addr) (xs : List Nat) (w : World) (hl : xs.length = len) (hby : ∀ x ∈ xs, x < 256) (hM : IsB w (.slice M len cap) xs) (h3 : len ≤ 3000) (h1 : 1 ≤ len)
    (hk : k < len) (hat : at_.tmod (len : Int) = (k : Int) ∨ (at_.tmod (len : Int) = (k : Int) - (len : Int))) (hy : y < 256) (hy1 : 1 ≤ y) :
    Calls Try.prog 8 #[.slice M len cap, .int .i64 at_, .int .u8 (y : Int)] w fun e w' => e = .returned (.bool true) ∧ Below w.heap.size w w' := by
  have HL := hide hl
  have HB := hide hby
  have HM := hide hM
  have hne := sum_wrong hby k y (by omega) hy (by omega)
  obtain ⟨x, hx⟩ : ∃ x, x = xs.getD k 0 := ⟨_, rfl⟩
  have hx256 : x < 256 := by
    have e : xs.getD k 0 = xs[k]'(by omega) := by simp [show k < xs.length by omega]
    rw [hx, e]; exact hby _ (List.getElem_mem _)
  rw [← hx] at hne
  have hxy := xor8 x y hx256 hy
  have hz256 : x ^^^ y < 256 := Nat.xor_lt_two_pow (n := 8) hx256 hy
  obtain ⟨z, hz⟩ : ∃ z, z = x ^^^ y := ⟨_, rfl⟩
  rw [← hz] at hne hxy hz256
  have HX := hide hx
  obtain ⟨p, hp⟩ : ∃ p, p = sumS xs := ⟨_, rfl⟩
  obtain ⟨q, hq⟩ : ∃ q, q = sumS (xs.set k z) := ⟨_, rfl⟩
  rw [← hp, ← hq] at hne
  have hnb : ((q : Int) != (p : Int)) = true := by simp; omega
  have HP := hide hp
  have HQ := hide hq
  have hset : Hid (∀ x ∈ xs.set k z, x < 256) := by
    intro u hu
    rcases List.mem_or_eq_of_mem_set hu with h | h
    · exact hby u h
    · rw [h]; exact hz256
  clear hl hby hM hx hz hp hq hne
  have g1 : ((len : Int) == 0) = false := by simp; omega
  have g2 : ((y : Int) == 0) = false := by simp; omega
  rcases hat with hat | hat
  all_goals
    have nb : Below w.heap.size w (w.alloc (.cells #[] 5)) := (Below.refl _ _).alloc (Nat.le_refl _) _
    go_enter Try.func8, Try.ntmps8
    go_wp2_with (at_builtin; refine halt ?_)
    refine ⟨?_⟩
    refine wpList_append_bytes rfl (.tmp 21) (.tmp 22) rfl w.heap.size _ [] rfl (own_lit w #[] [] rfl (by decide)) _ xs rfl (HM.out.keep nb) (by rw [HL.out, List.length_nil]; omega) nb.size ?_
    intro s1 w1 o1 k1
    rw [List.nil_append] at o1
    have nb1 := nb.trans k1
    obtain ⟨g, c, rfl, hg, hc, hc2, cells, hfr⟩ := o1.at_ HL.out h1
    have ck := cells k hk
    rw [← HX.out] at ck
    have fk := hfr k
    have hg1 : g < w1.heap.size := cell_lt ck
    have o2 := o1.stored HL.out k z
    have nb2 : Below w.heap.size w (w1.setCell ⟨g, k, none⟩ (.int .u8 (z : Int))) := nb1.setCell hg _
    have r2 : Rd (w1.setCell ⟨g, k, none⟩ (.int .u8 (z : Int))) (some ⟨g, 0, none⟩) (xs.set k z) := by
      obtain ⟨A', c', e', r, _⟩ := o2.isB
      cases e'
      exact r
    have O2 := hide r2
    clear cells hfr nb k1 o1 o2 r2
    go_wp2_with fail
    refine (sum_any _ len c (xs.set k z) _ O2.out (by rw [List.length_set, HL.out]) hset.out (by omega)).mono ?_
    rintro e w2 ⟨rfl, rfl⟩
    rw [← HQ.out]
    go_wp2_with fail
    refine (sum_any M len cap xs _ (HM.out.keep nb2).rd HL.out.symm HB.out (by omega)).mono ?_
    rintro e w2 ⟨rfl, rfl⟩
    rw [← HP.out]
    go_wp2_with fail
    refine (known_any _).mono ?_
    rintro e w3 ⟨rfl, k3⟩
    go_wp2_with fail
    go_ret
    exact ⟨rfl, below_step nb2 k3⟩
set_option maxHeartbeats 400000 in
theorem bitsWrong_out (len cap : Nat) (y at_ : Int) (M : Option Addr) (w : World) (hm : len ≤ 9223372036854775807) (h : ¬ len ≤ 3000 ∨ len = 0 ∨ y = 0) :
    Calls Try.prog 8 #[.slice M len cap, .int .i64 at_, .int .u8 y] w fun e w' => e = .returned (.bool true) ∧ Below w.heap.size w w' := by
  by_cases h1 : len ≤ 3000
  · by_cases h2 : len = 0
    · subst h2
      go_enter Try.func8, Try.ntmps8
      go_wp2_with fail
      go_ret
      exact ⟨rfl, Below.refl _ _⟩
    · have h3 : y = 0 := by omega
      subst h3
      have g1 : ((len : Int) == 0) = false := by simp; omega
      clear h h2
      go_enter Try.func8, Try.ntmps8
      go_wp2_with fail
      go_ret
      exact ⟨rfl, Below.refl _ _⟩
  · clear h
    go_enter Try.func8, Try.ntmps8
    go_wp2_with fail
    go_ret
    exact ⟨rfl, Below.refl _ _⟩
theorem place (n : Int) (len : Nat) (h : 1 ≤ len) : ∃ k : Nat, k < len ∧ (n.tmod (len : Int) = (k : Int) ∨ n.tmod (len : Int) = (k : Int) - (len : Int)) := by
  rcases tmod_cases n (len : Int) with ⟨_, e⟩ | ⟨_, e⟩
  · have h1 := Int.emod_nonneg n (b := (len : Int)) (by omega)
    have h2 := Int.emod_lt_of_pos n (b := (len : Int)) (by omega)
    exact ⟨(n % (len : Int)).toNat, by omega, .inl (by rw [e]; omega)⟩
  · have h1 := Int.emod_nonneg (-n) (b := (len : Int)) (by omega)
    have h2 := Int.emod_lt_of_pos (-n) (b := (len : Int)) (by omega)
    by_cases h0 : -n % (len : Int) = 0
    · exact ⟨0, by omega, .inl (by rw [e, h0]; rfl)⟩
    · exact ⟨((len : Int) - -n % (len : Int)).toNat, by omega, .inr (by rw [e]; omega)⟩
theorem bitsWrong_walk (a0 : Option Addr) (len0 cap0 : Nat) (z0 : List Int) (a1 : Int) (a2 : Int) (w : World) (w0 : IsRow .u8 w a0 len0 cap0 z0) (_w1 : (Lit.int .i64 a1).wf = true) (w2 : (Lit.int .u8 a2).wf = true) :
    Calls Try.prog 8 #[.slice a0 len0 cap0, .int .i64 a1, .int .u8 a2] w fun e w' => e = .returned (.bool true) ∧ Below w.heap.size w w' := by
  obtain ⟨xs, hl, hby, hM, hm⟩ := w0.isB
  have b2 := bounds_u8 w2
  by_cases h : ¬ len0 ≤ 3000 ∨ len0 = 0 ∨ a2 = 0
  · exact bitsWrong_out len0 cap0 a2 a1 a0 w hm h
  · obtain ⟨y, rfl⟩ := Int.eq_ofNat_of_zero_le b2.1
    obtain ⟨k, hk, hat⟩ := place a1 len0 (by omega)
    exact bitsWrong_core len0 cap0 k y a1 a0 xs w hl hby hM (by omega) (by omega) hk hat (by omega) (by omega)
end Go.Proofs.Ytndkdfbcbofnkaa
