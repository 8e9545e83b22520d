/- The contract of the document's own reading of so many numbers. Condition: fewer than 2 to the 20 of them. -/
import Derived.Test.YtjchpnmipmplkaaMsgR
import Derived.Test.YtjchpnmipmplkaaPiece
namespace Go.Proofs.Ytjchpnmipmplkaa
open Go.RowKit
/-- A slice of the call's own that holds these numbers without signs. -/
def OwnU (w : World) (B : Nat) (v : Value) (us : List Nat) : Prop := w.ownsRow B 47 1 v us.length (us.map fun x : Nat => Value.int .u64 (x : Int))
theorem OwnU.nil (w : World) (B : Nat) : OwnU w B (.slice none 0 0) [] := World.ownsRow_nil _ _ _ _
theorem OwnU.keep {w w' : World} {B : Nat} {v : Value} {us : List Nat} (h : OwnU w B v us) (hb : Below w.heap.size w w') : OwnU w' B v us := by
  unfold OwnU at h ⊢
  refine ⟨h.1, ?_⟩
  rcases h.2 with hn | ⟨g, cap, cur, hv, h1, h2, r⟩
  · exact .inl hn
  · refine .inr ⟨g, cap, cur, hv, h1, ?_, r⟩
    rw [hb.block g ?_]
    · exact h2
    · exact (h.lt g (by rw [hv]; rfl)).2
theorem OwnU.drewN {w : World} {B : Nat} {v : Value} {us : List Nat} (h : OwnU w B v us) (n : Nat) : OwnU (w.drewN n) B v us := h
theorem OwnU.form {w : World} {B : Nat} {v : Value} {us : List Nat} {n : Nat} (h : OwnU w B v us) (hn : us.length = n) : ∃ A c, v = .slice A n c ∧ n ≤ 9223372036854775807 ∧ ∀ j, j < n → ∃ b, A = some ⟨b, 0, none⟩ ∧ w.cell? ⟨b, j, none⟩ = some (.int .u64 ((us.getD j 0 : Nat) : Int)) := by
  subst hn
  unfold OwnU at h
  rcases h.2 with ⟨rfl, hn⟩ | ⟨g, cap, cur, rfl, _, _, c1, c2, _⟩
  · exact ⟨none, 0, by rw [hn], by omega, fun j hj => absurd hj (by omega)⟩
  · refine ⟨_, _, rfl, by unfold maxLen at c2; omega, fun i hi => ⟨g, rfl, ?_⟩⟩
    rw [h.cellAt i (by omega)]
    simp [hi]
theorem Try.info_u64 : (Try.prog.info? 47).map (fun i => (i.zero, i.size, i.bytes)) = some (some (.int .u64 0), 1, 8) := by kernel_rfl
theorem wpList_append_u64 {w : World} {ops : Array Oper} {rest : List Oper} {o : Oper} {a : Act} {Q : Exit → Act → World → Prop} (hgd : o.guard = none) (s x : Operand)
    (ho : o.op = .call { callee := .builtin .append, args := #[s, x], argTypes := #[59, 59] })
    (B : Nat) (v : Value) (us : List Nat) (hs : a.eval s = v) (hown : OwnU w B v us)
    (b m : Nat) (hx : a.eval x = .slice (some ⟨b, 0, none⟩) 1 1) (hu : w.cell? ⟨b, 0, none⟩ = some (.int .u64 (m : Int)))
    (hlen : us.length + 1 ≤ 1099511627776) (hbase : B ≤ w.heap.size)
    (h : ∀ v' w', OwnU w' B v' (us ++ [m]) → Below B w w' → wpList Try.prog ops Q rest (a.put o.dst v') w') : wpList Try.prog ops Q (o :: rest) a w := by
  obtain ⟨i0, hi, hz0, hz1, hz2⟩ := info_parts Try.info_u64
  refine wpList_append_own w hgd s x _ ho B 47 i0 (.int .u64 0) 1 8 Try.underlying59 hi hz0 hz1 hz2 rfl (by decide) v _ _ hs hown ⟨b, 0, none⟩ 1 1 [.int .u64 (m : Int)] hx rfl ?_ ?_ (by unfold maxLen; omega) (by omega) hbase ?_
  · intro j z hj
    match j, hj with
    | 0, hj => simp at hj; subst hj; simpa [Addr.add] using hu
  · intro z hz; simp at hz; subst hz; rfl
  · intro v' w' h2 h3 _
    exact h v' w' (by unfold OwnU; simpa using h2) ((Below.refl _ _).grown h3 hbase fun k hk => (hown.lt k hk).1)
theorem IsB.tail {w : World} {A : Option Addr} {n c : Nat} {xs : List Nat} (h : IsB w (.slice A n c) xs) (k : Nat) (hk : k ≤ n) :
    ∀ b off, A = some ⟨b, off, none⟩ → IsB w (.slice (some ⟨b, if c = k then off else off + k, none⟩) (n - k) (c - k)) (xs.drop k) := by
  rintro b off rfl
  by_cases hc : c = k
  · rw [if_pos hc]
    obtain ⟨_, _, e, _, _, h2, h3⟩ := h
    cases e
    have hd : xs.drop k = [] := List.drop_of_length_le (by omega)
    rw [hd]
    refine ⟨_, _, by rw [show xs.length - k = 0 by omega]; rfl, fun h => absurd rfl h, (fun h => by cases h), Nat.zero_le _, by omega⟩
  · rw [if_neg hc]
    exact h.drop k (n - k) (c - k) rfl rfl hk
/-- How far the numbers are read: those that were, and what is left. -/
def SofarN (n : Nat) (xs : List Nat) (i : Nat) (us bi : List Nat) : Prop := us.length = i ∧ numsL n xs = (numsL (n - i) bi).map fun x => (us ++ x.1, x.2)
theorem SofarN.start (n : Nat) (xs : List Nat) : SofarN n xs 0 [] xs := ⟨rfl, by rw [Nat.sub_zero]; rcases numsL n xs with _ | ⟨l, r⟩ <;> rfl⟩
theorem SofarN.next {n i v : Nat} {xs us bi r : List Nat} (h : SofarN n xs i us bi) (hi : i < n) (hn : numL bi = some (v, r)) : SofarN n xs (i + 1) (us ++ [v]) r := by
  obtain ⟨h1, h2⟩ := h
  refine ⟨by simp [h1], ?_⟩
  rw [h2, show n - i = (n - (i + 1)) + 1 by omega, numsL_step hn]
  rcases numsL (n - (i + 1)) r with _ | ⟨l, r'⟩ <;> simp
theorem SofarN.bad {n i : Nat} {xs us bi : List Nat} (h : SofarN n xs i us bi) (hi : i < n) (hn : numL bi = none) : numsL n xs = none := by
  obtain ⟨h1, h2⟩ := h
  rw [h2, show n - i = (n - (i + 1)) + 1 by omega, numsL_bad hn]
  rfl
theorem SofarN.done {n : Nat} {xs us bi : List Nat} (h : SofarN n xs n us bi) : numsL n xs = some (us, bi) := by
  obtain ⟨h1, h2⟩ := h
  rw [h2, Nat.sub_self]
  simp [numsL]
set_option maxHeartbeats 3200000 in
theorem rnums_any (A : Option Addr) (n c k : Nat) (xs : List Nat) (w w0 : World) (hW : Below w0.heap.size w0 w) (hA : IsB w0 (.slice A n c) xs) (hn : xs.length = n) (hb : ∀ x ∈ xs, x < 256) (hk : k ≤ 1048576) (h3 : n ≤ 549755813888) :
    Calls Try.prog 27 #[.slice A n c, .int .i64 (k : Int)] w fun e w' => Below w.heap.size w w' ∧
      ((numsL k xs = none ∧ e = .returned (.tuple #[.slice none 0 0, .slice none 0 0, .bool false])) ∨ ∃ us r L R, numsL k xs = some (us, r) ∧ e = .returned (.tuple #[L, R, .bool true]) ∧ OwnU w' w.heap.size L us ∧ IsB w0 R r) := by
  have HA := hide hA
  have HN := hide hn
  have HB := hide hb
  have HW := hide hW
  clear hA hn hb hW
  go_enter Try.func27, Try.ntmps27
  go_wp2_with fail
  go_loopw [0, 7, 8] (fun s l g wr => ∃ (i m : Nat) (A' : Option Addr) (c' : Nat) (us bi : List Nat), i ≤ k ∧ m ≤ 549755813888 ∧ s = .slice A' m c' ∧ g = .int .i64 (i : Int) ∧ Hid (bi.length = m) ∧
      Hid (IsB w0 (.slice A' m c') bi) ∧ Hid (∀ x ∈ bi, x < 256) ∧ Hid (OwnU wr w.heap.size l us) ∧ Hid (SofarN k xs i us bi) ∧ Hid (Below w.heap.size w wr)) (fun _ _ g _ => k - (intOf g).toNat)
  case atStart => exact ⟨0, n, A, c, [], xs, Nat.zero_le _, h3, rfl, rfl, HN.out, HA.out, HB.out, OwnU.nil _ _, SofarN.start k xs, Below.refl _ _⟩
  case round =>
    obtain ⟨i, m, A', c', us, bi, hi, hm, rfl, rfl, hl, hI, hby, hO, hS, hbel⟩ := hrel
    by_cases hlt : i < k
    · obtain ⟨v, q, er, hr⟩ : ∃ v q er, rvl 0 0 bi = (v, q, er) := ⟨_, _, _, rfl⟩
      have hle := rvl_le bi 0 0 (by decide) (by decide)
      rw [hr] at hle
      obtain ⟨hv64, hk10, he3⟩ := hle
      simp only at hv64 hk10 he3
      have hread := fun w (hx : Rd w A' bi) => rread_any A' m c' bi w hx hl.out.symm hby.out (by omega)
      rw [hr] at hread
      have HREAD := hide hread
      by_cases he : er = 0
      · subst he
        have hnum : numL bi = some (v, bi.drop q) := by unfold numL; rw [hr]; rfl
        obtain ⟨u, hvu, _, hx, hku⟩ := rvl_inv bi 0 0 v q hby.out (by decide) hr
        have hq1 : 1 ≤ q := by
          have : (uvl u).length ≠ 0 := by
            by_cases h0 : u < 128
            · rw [uvl_low h0]; simp
            · rw [uvl_high h0]; simp
          omega
        have hqm : q ≤ m := by
          have e := congrArg List.length hx
          rw [List.length_append, List.length_drop, hl.out] at e
          omega
        obtain ⟨g0, off, rfl⟩ := hI.out.at_ (by omega)
        have ht := hI.out.tail q hqm g0 off rfl
        have hcap := hI.out.caps.1
        have HX := hide (show ∀ x ∈ bi.drop q, x < 256 from fun x hx => hby.out x (List.mem_of_mem_drop hx))
        have HL2 : Hid ((bi.drop q).length = m - q) := by unfold Hid; rw [List.length_drop, hl.out]
        have HS2 := hide (hS.out.next hlt hnum)
        have HUL := hide hS.out.1
        have q2 : (q : Int) ≤ (m : Int) := by omega
        have HT := hide ht
        clear ht hread hr hnum hvu hx hku hS
        go_wp2_with fail
        refine (HREAD.out _ ((hI.out.keep HW.out).keep hbel.out).rd).mono ?_
        rintro e w1 ⟨rfl, rfl⟩
        go_wp2_with (at_builtin; refine halt ?_)
        refine ⟨?_⟩
        have nb : Below wr.heap.size wr (wr.alloc (.cells #[.int .u64 (v : Int)] 47)) := (Below.refl _ _).alloc (Nat.le_refl _) _
        refine wpList_append_u64 rfl (.tmp 25) (.tmp 27) rfl w.heap.size _ us rfl (hO.out.keep nb) wr.heap.size v rfl (by simp) (by have := HUL.out; omega) (Nat.le_trans hbel.out.size nb.size) ?_
        intro v2 w2 V2 k2
        have K2 := hide ((hbel.out.alloc hbel.out.size _).trans k2)
        have V2' := hide V2
        clear V2 k2 nb
        by_cases hcd : c' = q
        · rw [if_pos hcd] at HT
          subst hcd
          have e1 : m - c' = 0 := by omega
          have m0 : m = c' := by omega
          subst m0
          have I2 : Hid (IsB w0 (.slice (some ⟨g0, off, none⟩) 0 0) (bi.drop m)) := by
            have h := HT.out
            rw [e1] at h
            exact h
          have HL3 : Hid ((bi.drop m).length = 0) := by unfold Hid; rw [HL2.out]; exact e1
          clear HT e1 HL2 hcap
          go_wp2_with fail
          go_roundw
          case rel => exact ⟨i + 1, 0, _, _, us ++ [v], bi.drop m, by omega, by omega, by go_num, by go_num, HL3, I2, HX, V2', HS2, K2⟩
          case measure => simp [intOf]; omega
        · rw [if_neg hcd] at HT
          go_wp2_with fail
          go_roundw
          case rel => exact ⟨i + 1, m - q, _, _, us ++ [v], bi.drop q, by omega, by omega, rfl, by go_num, HL2, HT, HX, V2', HS2, K2⟩
          case measure => simp [intOf]; omega
      · have hnum : numL bi = none := by unfold numL; rw [hr]; exact if_neg he
        have hne : ((er : Int) != 0) = true := by simp; omega
        have HBAD := hide (hS.out.bad hlt hnum)
        clear hread hr hnum he hS
        go_wp2_with fail
        refine (HREAD.out _ ((hI.out.keep HW.out).keep hbel.out).rd).mono ?_
        rintro e w1 ⟨rfl, rfl⟩
        go_wp2_with fail
        go_ret3
        exact ⟨hbel.out, .inl ⟨HBAD.out, rfl⟩⟩
    · obtain rfl : i = k := by omega
      have HD := hide hS.out.done
      clear hS hlt
      go_wp2_with fail
      go_ret3
      exact ⟨hbel.out, .inr ⟨us, bi, _, _, HD.out, rfl, hO.out, hI.out⟩⟩
end Go.Proofs.Ytjchpnmipmplkaa
