/- WalLasts, for what it reads up to the given bulk: entries that were synced are there behind any crash, and behind them only a beginning of the others; no conditions of ours. -/
import Derived.Test.YtaoplofhogenmaaRows
import Derived.WalkKit
import Derived.ProofKit
import Derived.OpenShut
import Derived.ShutString
import Derived.ChangeOld
import Derived.Below
import Derived.JoinedCond
import Derived.Test.YtaoplofhogenmaaW19
import Derived.Test.YtaoplofhogenmaaW37
namespace Go.Proofs.Ytaoplofhogenmaa
open Go.ChangeShapes Go.WideShapes Go.ChangeAt Go.RowKit Go.Deep
open Go.ChangeMaps (open_string shut_string)
set_option linter.unusedVariables false
theorem bulk_len {H : Type} : ∀ (l : List (DataW H)), (∀ d ∈ l, 1 ≤ Rows.uptoBulk d) → l.length ≤ Rows.uptoBulkAll l
  | [], _ => Nat.zero_le _
  | x :: r, h => by
    have h1 := h x List.mem_cons_self
    have h2 := bulk_len r fun d hd => h d (List.mem_cons_of_mem _ hd)
    show r.length + 1 ≤ Rows.uptoBulk x + Rows.uptoBulkAll r
    omega
theorem rows_inU {H : Type} {enc : TypeId × Value → H} {W : World} {fuel : Nat} {a0 : Option Addr} {len0 cap0 : Nat} {x : DataW H × List MemPlace}
    (h : DataW.trod enc Try.prog W 0 (fun _ => true) true fuel 22 [.slice a0 len0 cap0] = some x) :
    ∃ xss : List (List Nat), IsM W a0 xss ∧ xss.length = len0 ∧ len0 ≤ Rows.uptoBulk x.1 ∧ (a0 = none → cap0 = 0) ∧ (∀ r ∈ xss, ∀ x ∈ r, x < 256) ∧ ∀ r ∈ xss, r.length ≤ Rows.uptoBulk x.1 := by
  obtain ⟨vs, xss, g1, g2, g3, g4, g5, g6⟩ := rows_in h
  have hb : len0 ≤ Rows.uptoBulk x.1 ∧ (a0 = none → cap0 = 0) := by
    rcases open_int_rows Try.underlying22 Try.underlying23 Try.underlying5 (by kernel_rfl) (by kernel_rfl) h with ⟨hcs, _⟩ | ⟨a, len, cap, A, L, C, Z, hcs, _, hl, hm, hx, hr⟩
    · simp at hcs
      obtain ⟨rfl, rfl, rfl⟩ := hcs
      exact ⟨Nat.zero_le _, fun _ => rfl⟩
    · simp at hcs
      obtain ⟨rfl, rfl, rfl⟩ := hcs
      refine ⟨?_, fun h => by cases h⟩
      rw [hx]
      refine Nat.le_trans ?_ (bulk_slice _ _)
      refine Nat.le_trans ?_ (bulk_len _ ?_)
      · simp
      · intro d hd
        obtain ⟨r, _, rfl⟩ := List.mem_map.1 hd
        unfold intRow
        cases A r with
        | none => exact Nat.le_refl _
        | some a' => exact Nat.le_add_left 1 _
  exact ⟨xss, ⟨vs, g2, g3⟩, by rw [← g3.1, g1], hb.1, hb.2, g4, g5⟩
theorem walLasts_own : ownKnob Try.prog.godebug = none := by kernel_rfl
theorem walLasts_laidOut : laidOutB Try.prog = true := by kernel_rfl
set_option maxRecDepth 100000 in
theorem walLasts_contract (H : Type) (enc : TypeId × Value → H) (W : World) (base : Nat) (args : Array Value) (ds gs : List (DataW H)) (before : List MemPlace)
    (hval0 : ∀ (j : Nat) t v, Try.f3.params[j]? = some t → args[j]? = some v → Value.okWide Try.prog W .any base t v)
    (hW : DataW.Whole enc Try.prog Try.f3.params.toList Rows.walLastsSpec.vars false W args.toList ds gs before) (hk : Rows.uptoSmall H (ds ++ gs) = true) :
    Calls Try.prog 3 args W fun e W' => ∃ v, e = .returned v ∧ Rows.walLastsSpec.post enc Try.prog Try.f3 false true false false W args v W' := by
  have hval : ∀ (j : Nat) t v, Try.f3.params[j]? = some t → args[j]? = some v → Value.okWide Try.prog W .any base t v := hval0
  have hW' := hW
  obtain ⟨p, q, hA0, hV, rfl, hfz, hnd⟩ := hW
  have hA : DataW.TrodAll enc Try.prog W 0 (fun _ => true) true Try.f3.params.toList args.toList ds p := hA0
  rw [Try.params3] at hA hval
  obtain ⟨v0, vs0, d0, ds0, p0, q0, hargs, rfl, rfl, h0, r0⟩ := trodAll_cons hA
  obtain ⟨v1, vs1, d1, ds1, p1, q1, rfl, rfl, rfl, h1, r1⟩ := trodAll_cons r0
  obtain ⟨v2, vs2, d2, ds2, p2, q2, rfl, rfl, rfl, h2, r2⟩ := trodAll_cons r1
  obtain ⟨rfl, rfl, rfl⟩ := trodAll_nil r2
  obtain rfl : args = #[v0, v1, v2] := by cases args; simp_all
  obtain ⟨rfl, rfl⟩ := trodVars_none hV
  obtain ⟨a0, len0, cap0, rfl⟩ := okWide_slice Try.underlying22 (hval 0 22 v0 rfl rfl)
  have k0 := h0
  have lt0 : ∀ x ∈ p0, x.block < W.heap.size := by obtain ⟨m, hm⟩ := k0; exact DataW.trod_lt m _ _ _ hm
  obtain ⟨a1, len1, cap1, rfl⟩ := okWide_slice Try.underlying22 (hval 1 22 v1 rfl rfl)
  have k1 := h1
  have lt1 : ∀ x ∈ p1, x.block < W.heap.size := by obtain ⟨m, hm⟩ := k1; exact DataW.trod_lt m _ _ _ hm
  have hbulk : Rows.uptoBulk d0 ≤ 1048576 ∧ Rows.uptoBulk d1 ≤ 1048576 := by
    have h := of_decide_eq_true hk
    simp only [List.append_nil, Rows.uptoBulkAll] at h
    omega
  obtain ⟨x0, w0, n0, l0, c0, y0, s0⟩ : ∃ xss : List (List Nat), IsM W a0 xss ∧ xss.length = len0 ∧ len0 ≤ 1048576 ∧ (a0 = none → cap0 = 0) ∧ (∀ r ∈ xss, ∀ x ∈ r, x < 256) ∧ ∀ r ∈ xss, r.length ≤ 1048576 := by
    obtain ⟨fuel, hf⟩ := h0
    obtain ⟨xss, g1, g2, g3, g4, g5, g6⟩ := rows_inU hf
    exact ⟨xss, g1, g2, Nat.le_trans g3 hbulk.1, g4, g5, fun r hr => Nat.le_trans (g6 r hr) hbulk.1⟩
  obtain ⟨x1, w1, n1, l1, c1, y1, s1⟩ : ∃ xss : List (List Nat), IsM W a1 xss ∧ xss.length = len1 ∧ len1 ≤ 1048576 ∧ (a1 = none → cap1 = 0) ∧ (∀ r ∈ xss, ∀ x ∈ r, x < 256) ∧ ∀ r ∈ xss, r.length ≤ 1048576 := by
    obtain ⟨fuel, hf⟩ := h1
    obtain ⟨xss, g1, g2, g3, g4, g5, g6⟩ := rows_inU hf
    exact ⟨xss, g1, g2, Nat.le_trans g3 hbulk.2, g4, g5, fun r hr => Nat.le_trans (g6 r hr) hbulk.2⟩
  obtain ⟨a2, rfl, rfl, rfl, w2⟩ := open_int Try.underlying3 (hval 2 3 v2 rfl rfl) h2
  clear hA0 hval0 hk
  refine (walLasts_walk a0 len0 cap0 x0 a1 len1 cap1 x1 a2 W w0 n0 l0 c0 y0 s0 w1 n1 l1 c1 y1 s1 w2).mono fun e W' ⟨he, bel⟩ => ?_
  subst he
  exact ⟨_, rfl, _, _, _, [], _, [], hW', trodAll_mk1 (shut_bool Try.underlying4 _), (trodAll_cons_mk (Below.trod walLasts_laidOut (by kernel_rfl) (of_decide_eq_true (by kernel_rfl)) k0 bel lt0) (trodAll_cons_mk (Below.trod walLasts_laidOut (by kernel_rfl) (of_decide_eq_true (by kernel_rfl)) k1 bel lt1) (trodAll_cons_mk (shut_int Try.underlying3 w2) trodAll_mk0))), rfl, bel.frame _, fun h => by cases h⟩
set_option maxRecDepth 100000 in
theorem walLasts_lifted (os : Os) (started : os.Started) (H : Type) (enc : TypeId × Value → H) (F : Stop.Interp) :
    ReturnsInHanded {} Try.checked os 3 .any ((Rows.OpenSpec.upto Rows.walLastsSpec).pre6 enc Try.prog Try.f3 Rows.walLastsUptoRow.domain false) (((Rows.OpenSpec.upto Rows.walLastsSpec).at F).post enc Try.prog Try.f3 false true false false) := by
  refine returnsInHanded_of_cond (C := Try.checked) (s := Rows.OpenSpec.upto Rows.walLastsSpec) (k := Rows.uptoSmall) rfl walLasts_own started (by kernel_rfl) Try.func3
    (OpenSpec.witness (enc := enc) (C := Try.checked) (s := Rows.OpenSpec.upto Rows.walLastsSpec) (k := Rows.uptoSmall) rfl false ⟨#[], #[.slice none 0 0, .slice none 0 0, .int .i64 0], []⟩ 8 (by kernel_rfl) (by kernel_rfl) (by kernel_rfl)
      (x := ([.nil, .nil, .lit (.int .i64 0)], [], [])) (by kernel_rfl) rfl (by kernel_rfl)) ?_
  intro W base args ds gs before hval hW _ hk _
  exact walLasts_contract H enc W base args ds gs before hval hW hk
theorem walLasts_over : Rows.walLastsUptoRow.holds Try.pinned (Rows.OpenSpec.upto Rows.walLastsSpec) :=
  OpenClaim.holds_of_cond 3 Try.f3 rfl rfl rfl rfl rfl rfl rfl ⟨rfl, rfl, rfl, rfl, rfl⟩ rfl rfl rfl rfl rfl (by kernel_rfl) Try.func3 (by kernel_rfl)
    (of_decide_eq_true (by kernel_rfl)) (by unfold Func.isWrapper; first | (rw [if_pos (by decide +kernel)]; kernel_rfl) | (rw [if_neg (by decide +kernel)]; exact ⟨rfl, rfl⟩))
    (fun os started H enc _ F => walLasts_lifted os started H enc F)
theorem walLasts_proved : Rows.WalLastsUptoSaid := walLasts_over
#print axioms walLasts_proved
end Go.Proofs.Ytaoplofhogenmaa
