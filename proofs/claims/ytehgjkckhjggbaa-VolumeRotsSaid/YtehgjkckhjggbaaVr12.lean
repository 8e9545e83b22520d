/- The contract of needle.Encode: of any needle its bytes, or the error. No condition but the widths. -/
import Derived.Test.YtehgjkckhjggbaaVr11
import Derived.Test.YtehgjkckhjggbaaVr7
import Derived.Test.YtehgjkckhjggbaaVr9
namespace Go.Proofs.Ytehgjkckhjggbaa
open Go.RowKit
theorem box4 (w : World) (v0 v1 v2 v3 : Value) (T : TypeId) (b : Nat) (hb : b = w.heap.size) :
    (w.alloc (.cells #[v0, v1, v2, v3] T)).cell? ⟨b, 0, none⟩ = some v0 ∧ (w.alloc (.cells #[v0, v1, v2, v3] T)).cell? ⟨b, 1, none⟩ = some v1 ∧ (w.alloc (.cells #[v0, v1, v2, v3] T)).cell? ⟨b, 2, none⟩ = some v2 ∧ (w.alloc (.cells #[v0, v1, v2, v3] T)).cell? ⟨b, 3, none⟩ = some v3 := by
  subst hb
  have h : ∀ i v, #[v0, v1, v2, v3][i]? = some v → (w.alloc (.cells #[v0, v1, v2, v3] T)).cell? ⟨w.heap.size, i, none⟩ = some v := fun i v hv => by
    rw [← hv]
    exact cell_of_row _ _ _ _ _ (0, 0) (heap_alloc_new w _)
  exact ⟨h 0 _ rfl, h 1 _ rfl, h 2 _ rfl, h 3 _ rfl⟩
set_option maxRecDepth 100000 in
set_option maxHeartbeats 1600000 in
theorem ndenc_ok (key cook : Nat) (d : Bool) (A : Option Addr) (n c : Nat) (data : List Nat) (w : World) (hA : IsB w (.slice A n c) data) (hn : data.length = n) (hb : ∀ x ∈ data, x < 256) (hk : key < 18446744073709551616) (hc : cook < 4294967296) (hl : n ≤ 65536) (hd : ¬ (d = true ∧ 0 < n)) :
    Calls Try.prog 42 #[.agg #[.int .u64 (key : Int), .int .u32 (cook : Int), .bool d, .slice A n c]] w fun e w' => ∃ s, e = .returned (.tuple #[s, .int .i64 0]) ∧ Own w' w.heap.size s (needleL key cook d data) ∧ Below w.heap.size w w' := by
  obtain ⟨H, hH⟩ : ∃ H, H = head24 key cook d n := ⟨_, rfl⟩
  have hHl : H.length = 24 := by rw [hH]; exact head24_len _ _ _ _
  obtain ⟨R, hR⟩ : ∃ R, R = needleL key cook d data := ⟨_, rfl⟩
  obtain ⟨T, hT⟩ : ∃ T, T = ndTail data := ⟨_, rfl⟩
  have hTl : T.length ≤ 12 ∧ T.length = ndSize n - 24 - n := by
    have h1 := ndTail_len data (by omega)
    have h2 := ndSize_ge n hl
    rw [hT, h1, hn]
    omega
  have HR : Hid ([H, data, T].flatten = R) := hide (by rw [hR, hT, hH]; unfold needleL; rw [hn]; simp)
  rw [← hR]
  have HE := hide (And.intro hH (And.intro hHl (And.intro hT hTl)))
  clear hH hR hT hHl hTl
  have HA := hide hA
  have HN := hide hn
  have HB := hide hb
  have kw := below_alloc w (.cells #[.int .u64 (key : Int), .int .u32 (cook : Int), .bool d, .slice A n c] 35)
  obtain ⟨b, hbb⟩ : ∃ b, b = w.heap.size := ⟨_, rfl⟩
  obtain ⟨c0, c1, c2, c3⟩ := box4 w (.int .u64 (key : Int)) (.int .u32 (cook : Int)) (.bool d) (.slice A n c) 35 b hbb
  obtain ⟨W, hW⟩ : ∃ W, W = w.alloc (.cells #[.int .u64 (key : Int), .int .u32 (cook : Int), .bool d, .slice A n c] 35) := ⟨_, rfl⟩
  rw [← hW] at c0 c1 c2 c3 kw
  have hlt : b < W.heap.size := by rw [hW, hbb]; simp
  have KW := hide kw
  have HW := hide (And.intro hW hbb)
  have LT := hide hlt
  clear hA hn hb hW hbb kw hlt
  have hgo : d = true ∧ ¬ ((0 : Int) < (n : Int)) ∨ d = false := by
    rcases d
    · exact .inr rfl
    · exact .inl ⟨rfl, fun h => hd ⟨rfl, by omega⟩⟩
  clear hd
  rcases hgo with ⟨rfl, hz⟩ | rfl
  all_goals
    go_enter Try.func42, Try.ntmps42
    go_wp2_with fail
    rw [← HW.out.1, ← HW.out.2]
    refine (headOf_any key cook _ A n c n W hk hc (by omega)).mono ?_
    rw [← HE.out.1]
    rintro e w1 ⟨rfl, k1⟩
    have c3 := (k1.cell (p := ⟨b, 3, none⟩) LT.out).trans c3
    have K1 := hide (below_step KW.out k1)
    have LT1 : Hid (b < w1.heap.size) := hide (Nat.lt_of_lt_of_le LT.out k1.size)
    clear c0 c1 c2 k1
    go_wp2_with (with_reducible refine halt_store 141 _ _ rfl ?_)
    refine ⟨?_⟩
    refine wpList_store_row rfl 141 (.tmp 4) (.tmp 21) rfl w1.heap.size (u8s H).toArray rfl rfl 141 #[.int .u8 0, .int .u8 0, .int .u8 0, .int .u8 0, .int .u8 0, .int .u8 0, .int .u8 0, .int .u8 0, .int .u8 0, .int .u8 0, .int .u8 0, .int .u8 0, .int .u8 0, .int .u8 0, .int .u8 0, .int .u8 0, .int .u8 0, .int .u8 0, .int .u8 0, .int .u8 0, .int .u8 0, .int .u8 0, .int .u8 0, .int .u8 0] (heap_alloc_new w1 _) (by rw [Try.info_head, len24 HE.out.2.1]) (by rw [len24 HE.out.2.1]; rfl) (u8s_all _) ?_
    have hrow := setRow_heap (w1.alloc (.cells #[.int .u8 0, .int .u8 0, .int .u8 0, .int .u8 0, .int .u8 0, .int .u8 0, .int .u8 0, .int .u8 0, .int .u8 0, .int .u8 0, .int .u8 0, .int .u8 0, .int .u8 0, .int .u8 0, .int .u8 0, .int .u8 0, .int .u8 0, .int .u8 0, .int .u8 0, .int .u8 0, .int .u8 0, .int .u8 0, .int .u8 0, .int .u8 0] 141)) w1.heap.size #[.int .u8 0, .int .u8 0, .int .u8 0, .int .u8 0, .int .u8 0, .int .u8 0, .int .u8 0, .int .u8 0, .int .u8 0, .int .u8 0, .int .u8 0, .int .u8 0, .int .u8 0, .int .u8 0, .int .u8 0, .int .u8 0, .int .u8 0, .int .u8 0, .int .u8 0, .int .u8 0, .int .u8 0, .int .u8 0, .int .u8 0, .int .u8 0] (u8s H).toArray 141 (0, 0) (heap_alloc_new w1 _)
    have kz : Below w1.heap.size w1 ((w1.alloc (.cells #[.int .u8 0, .int .u8 0, .int .u8 0, .int .u8 0, .int .u8 0, .int .u8 0, .int .u8 0, .int .u8 0, .int .u8 0, .int .u8 0, .int .u8 0, .int .u8 0, .int .u8 0, .int .u8 0, .int .u8 0, .int .u8 0, .int .u8 0, .int .u8 0, .int .u8 0, .int .u8 0, .int .u8 0, .int .u8 0, .int .u8 0, .int .u8 0] 141)).setRow w1.heap.size (u8s H).toArray) := below_setRow (below_alloc w1 _) (Nat.le_refl _) _
    generalize (w1.alloc (.cells #[.int .u8 0, .int .u8 0, .int .u8 0, .int .u8 0, .int .u8 0, .int .u8 0, .int .u8 0, .int .u8 0, .int .u8 0, .int .u8 0, .int .u8 0, .int .u8 0, .int .u8 0, .int .u8 0, .int .u8 0, .int .u8 0, .int .u8 0, .int .u8 0, .int .u8 0, .int .u8 0, .int .u8 0, .int .u8 0, .int .u8 0, .int .u8 0] 141)).setRow w1.heap.size (u8s H).toArray = W2 at hrow kz ⊢
    generalize hg : w1.heap.size = g at hrow ⊢
    have c3w := (kz.cell (p := ⟨b, 3, none⟩) LT1.out).trans c3
    have IH : Hid (IsB W2 (.slice (some ⟨g, 0, none⟩) 24 24) H) := hide (by
      have := isB_in hrow 0 24 24 (by rw [HE.out.2.1]; decide) (by decide) (by decide)
      rwa [List.drop_zero, List.take_of_length_le (by rw [HE.out.2.1]; exact Nat.le_refl _)] at this)
    have K2 := hide (below_step K1.out kz)
    have I2 := hide (HA.out.keep K2.out)
    have LT2 : Hid (b < W2.heap.size) := hide (Nat.lt_of_lt_of_le LT1.out kz.size)
    have KZ : Below W2.heap.size W2 W2 := Below.refl _ _
    have KZ := hide KZ
    obtain ⟨tl, htl⟩ : ∃ tl, tl = T.length := ⟨_, rfl⟩
    have HTL := hide htl
    clear hrow kz hg c3 htl
    go_wp2_with fail
    go_region_law (first
      | (go_simp; go_at_call 85; refine (tail_any A n c data _ (by exact I2.out) HN.out HB.out hl).mono ?_; rintro e w3 ⟨s3, rfl, o3, k3⟩; rw [← HE.out.2.2.1] at o3; obtain ⟨A3, c3', rfl, i3, l3, m3⟩ := o3.isB.form (n := tl) HTL.out.symm; have K3 : Hid (Below W2.heap.size W2 w3) := hide (by refine Below.trans ?_ k3; exact ⟨KZ.out.os, KZ.out.tape, KZ.out.output, KZ.out.size, KZ.out.block⟩); have c3y : w3.cell? ⟨b, 3, none⟩ = some (.slice A n c) := (K3.out.cell (p := ⟨b, 3, none⟩) LT2.out).trans c3w; have I3 := hide i3; clear o3 i3 k3)
      | (go_simp; go_at_call 84; have nb : Below w3.heap.size w3 (w3.alloc (.cells #[.slice (some ⟨g, 0, none⟩) 24 24, .slice A n c, .slice A3 tl c3'] 23)) := below_alloc _ _; refine (concat_any _ 3 3 [.slice (some ⟨g, 0, none⟩) 24 24, .slice A n c, .slice A3 tl c3'] [H, data, T] _ (rdV_new w3 _ _ _ _ rfl rfl) rfl (isBs3 ((IH.out.keep K3.out).keep nb) ((I2.out.keep K3.out).keep nb) (I3.out.keep nb)) (by rw [List.flatten_cons, List.flatten_cons, List.flatten_cons, List.flatten_nil, List.append_nil, List.length_append, List.length_append, HE.out.2.1, HN.out, ← HTL.out]; have := HE.out.2.2.2.1; rw [← HTL.out] at this; omega) (by decide)).mono ?_; rintro e w4 ⟨s4, rfl, o4, k4⟩; rw [HR.out] at o4; have O4 : Hid (Own w4 w.heap.size s4 R) := hide (o4.more (Nat.le_trans K2.out.size (Nat.le_trans K3.out.size nb.size))); have K4 : Hid (Below w.heap.size w w4) := hide (below_step (below_step (below_step K2.out K3.out) nb) k4); clear o4 k4))
    all_goals
      go_wp2_with fail
      go_ret2
      exact ⟨_, rfl, O4.out, K4.out⟩
theorem ndenc_bad (er : Nat) (key cook : Nat) (d : Bool) (A : Option Addr) (n c : Nat) (w : World) (hm : n ≤ 9223372036854775807) (h : er = 1 ∧ d = true ∧ 0 < n ∨ er = 5 ∧ d = false ∧ 65536 < n) :
    Calls Try.prog 42 #[.agg #[.int .u64 (key : Int), .int .u32 (cook : Int), .bool d, .slice A n c]] w fun e w' => e = .returned (.tuple #[.slice none 0 0, .int .i64 (er : Int)]) ∧ Below w.heap.size w w' := by
  have kw := below_alloc w (.cells #[.int .u64 (key : Int), .int .u32 (cook : Int), .bool d, .slice A n c] 35)
  rcases h with ⟨rfl, rfl, h⟩ | ⟨rfl, rfl, h⟩
  all_goals
    have hz : (0 : Int) < (n : Int) := by omega
    go_enter Try.func42, Try.ntmps42
    go_wp2_with fail
    go_ret2
    exact ⟨rfl, kw⟩
/-- Of any needle: its bytes, or the error. -/
theorem ndenc_any (key cook : Nat) (d : Bool) (A : Option Addr) (n c : Nat) (data : List Nat) (w : World) (hA : IsB w (.slice A n c) data) (hn : data.length = n) (hb : ∀ x ∈ data, x < 256) (hk : key < 18446744073709551616) (hc : cook < 4294967296) :
    Calls Try.prog 42 #[.agg #[.int .u64 (key : Int), .int .u32 (cook : Int), .bool d, .slice A n c]] w fun e w' => ∃ s, e = .returned (.tuple #[s, .int .i64 ((encN key cook d data).2 : Nat)]) ∧ Own w' w.heap.size s (encN key cook d data).1 ∧ Below w.heap.size w w' := by
  have hm := (isB_len hA).2
  by_cases h1 : d = true ∧ 0 < n
  · have e : encN key cook d data = ([], 1) := by unfold encN; rw [if_pos (by rw [hn]; exact h1)]
    rw [e]
    refine (ndenc_bad 1 key cook d A n c w (by omega) (.inl ⟨rfl, h1⟩)).mono ?_
    rintro e w' ⟨rfl, k⟩
    exact ⟨_, rfl, World.ownsRow_nil _ _ _ _, k⟩
  · by_cases h2 : 65536 < n
    · have e : encN key cook d data = ([], 5) := by unfold encN; rw [if_neg (by rw [hn]; exact h1), if_pos (by rw [hn]; exact h2)]
      rw [e]
      refine (ndenc_bad 5 key cook d A n c w (by omega) (.inr ⟨rfl, ?_, h2⟩)).mono ?_
      · rcases d
        · rfl
        · exact absurd ⟨rfl, by omega⟩ h1
      · rintro e w' ⟨rfl, k⟩
        exact ⟨_, rfl, World.ownsRow_nil _ _ _ _, k⟩
    · have e : encN key cook d data = (needleL key cook d data, 0) := by unfold encN; rw [if_neg (by rw [hn]; exact h1), if_neg (by rw [hn]; exact h2)]
      rw [e]
      exact ndenc_ok key cook d A n c data w hA hn hb hk hc (by omega) h1
end Go.Proofs.Ytehgjkckhjggbaa
