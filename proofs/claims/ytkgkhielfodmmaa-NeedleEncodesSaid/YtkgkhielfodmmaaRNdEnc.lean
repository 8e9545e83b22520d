/- The contract of the document's own Encode of needles. No condition but the widths. -/
import Derived.Test.YtkgkhielfodmmaaRSum
import Derived.Test.YtkgkhielfodmmaaRFix8
import Derived.Test.YtkgkhielfodmmaaNdEnc
namespace Go.Proofs.Ytkgkhielfodmmaa
open Go.RowKit
def sliceLen : Value → Nat
  | .slice _ n _ => n
  | _ => 0
set_option maxRecDepth 100000 in
set_option maxHeartbeats 3200000 in
theorem rndenc_ok (key cook : Nat) (d : Bool) (A : Option Addr) (n c : Nat) (data : List Nat) (w : World) (hA : IsB w (.slice A n c) data) (hn : data.length = n) (hb : ∀ x ∈ data, x < 256) (hk : key < 18446744073709551616) (hc : cook < 4294967296) (hl : n ≤ 65536) (hd : ¬ (d = true ∧ 0 < n)) :
    Calls Try.prog 10 #[.agg #[.int .u64 (key : Int), .int .u32 (cook : Int), .bool d, .slice A n c]] w fun e w' => ∃ s, e = .returned (.tuple #[s, .int .i64 0]) ∧ Own w' w.heap.size s (needleL key cook d data) ∧ Below w.heap.size w w' := by
  obtain ⟨R, hR⟩ : ∃ R, R = needleL key cook d data := ⟨_, rfl⟩
  rw [← hR]
  have HR := hide hR
  clear hR
  have HA := hide hA
  have HN := hide hn
  have HB := hide hb
  have hwl : IntKind.u32.wrap (n : Int) = (n : Int) := by rw [IntKind.wrap_u32]; omega
  have kw := below_alloc w (.cells #[.int .u64 (key : Int), .int .u32 (cook : Int), .bool d, .slice A n c] 26)
  obtain ⟨b, hbb⟩ : ∃ b, b = w.heap.size := ⟨_, rfl⟩
  obtain ⟨c0, c1, c2, c3⟩ := box4 w (.int .u64 (key : Int)) (.int .u32 (cook : Int)) (.bool d) (.slice A n c) 26 b hbb
  obtain ⟨W, hW⟩ : ∃ W, W = w.alloc (.cells #[.int .u64 (key : Int), .int .u32 (cook : Int), .bool d, .slice A n c] 26) := ⟨_, rfl⟩
  rw [← hW] at c0 c1 c2 c3 kw
  have LT : Hid (b < W.heap.size) := hide (by rw [hW, hbb]; simp)
  have KW := hide kw
  have HW := hide (And.intro hW hbb)
  have C1 := hide c1
  have C3 := hide c3
  clear hA hn hb hW hbb kw
  have hgo : d = true ∧ ¬ ((0 : Int) < (n : Int)) ∨ d = false := by
    rcases d
    · exact .inr rfl
    · exact .inl ⟨rfl, fun h => hd ⟨rfl, by omega⟩⟩
  clear hd
  obtain ⟨L1, hL1⟩ : ∃ L, L = [110, 100, dbit d, 0] := ⟨_, rfl⟩
  have HL1 : Hid (L1.length = 4 ∧ (∀ x ∈ L1, x < 256)) := hide (by rw [hL1]; exact ⟨rfl, by intro x hx; have := dbit_le d; simp at hx; omega⟩)
  have ol : ∀ (cs : Array Value), cs = (u8s L1).toArray → Own (W.alloc (.cells cs 5)) W.heap.size (.slice (some ⟨b + 1, 0, none⟩) 4 4) L1 := fun cs h => by
    have := own_lit W cs L1 (by rw [h]; rfl) (by rw [HL1.out.1]; decide)
    rw [HL1.out.1] at this
    have hz : W.heap.size = b + 1 := by rw [HW.out.1, HW.out.2]; simp
    rwa [hz] at this ⊢
  have OL := hide ol
  have E1 := hide hL1
  clear ol hL1
  rcases hgo with ⟨rfl, hz⟩ | rfl
  · go_enter Try.func10, Try.ntmps10
    go_wp2_with fail
    rw [← HW.out.1, ← HW.out.2]
    have o0 := OL.out #[.int .u8 110, .int .u8 100, .int .u8 1, .int .u8 0] (by rw [E1.out]; rfl)
    have k0 : Below W.heap.size W (W.alloc (.cells #[.int .u8 110, .int .u8 100, .int .u8 1, .int .u8 0] 5)) := below_alloc _ _
    generalize W.alloc (.cells #[.int .u8 110, .int .u8 100, .int .u8 1, .int .u8 0] 5) = w0 at o0 k0 ⊢
    obtain ⟨s0, hs0⟩ : ∃ s, s = Value.slice (some ⟨b + 1, 0, none⟩) 4 4 := ⟨_, rfl⟩
    rw [← hs0] at o0 ⊢
    clear hs0
    have O0 := hide o0
    have K0 := hide k0
    clear o0 k0 c0 c1 c2 c3
    refine (rput64_any key _ hk).mono ?_
    rintro e v0 ⟨t0, rfl, p0, q0⟩
    have P0 := hide p0.isB
    have OO0 := hide (O0.out.keep q0)
    have KK0 := hide (K0.out.trans (q0.mono K0.out.size))
    clear p0 q0 O0 K0
    go_wp2_with (at_builtin; refine halt ?_)
    refine ⟨?_⟩
    refine wpList_append_bytes rfl (.tmp 22) (.tmp 25) rfl W.heap.size _ L1 rfl OO0.out _ (be64 key) rfl P0.out (by rw [HL1.out.1, be64_len]; omega) KK0.out.size ?_
    intro s1 w1 o1 k1
    obtain ⟨L2, hL2⟩ : ∃ L, L = L1 ++ be64 key := ⟨_, rfl⟩
    rw [← hL2] at o1
    have HL2 : Hid (L2.length = 12 ∧ (∀ x ∈ L2, x < 256)) := hide (by rw [hL2]; exact ⟨by have z1 := HL1.out.1; have z2 := be64_len key; rw [List.length_append]; omega, byte_app HL1.out.2 (be64_byte _)⟩)
    have E2 := hide hL2
    have O1 := hide o1
    have K1 := hide (KK0.out.trans k1)
    clear o1 k1 hL2 KK0 OO0
    have c1 := (K1.out.cell (p := ⟨b, 1, none⟩) LT.out).trans C1.out
    go_wp2_with fail
    refine (rput32_any _ cook rfl _ hc).mono ?_
    rintro e v1 ⟨t1, rfl, p1, q1⟩
    have P1 := hide p1.isB
    have OO1 := hide (O1.out.keep q1)
    have KK1 := hide (K1.out.trans (q1.mono K1.out.size))
    clear p1 q1 O1 K1
    go_wp2_with (at_builtin; refine halt ?_)
    refine ⟨?_⟩
    refine wpList_append_bytes rfl (.tmp 27) (.tmp 30) rfl W.heap.size _ L2 rfl OO1.out _ (be32 cook) rfl P1.out (by rw [HL2.out.1, be32_len]; omega) KK1.out.size ?_
    intro s2 w2 o2 k2
    obtain ⟨L3, hL3⟩ : ∃ L, L = L2 ++ be32 cook := ⟨_, rfl⟩
    rw [← hL3] at o2
    have HL3 : Hid (L3.length = 16 ∧ (∀ x ∈ L3, x < 256)) := hide (by rw [hL3]; exact ⟨by have z1 := HL2.out.1; have z2 := be32_len cook; rw [List.length_append]; omega, byte_app HL2.out.2 (be32_byte _)⟩)
    have E3 := hide hL3
    have O2 := hide o2
    have K2 := hide (KK1.out.trans k2)
    clear o2 k2 hL3 KK1 OO1
    have c3 := (K2.out.cell (p := ⟨b, 3, none⟩) LT.out).trans C3.out
    go_wp2_with fail
    refine (rput32_any _ n (by first | rfl | exact hwl) _ (by omega)).mono ?_
    rintro e v2 ⟨t2, rfl, p2, q2⟩
    have P2 := hide p2.isB
    have OO2 := hide (O2.out.keep q2)
    have KK2 := hide (K2.out.trans (q2.mono K2.out.size))
    clear p2 q2 O2 K2
    go_wp2_with (at_builtin; refine halt ?_)
    refine ⟨?_⟩
    refine wpList_append_bytes rfl (.tmp 32) (.tmp 37) rfl W.heap.size _ L3 rfl OO2.out _ (be32 n) rfl P2.out (by rw [HL3.out.1, be32_len]; omega) KK2.out.size ?_
    intro s3 w3 o3 k3
    obtain ⟨L4, hL4⟩ : ∃ L, L = L3 ++ be32 n := ⟨_, rfl⟩
    rw [← hL4] at o3
    have HL4 : Hid (L4.length = 20 ∧ (∀ x ∈ L4, x < 256)) := hide (by rw [hL4]; exact ⟨by have z1 := HL3.out.1; have z2 := be32_len n; rw [List.length_append]; omega, byte_app HL3.out.2 (be32_byte _)⟩)
    have E4 := hide hL4
    have O3 := hide o3
    have K3 := hide (KK2.out.trans k3)
    clear o3 k3 hL4 KK2 OO2
    obtain ⟨A3, f3, rfl, i3, _, _⟩ := O3.out.isB.form (n := 20) HL4.out.1
    have I3 := hide i3
    clear i3
    go_wp2_with fail
    refine (rsum_any A3 20 f3 L4 _ I3.out.rd HL4.out.1.symm HL4.out.2 (by decide)).mono ?_
    rintro e u3 ⟨rfl, x3⟩
    obtain ⟨S3, hS3⟩ : ∃ S, S = sumS L4 := ⟨_, rfl⟩
    have hs3 : S3 < 4294967296 := by rw [hS3]; unfold sumS; omega
    rw [← hS3]
    have HS3 := hide hS3
    have O3 := hide (O3.out.keep x3)
    have K3 := hide (K3.out.trans (x3.mono K3.out.size))
    clear x3 hS3 I3
    go_wp2_with fail
    refine (rput32_any _ S3 rfl _ hs3).mono ?_
    rintro e v3 ⟨t3, rfl, p3, q3⟩
    have P3 := hide p3.isB
    have OO3 := hide (O3.out.keep q3)
    have KK3 := hide (K3.out.trans (q3.mono K3.out.size))
    clear p3 q3 O3 K3
    go_wp2_with (at_builtin; refine halt ?_)
    refine ⟨?_⟩
    refine wpList_append_bytes rfl (.tmp 39) (.tmp 42) rfl W.heap.size _ L4 rfl OO3.out _ (be32 S3) rfl P3.out (by rw [HL4.out.1, be32_len]; omega) KK3.out.size ?_
    intro s4 w4 o4 k4
    obtain ⟨L5, hL5⟩ : ∃ L, L = L4 ++ be32 S3 := ⟨_, rfl⟩
    rw [← hL5] at o4
    have HL5 : Hid (L5.length = 24 ∧ (∀ x ∈ L5, x < 256)) := hide (by rw [hL5]; exact ⟨by have z1 := HL4.out.1; have z2 := be32_len S3; rw [List.length_append]; omega, byte_app HL4.out.2 (be32_byte _)⟩)
    have E5 := hide hL5
    have O4 := hide o4
    have K4 := hide (KK3.out.trans k4)
    clear o4 k4 hL5 KK3 OO3
    have c3 := (K4.out.cell (p := ⟨b, 3, none⟩) LT.out).trans C3.out
    have KK4 := hide K4.out
    have OO4 := hide O4.out
    have ID4 := hide (HA.out.keep (below_step KW.out K4.out))
    go_wp2_with (at_builtin; refine halt ?_)
    refine ⟨?_⟩
    refine wpList_append_bytes rfl (.tmp 44) (.tmp 46) rfl W.heap.size _ L5 rfl OO4.out _ data rfl ID4.out (by rw [HL5.out.1, HN.out]; omega) KK4.out.size ?_
    clear c3
    intro s5 w5 o5 k5
    obtain ⟨L6, hL6⟩ : ∃ L, L = L5 ++ data := ⟨_, rfl⟩
    rw [← hL6] at o5
    have HL6 : Hid (L6.length = 24 + n ∧ (∀ x ∈ L6, x < 256)) := hide (by rw [hL6]; exact ⟨by have z1 := HL5.out.1; have z2 := HN.out; rw [List.length_append]; omega, byte_app HL5.out.2 (HB.out)⟩)
    have E6 := hide hL6
    have O5 := hide o5
    have K5 := hide (KK4.out.trans k5)
    clear o5 k5 hL6 KK4 OO4
    have c3 := (K5.out.cell (p := ⟨b, 3, none⟩) LT.out).trans C3.out
    have ID5 := hide (HA.out.keep (below_step KW.out K5.out))
    go_wp2_with fail
    refine (rsum_any A n c data _ ID5.out.rd HN.out.symm HB.out (by omega)).mono ?_
    rintro e u5 ⟨rfl, x5⟩
    obtain ⟨S5, hS5⟩ : ∃ S, S = sumS data := ⟨_, rfl⟩
    have hs5 : S5 < 4294967296 := by rw [hS5]; unfold sumS; omega
    rw [← hS5]
    have HS5 := hide hS5
    have O5 := hide (O5.out.keep x5)
    have K5 := hide (K5.out.trans (x5.mono K5.out.size))
    clear x5 hS5 c3
    go_wp2_with fail
    refine (rput32_any _ S5 rfl _ hs5).mono ?_
    rintro e v5 ⟨t5, rfl, p5, q5⟩
    have P5 := hide p5.isB
    have OO5 := hide (O5.out.keep q5)
    have KK5 := hide (K5.out.trans (q5.mono K5.out.size))
    clear p5 q5 O5 K5
    go_wp2_with (at_builtin; refine halt ?_)
    refine ⟨?_⟩
    refine wpList_append_bytes rfl (.tmp 48) (.tmp 52) rfl W.heap.size _ L6 rfl OO5.out _ (be32 S5) rfl P5.out (by rw [HL6.out.1, be32_len]; omega) KK5.out.size ?_
    intro s6 w6 o6 k6
    obtain ⟨L7, hL7⟩ : ∃ L, L = L6 ++ be32 S5 := ⟨_, rfl⟩
    rw [← hL7] at o6
    have HL7 : Hid (L7.length = 28 + n ∧ (∀ x ∈ L7, x < 256)) := hide (by rw [hL7]; exact ⟨by have z1 := HL6.out.1; have z2 := be32_len S5; rw [List.length_append]; omega, byte_app HL6.out.2 (be32_byte _)⟩)
    have E7 := hide hL7
    have O6 := hide o6
    have K6 := hide (KK5.out.trans k6)
    clear o6 k6 hL7 KK5 OO5
    obtain ⟨A6, f6, rfl, i6, _, _⟩ := O6.out.isB.form (n := 28 + n) HL7.out.1
    have hg := ndSize_ge n hl
    have hmod := ndSize_mod n
    obtain ⟨m, hm⟩ : ∃ m, m = ndSize n := ⟨_, rfl⟩
    rw [← hm] at hg hmod
    have HM := hide hm
    obtain ⟨pad, hpad⟩ : ∃ pd, pd = m - 28 - n := ⟨_, rfl⟩
    have hp : 28 + n + pad = m := by omega
    have HP := hide hp
    have RR : Hid (R = L7 ++ List.replicate pad 0) := hide (by
      rw [HR.out, E7.out, E6.out, E5.out, E4.out, E3.out, E2.out, E1.out, HS5.out, HS3.out, E4.out, E3.out, E2.out, E1.out]
      unfold needleL head24 head20 ndTail
      rw [HN.out, ← HM.out, hpad]
      simp)
    have HPD := hide hpad
    have HMD := hide hmod
    have HG := hide hg
    clear i6 hm hp hpad hmod hg
    go_wp2_with fail
    go_loopw [4] (fun s wr => ∃ (k : Nat) (X : Option Addr) (f : Nat), k ≤ pad ∧ s = .slice X (28 + n + k) f ∧ Hid (Own wr W.heap.size (.slice X (28 + n + k) f) (L7 ++ List.replicate k 0)) ∧ Hid (Below W.heap.size W wr)) (fun s _ => 28 + n + pad - sliceLen s)
    case atStart => exact ⟨0, _, _, Nat.zero_le _, rfl, hide (by rw [List.replicate_zero, List.append_nil]; exact O6.out), K6⟩
    case round =>
      obtain ⟨k, X, f, hk9, rfl, hown, hbel⟩ := hrel
      obtain ⟨q, hq⟩ : ∃ q, q = 28 + n + k := ⟨_, rfl⟩
      rw [← hq] at hown ⊢
      have hpp := HP.out
      have hmm := HMD.out
      have hgg := HG.out
      have hq0 : 0 ≤ (q : Int) := by omega
      have hq1 : q ≤ 70000 := by omega
      by_cases hlt : k < pad
      · have hne : (((q : Int) % 8) != 0) = true := by simp only [bne_iff_ne, ne_eq]; omega
        have HQ := hide hq
        have hlen : (L7 ++ List.replicate k 0).length = q := by rw [List.length_append, List.length_replicate, HL7.out.1, hq]
        have HLN := hide hlen
        have HLT := hide hlt
        clear hq hlt hpp hmm hgg hlen hq0
        go_wp2_with (at_builtin; refine halt ?_)
        refine ⟨?_⟩
        have ka := below_alloc wr (.cells #[.int .u8 0] 5)
        refine wpList_append_bytes rfl (.tmp 58) (.tmp 59) rfl W.heap.size _ (L7 ++ List.replicate k 0) rfl (hown.out.keep ka) _ [0] rfl (isB_new wr _ [0] rfl (by decide) _ _ rfl rfl) (by rw [HLN.out]; simp; omega) (Nat.le_trans hbel.out.size ka.size) ?_
        intro s9 w9 o9 k9
        have e9 : L7 ++ List.replicate k 0 ++ [0] = L7 ++ List.replicate (k + 1) 0 := by rw [List.append_assoc, List.replicate_succ']
        rw [e9] at o9
        obtain ⟨X9, f9, rfl, i9, _, _⟩ := o9.isB.form (n := 28 + n + (k + 1)) (by rw [List.length_append, List.length_replicate, HL7.out.1])
        have O9 := hide o9
        have K9 := hide ((hbel.out.trans (ka.mono hbel.out.size)).trans k9)
        clear ka o9 k9 i9 e9
        go_wp2_with fail
        go_roundw
        case rel => exact ⟨k + 1, X9, f9, by have := HLT.out; omega, rfl, O9, K9⟩
        case measure => have := HQ.out; have := HLT.out; simp only [sliceLen]; omega
      · have hkp : k = pad := by omega
        have hne : (((q : Int) % 8) != 0) = false := by simp only [bne_eq_false_iff_eq]; omega
        have OF : Hid (Own wr W.heap.size (.slice X q f) R) := hide (by rw [RR.out, ← hkp]; exact hown.out)
        clear hq hlt hpp hmm hgg hq0 hkp
        go_wp2_with fail
        go_ret2
        exact ⟨_, rfl, OF.out.more KW.out.size, below_step KW.out hbel.out⟩
  · go_enter Try.func10, Try.ntmps10
    go_wp2_with fail
    rw [← HW.out.1, ← HW.out.2]
    have o0 := OL.out #[.int .u8 110, .int .u8 100, .int .u8 0, .int .u8 0] (by rw [E1.out]; rfl)
    have k0 : Below W.heap.size W (W.alloc (.cells #[.int .u8 110, .int .u8 100, .int .u8 0, .int .u8 0] 5)) := below_alloc _ _
    generalize W.alloc (.cells #[.int .u8 110, .int .u8 100, .int .u8 0, .int .u8 0] 5) = w0 at o0 k0 ⊢
    obtain ⟨s0, hs0⟩ : ∃ s, s = Value.slice (some ⟨b + 1, 0, none⟩) 4 4 := ⟨_, rfl⟩
    rw [← hs0] at o0 ⊢
    clear hs0
    have O0 := hide o0
    have K0 := hide k0
    clear o0 k0 c0 c1 c2 c3
    refine (rput64_any key _ hk).mono ?_
    rintro e v0 ⟨t0, rfl, p0, q0⟩
    have P0 := hide p0.isB
    have OO0 := hide (O0.out.keep q0)
    have KK0 := hide (K0.out.trans (q0.mono K0.out.size))
    clear p0 q0 O0 K0
    go_wp2_with (at_builtin; refine halt ?_)
    refine ⟨?_⟩
    refine wpList_append_bytes rfl (.tmp 22) (.tmp 25) rfl W.heap.size _ L1 rfl OO0.out _ (be64 key) rfl P0.out (by rw [HL1.out.1, be64_len]; omega) KK0.out.size ?_
    intro s1 w1 o1 k1
    obtain ⟨L2, hL2⟩ : ∃ L, L = L1 ++ be64 key := ⟨_, rfl⟩
    rw [← hL2] at o1
    have HL2 : Hid (L2.length = 12 ∧ (∀ x ∈ L2, x < 256)) := hide (by rw [hL2]; exact ⟨by have z1 := HL1.out.1; have z2 := be64_len key; rw [List.length_append]; omega, byte_app HL1.out.2 (be64_byte _)⟩)
    have E2 := hide hL2
    have O1 := hide o1
    have K1 := hide (KK0.out.trans k1)
    clear o1 k1 hL2 KK0 OO0
    have c1 := (K1.out.cell (p := ⟨b, 1, none⟩) LT.out).trans C1.out
    go_wp2_with fail
    refine (rput32_any _ cook rfl _ hc).mono ?_
    rintro e v1 ⟨t1, rfl, p1, q1⟩
    have P1 := hide p1.isB
    have OO1 := hide (O1.out.keep q1)
    have KK1 := hide (K1.out.trans (q1.mono K1.out.size))
    clear p1 q1 O1 K1
    go_wp2_with (at_builtin; refine halt ?_)
    refine ⟨?_⟩
    refine wpList_append_bytes rfl (.tmp 27) (.tmp 30) rfl W.heap.size _ L2 rfl OO1.out _ (be32 cook) rfl P1.out (by rw [HL2.out.1, be32_len]; omega) KK1.out.size ?_
    intro s2 w2 o2 k2
    obtain ⟨L3, hL3⟩ : ∃ L, L = L2 ++ be32 cook := ⟨_, rfl⟩
    rw [← hL3] at o2
    have HL3 : Hid (L3.length = 16 ∧ (∀ x ∈ L3, x < 256)) := hide (by rw [hL3]; exact ⟨by have z1 := HL2.out.1; have z2 := be32_len cook; rw [List.length_append]; omega, byte_app HL2.out.2 (be32_byte _)⟩)
    have E3 := hide hL3
    have O2 := hide o2
    have K2 := hide (KK1.out.trans k2)
    clear o2 k2 hL3 KK1 OO1
    have c3 := (K2.out.cell (p := ⟨b, 3, none⟩) LT.out).trans C3.out
    go_wp2_with fail
    refine (rput32_any _ n (by first | rfl | exact hwl) _ (by omega)).mono ?_
    rintro e v2 ⟨t2, rfl, p2, q2⟩
    have P2 := hide p2.isB
    have OO2 := hide (O2.out.keep q2)
    have KK2 := hide (K2.out.trans (q2.mono K2.out.size))
    clear p2 q2 O2 K2
    go_wp2_with (at_builtin; refine halt ?_)
    refine ⟨?_⟩
    refine wpList_append_bytes rfl (.tmp 32) (.tmp 37) rfl W.heap.size _ L3 rfl OO2.out _ (be32 n) rfl P2.out (by rw [HL3.out.1, be32_len]; omega) KK2.out.size ?_
    intro s3 w3 o3 k3
    obtain ⟨L4, hL4⟩ : ∃ L, L = L3 ++ be32 n := ⟨_, rfl⟩
    rw [← hL4] at o3
    have HL4 : Hid (L4.length = 20 ∧ (∀ x ∈ L4, x < 256)) := hide (by rw [hL4]; exact ⟨by have z1 := HL3.out.1; have z2 := be32_len n; rw [List.length_append]; omega, byte_app HL3.out.2 (be32_byte _)⟩)
    have E4 := hide hL4
    have O3 := hide o3
    have K3 := hide (KK2.out.trans k3)
    clear o3 k3 hL4 KK2 OO2
    obtain ⟨A3, f3, rfl, i3, _, _⟩ := O3.out.isB.form (n := 20) HL4.out.1
    have I3 := hide i3
    clear i3
    go_wp2_with fail
    refine (rsum_any A3 20 f3 L4 _ I3.out.rd HL4.out.1.symm HL4.out.2 (by decide)).mono ?_
    rintro e u3 ⟨rfl, x3⟩
    obtain ⟨S3, hS3⟩ : ∃ S, S = sumS L4 := ⟨_, rfl⟩
    have hs3 : S3 < 4294967296 := by rw [hS3]; unfold sumS; omega
    rw [← hS3]
    have HS3 := hide hS3
    have O3 := hide (O3.out.keep x3)
    have K3 := hide (K3.out.trans (x3.mono K3.out.size))
    clear x3 hS3 I3
    go_wp2_with fail
    refine (rput32_any _ S3 rfl _ hs3).mono ?_
    rintro e v3 ⟨t3, rfl, p3, q3⟩
    have P3 := hide p3.isB
    have OO3 := hide (O3.out.keep q3)
    have KK3 := hide (K3.out.trans (q3.mono K3.out.size))
    clear p3 q3 O3 K3
    go_wp2_with (at_builtin; refine halt ?_)
    refine ⟨?_⟩
    refine wpList_append_bytes rfl (.tmp 39) (.tmp 42) rfl W.heap.size _ L4 rfl OO3.out _ (be32 S3) rfl P3.out (by rw [HL4.out.1, be32_len]; omega) KK3.out.size ?_
    intro s4 w4 o4 k4
    obtain ⟨L5, hL5⟩ : ∃ L, L = L4 ++ be32 S3 := ⟨_, rfl⟩
    rw [← hL5] at o4
    have HL5 : Hid (L5.length = 24 ∧ (∀ x ∈ L5, x < 256)) := hide (by rw [hL5]; exact ⟨by have z1 := HL4.out.1; have z2 := be32_len S3; rw [List.length_append]; omega, byte_app HL4.out.2 (be32_byte _)⟩)
    have E5 := hide hL5
    have O4 := hide o4
    have K4 := hide (KK3.out.trans k4)
    clear o4 k4 hL5 KK3 OO3
    have c3 := (K4.out.cell (p := ⟨b, 3, none⟩) LT.out).trans C3.out
    have KK4 := hide K4.out
    have OO4 := hide O4.out
    have ID4 := hide (HA.out.keep (below_step KW.out K4.out))
    go_wp2_with (at_builtin; refine halt ?_)
    refine ⟨?_⟩
    refine wpList_append_bytes rfl (.tmp 44) (.tmp 46) rfl W.heap.size _ L5 rfl OO4.out _ data rfl ID4.out (by rw [HL5.out.1, HN.out]; omega) KK4.out.size ?_
    clear c3
    intro s5 w5 o5 k5
    obtain ⟨L6, hL6⟩ : ∃ L, L = L5 ++ data := ⟨_, rfl⟩
    rw [← hL6] at o5
    have HL6 : Hid (L6.length = 24 + n ∧ (∀ x ∈ L6, x < 256)) := hide (by rw [hL6]; exact ⟨by have z1 := HL5.out.1; have z2 := HN.out; rw [List.length_append]; omega, byte_app HL5.out.2 (HB.out)⟩)
    have E6 := hide hL6
    have O5 := hide o5
    have K5 := hide (KK4.out.trans k5)
    clear o5 k5 hL6 KK4 OO4
    have c3 := (K5.out.cell (p := ⟨b, 3, none⟩) LT.out).trans C3.out
    have ID5 := hide (HA.out.keep (below_step KW.out K5.out))
    go_wp2_with fail
    refine (rsum_any A n c data _ ID5.out.rd HN.out.symm HB.out (by omega)).mono ?_
    rintro e u5 ⟨rfl, x5⟩
    obtain ⟨S5, hS5⟩ : ∃ S, S = sumS data := ⟨_, rfl⟩
    have hs5 : S5 < 4294967296 := by rw [hS5]; unfold sumS; omega
    rw [← hS5]
    have HS5 := hide hS5
    have O5 := hide (O5.out.keep x5)
    have K5 := hide (K5.out.trans (x5.mono K5.out.size))
    clear x5 hS5 c3
    go_wp2_with fail
    refine (rput32_any _ S5 rfl _ hs5).mono ?_
    rintro e v5 ⟨t5, rfl, p5, q5⟩
    have P5 := hide p5.isB
    have OO5 := hide (O5.out.keep q5)
    have KK5 := hide (K5.out.trans (q5.mono K5.out.size))
    clear p5 q5 O5 K5
    go_wp2_with (at_builtin; refine halt ?_)
    refine ⟨?_⟩
    refine wpList_append_bytes rfl (.tmp 48) (.tmp 52) rfl W.heap.size _ L6 rfl OO5.out _ (be32 S5) rfl P5.out (by rw [HL6.out.1, be32_len]; omega) KK5.out.size ?_
    intro s6 w6 o6 k6
    obtain ⟨L7, hL7⟩ : ∃ L, L = L6 ++ be32 S5 := ⟨_, rfl⟩
    rw [← hL7] at o6
    have HL7 : Hid (L7.length = 28 + n ∧ (∀ x ∈ L7, x < 256)) := hide (by rw [hL7]; exact ⟨by have z1 := HL6.out.1; have z2 := be32_len S5; rw [List.length_append]; omega, byte_app HL6.out.2 (be32_byte _)⟩)
    have E7 := hide hL7
    have O6 := hide o6
    have K6 := hide (KK5.out.trans k6)
    clear o6 k6 hL7 KK5 OO5
    obtain ⟨A6, f6, rfl, i6, _, _⟩ := O6.out.isB.form (n := 28 + n) HL7.out.1
    have hg := ndSize_ge n hl
    have hmod := ndSize_mod n
    obtain ⟨m, hm⟩ : ∃ m, m = ndSize n := ⟨_, rfl⟩
    rw [← hm] at hg hmod
    have HM := hide hm
    obtain ⟨pad, hpad⟩ : ∃ pd, pd = m - 28 - n := ⟨_, rfl⟩
    have hp : 28 + n + pad = m := by omega
    have HP := hide hp
    have RR : Hid (R = L7 ++ List.replicate pad 0) := hide (by
      rw [HR.out, E7.out, E6.out, E5.out, E4.out, E3.out, E2.out, E1.out, HS5.out, HS3.out, E4.out, E3.out, E2.out, E1.out]
      unfold needleL head24 head20 ndTail
      rw [HN.out, ← HM.out, hpad]
      simp)
    have HPD := hide hpad
    have HMD := hide hmod
    have HG := hide hg
    clear i6 hm hp hpad hmod hg
    go_wp2_with fail
    go_loopw [4] (fun s wr => ∃ (k : Nat) (X : Option Addr) (f : Nat), k ≤ pad ∧ s = .slice X (28 + n + k) f ∧ Hid (Own wr W.heap.size (.slice X (28 + n + k) f) (L7 ++ List.replicate k 0)) ∧ Hid (Below W.heap.size W wr)) (fun s _ => 28 + n + pad - sliceLen s)
    case atStart => exact ⟨0, _, _, Nat.zero_le _, rfl, hide (by rw [List.replicate_zero, List.append_nil]; exact O6.out), K6⟩
    case round =>
      obtain ⟨k, X, f, hk9, rfl, hown, hbel⟩ := hrel
      obtain ⟨q, hq⟩ : ∃ q, q = 28 + n + k := ⟨_, rfl⟩
      rw [← hq] at hown ⊢
      have hpp := HP.out
      have hmm := HMD.out
      have hgg := HG.out
      have hq0 : 0 ≤ (q : Int) := by omega
      have hq1 : q ≤ 70000 := by omega
      by_cases hlt : k < pad
      · have hne : (((q : Int) % 8) != 0) = true := by simp only [bne_iff_ne, ne_eq]; omega
        have HQ := hide hq
        have hlen : (L7 ++ List.replicate k 0).length = q := by rw [List.length_append, List.length_replicate, HL7.out.1, hq]
        have HLN := hide hlen
        have HLT := hide hlt
        clear hq hlt hpp hmm hgg hlen hq0
        go_wp2_with (at_builtin; refine halt ?_)
        refine ⟨?_⟩
        have ka := below_alloc wr (.cells #[.int .u8 0] 5)
        refine wpList_append_bytes rfl (.tmp 58) (.tmp 59) rfl W.heap.size _ (L7 ++ List.replicate k 0) rfl (hown.out.keep ka) _ [0] rfl (isB_new wr _ [0] rfl (by decide) _ _ rfl rfl) (by rw [HLN.out]; simp; omega) (Nat.le_trans hbel.out.size ka.size) ?_
        intro s9 w9 o9 k9
        have e9 : L7 ++ List.replicate k 0 ++ [0] = L7 ++ List.replicate (k + 1) 0 := by rw [List.append_assoc, List.replicate_succ']
        rw [e9] at o9
        obtain ⟨X9, f9, rfl, i9, _, _⟩ := o9.isB.form (n := 28 + n + (k + 1)) (by rw [List.length_append, List.length_replicate, HL7.out.1])
        have O9 := hide o9
        have K9 := hide ((hbel.out.trans (ka.mono hbel.out.size)).trans k9)
        clear ka o9 k9 i9 e9
        go_wp2_with fail
        go_roundw
        case rel => exact ⟨k + 1, X9, f9, by have := HLT.out; omega, rfl, O9, K9⟩
        case measure => have := HQ.out; have := HLT.out; simp only [sliceLen]; omega
      · have hkp : k = pad := by omega
        have hne : (((q : Int) % 8) != 0) = false := by simp only [bne_eq_false_iff_eq]; omega
        have OF : Hid (Own wr W.heap.size (.slice X q f) R) := hide (by rw [RR.out, ← hkp]; exact hown.out)
        clear hq hlt hpp hmm hgg hq0 hkp
        go_wp2_with fail
        go_ret2
        exact ⟨_, rfl, OF.out.more KW.out.size, below_step KW.out hbel.out⟩
end Go.Proofs.Ytkgkhielfodmmaa
