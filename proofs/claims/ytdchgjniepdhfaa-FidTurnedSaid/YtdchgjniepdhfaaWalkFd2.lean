/- The walks of the laws FidParses and FidTurned: each returns true, and writes nothing that was there. No conditions but the widths and the form's reach. -/
import Derived.Test.YtdchgjniepdhfaaWalkFd
import Derived.Test.YtdchgjniepdhfaaFdRParse
namespace Go.Proofs.Ytdchgjniepdhfaa
open Go.RowKit
theorem isAnswer_once {l : List UInt8} {u v : Value} (h : isAnswer l u) (h2 : isAnswer l v) : u = v := by
  rcases h with ⟨f, hf, rfl⟩ | ⟨hn, rfl⟩
  · rcases h2 with ⟨g, hg, rfl⟩ | ⟨hn, rfl⟩
    · rw [textL_inj hf.1 hg.1 (hf.2.trans hg.2.symm)]
    · exact absurd hf (hn f)
  · rcases h2 with ⟨g, hg, rfl⟩ | ⟨_, rfl⟩
    · exact absurd hg (hn g)
    · rfl
theorem parse_is {l : List UInt8} {f : Fd} (h : IsText l f) (hl : l.length < 1099511627776) (w : World) :
    Calls Try.prog 10 #[.string (mkS l)] w fun e w' => e = .returned (.tuple #[.agg #[.int .i64 (f.v : Int), .int .u64 (f.k : Int), .int .u32 (f.c : Int)], .int .i64 0]) ∧ Below w.heap.size w w' := by
  refine (parse_any l w hl).mono ?_
  rintro e w1 ⟨⟨r, rfl, hr⟩, k⟩
  rw [isAnswer_once hr (.inl ⟨f, h, rfl⟩)]
  exact ⟨rfl, k⟩
theorem parse_not {l : List UInt8} (h : ∀ f, ¬ IsText l f) (hl : l.length < 1099511627776) (w : World) :
    Calls Try.prog 10 #[.string (mkS l)] w fun e w' => e = .returned (.tuple #[.agg #[.int .i64 0, .int .u64 0, .int .u32 0], .int .i64 3]) ∧ Below w.heap.size w w' := by
  refine (parse_any l w hl).mono ?_
  rintro e w1 ⟨⟨r, rfl, hr⟩, k⟩
  rw [isAnswer_once hr (.inr ⟨h, rfl⟩)]
  exact ⟨rfl, k⟩
theorem rparse_is {l : List UInt8} {f : Fd} (h : IsText l f) (hl : l.length < 1099511627776) (w : World) :
    Calls Try.prog 11 #[.string (mkS l)] w fun e w' => e = .returned (.tuple #[.agg #[.int .i64 (f.v : Int), .int .u64 (f.k : Int), .int .u32 (f.c : Int)], .int .i64 0]) ∧ Below w.heap.size w w' := by
  refine (rparse_any l w hl).mono ?_
  rintro e w1 ⟨⟨r, rfl, hr⟩, k⟩
  rw [isAnswer_once hr (.inl ⟨f, h, rfl⟩)]
  exact ⟨rfl, k⟩
theorem rparse_not {l : List UInt8} (h : ∀ f, ¬ IsText l f) (hl : l.length < 1099511627776) (w : World) :
    Calls Try.prog 11 #[.string (mkS l)] w fun e w' => e = .returned (.tuple #[.agg #[.int .i64 0, .int .u64 0, .int .u32 0], .int .i64 3]) ∧ Below w.heap.size w w' := by
  refine (rparse_any l w hl).mono ?_
  rintro e w1 ⟨⟨r, rfl, hr⟩, k⟩
  rw [isAnswer_once hr (.inr ⟨h, rfl⟩)]
  exact ⟨rfl, k⟩
/-- A file id laid in a new block, with its cells. -/
theorem new_fid (w : World) (a b c : Value) : (w.alloc (.cells #[a, b, c] 25)).cell? ⟨w.heap.size, 0, none⟩ = some a ∧ (w.alloc (.cells #[a, b, c] 25)).cell? ⟨w.heap.size, 1, none⟩ = some b ∧ (w.alloc (.cells #[a, b, c] 25)).cell? ⟨w.heap.size, 2, none⟩ = some c := by
  have B : Blk (w.alloc (.cells #[a, b, c] 25)) 0 25 w.heap.size [a, b, c] := Blk.new w 25 #[a, b, c] (Nat.zero_le _)
  exact ⟨B.cell 0, B.cell 1, B.cell 2⟩
theorem old_fid {w w' : World} {B g : Nat} {a b c : Value} (h : Below B w w') (hg : g < B) (hc : w.cell? ⟨g, 0, none⟩ = some a ∧ w.cell? ⟨g, 1, none⟩ = some b ∧ w.cell? ⟨g, 2, none⟩ = some c) : w'.cell? ⟨g, 0, none⟩ = some a ∧ w'.cell? ⟨g, 1, none⟩ = some b ∧ w'.cell? ⟨g, 2, none⟩ = some c :=
  ⟨(h.cell (p := ⟨g, 0, none⟩) hg).trans hc.1, (h.cell (p := ⟨g, 1, none⟩) hg).trans hc.2.1, (h.cell (p := ⟨g, 2, none⟩) hg).trans hc.2.2⟩
set_option maxHeartbeats 1600000 in
theorem fidParses_walk (s : ByteArray) (w : World) :
    Calls Try.prog 4 #[.string s] w fun e w' => e = .returned (.bool true) ∧ Below w.heap.size w w' := by
  by_cases hl : 200 < s.size
  · have hli : (200 : Int) < (s.size : Int) := by omega
    go_enter Try.func4, Try.ntmps4
    go_wp2_with fail
    go_ret
    exact ⟨rfl, Below.refl _ _⟩
  · have hli : ¬ (200 : Int) < (s.size : Int) := by omega
    obtain ⟨l, hlx⟩ : ∃ l, l = s.data.toList := ⟨_, rfl⟩
    have hs : s = mkS l := mkS_ext hlx.symm
    have hl40 : l.length < 1099511627776 := by rw [hlx]; show s.size < _; omega
    by_cases hT : ∃ f, IsText l f
    · obtain ⟨f, hf⟩ := hT
      have HP := hide (fun W => parse_is hf hl40 W)
      have HR := hide (fun W => rparse_is hf hl40 W)
      have HX := hide (fun W => text_ok f W hf.1)
      rw [← hs] at HP HR
      rw [hf.2, ← hs] at HX
      unfold fdV at HX
      have hss : (s.toList == s.toList) = true := by simp
      clear hs hl hl40 hlx hf
      go_enter Try.func4, Try.ntmps4
      go_wp2_with fail
      refine (HP.out _).mono ?_
      rintro e w1 ⟨rfl, k1⟩
      have K1 := hide k1
      clear k1
      have N1 := new_fid w1 (.int .i64 (f.v : Int)) (.int .u64 (f.k : Int)) (.int .u32 (f.c : Int))
      have K2 := hide (below_step K1.out (below_alloc w1 (.cells #[.int .i64 (f.v : Int), .int .u64 (f.k : Int), .int .u32 (f.c : Int)] 25)))
      have G1 : w1.heap.size < (w1.alloc (.cells #[.int .i64 (f.v : Int), .int .u64 (f.k : Int), .int .u32 (f.c : Int)] 25)).heap.size := by simp
      have HN1 := hide N1
      have HG1 := hide G1
      clear N1 G1
      go_wp2_with fail
      refine (HR.out _).mono ?_
      generalize w1.alloc (.cells #[.int .i64 (f.v : Int), .int .u64 (f.k : Int), .int .u32 (f.c : Int)] 25) = W2 at HN1 HG1 K2 ⊢
      obtain ⟨g, hg⟩ : ∃ g, g = w1.heap.size := ⟨_, rfl⟩
      rw [← hg] at HN1 HG1 ⊢
      clear hg
      rintro e w3 ⟨rfl, k3⟩
      have K3 := hide (below_step K2.out k3)
      have N3 := hide (old_fid k3 HG1.out HN1.out)
      have G3 := hide (Nat.lt_of_lt_of_le HG1.out k3.size)
      clear k3
      have N4 := new_fid w3 (.int .i64 (f.v : Int)) (.int .u64 (f.k : Int)) (.int .u32 (f.c : Int))
      have k4 := below_alloc w3 (.cells #[.int .i64 (f.v : Int), .int .u64 (f.k : Int), .int .u32 (f.c : Int)] 25)
      have K4 := hide (below_step K3.out k4)
      have O4 := old_fid k4 G3.out N3.out
      obtain ⟨n0, n1, n2⟩ := N4
      obtain ⟨o0, o1, o2⟩ := O4
      clear k4
      go_wp2_with fail
      refine (HX.out _).mono ?_
      rintro e w5 ⟨rfl, k5⟩
      have K5 := hide (below_step K4.out k5)
      clear k5
      go_wp2_with fail
      refine (known_any _).mono ?_
      rintro e w6 ⟨rfl, k6⟩
      have K6 := hide (below_step K5.out k6)
      clear k6
      go_wp2_with fail
      go_ret
      exact ⟨rfl, K6.out⟩
    · have hno : ∀ f, ¬ IsText l f := fun f hf => hT ⟨f, hf⟩
      have HP := hide (fun W => parse_not hno hl40 W)
      have HR := hide (fun W => rparse_not hno hl40 W)
      rw [← hs] at HP HR
      clear hs hl hl40 hlx hno hT
      go_enter Try.func4, Try.ntmps4
      go_wp2_with fail
      refine (HP.out _).mono ?_
      rintro e w1 ⟨rfl, k1⟩
      have K1 := hide k1
      clear k1
      have HN1 := hide (new_fid w1 (.int .i64 0) (.int .u64 0) (.int .u32 0))
      have K2 := hide (below_step K1.out (below_alloc w1 (.cells #[.int .i64 0, .int .u64 0, .int .u32 0] 25)))
      have HG1 : Hid (w1.heap.size < (w1.alloc (.cells #[.int .i64 0, .int .u64 0, .int .u32 0] 25)).heap.size) := by unfold Hid; simp
      go_wp2_with fail
      refine (HR.out _).mono ?_
      generalize w1.alloc (.cells #[.int .i64 0, .int .u64 0, .int .u32 0] 25) = W2 at HN1 HG1 K2 ⊢
      obtain ⟨g, hg⟩ : ∃ g, g = w1.heap.size := ⟨_, rfl⟩
      rw [← hg] at HN1 HG1 ⊢
      clear hg
      rintro e w3 ⟨rfl, k3⟩
      have K3 := hide (below_step K2.out k3)
      have N3 := hide (old_fid k3 HG1.out HN1.out)
      have G3 := hide (Nat.lt_of_lt_of_le HG1.out k3.size)
      clear k3
      have N4 := new_fid w3 (.int .i64 0) (.int .u64 0) (.int .u32 0)
      have k4 := below_alloc w3 (.cells #[.int .i64 0, .int .u64 0, .int .u32 0] 25)
      have K4 := hide (below_step K3.out k4)
      have O4 := old_fid k4 G3.out N3.out
      obtain ⟨n0, n1, n2⟩ := N4
      obtain ⟨o0, o1, o2⟩ := O4
      clear k4
      go_wp2_with fail
      refine (known_any _).mono ?_
      rintro e w6 ⟨rfl, k6⟩
      have K6 := hide (below_step K4.out k6)
      clear k6
      go_wp2_with fail
      go_ret
      exact ⟨rfl, K6.out⟩
end Go.Proofs.Ytdchgjniepdhfaa
