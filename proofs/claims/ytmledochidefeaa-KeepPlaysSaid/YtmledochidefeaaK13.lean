/- The contract of the disk's Append, all its answers. Condition: names no longer than the model's strings, what is laid below 2 to the 40. -/
import Derived.Test.YtmledochidefeaaK12
namespace Go.Proofs.Ytmledochidefeaa
open Go.RowKit Go.Maps
def oldB (k : Str) (L : DiskL) : List Nat := ((getK k L).map (·.1)).getD []
def oldN (k : Str) (L : DiskL) : Nat := ((getK k L).map (·.2)).getD 0
theorem append_ok (F : Nat → Prop) (d room : Nat) (L : DiskL) (s : ByteArray) (P : Option Addr) (m cp : Nat) (p : List Nat) (w : World) (hD : DiskAt w F d room L) (hs : 1 ≤ s.size ∧ s.size ≤ 64) (hP : IsB w (.slice P m cp) p) (hm : p.length = m) (hb : ∀ x ∈ p, x < 256)
    (hcase : (getK s.data.toList L).isSome = true ∨ L.length < 256) (hroom : usedL L + m ≤ room) :
    Calls Try.prog 29 #[.pointer (some ⟨d, 0, none⟩), .string s, .slice P m cp] w fun e w' => e = .returned (.int .i64 0) ∧ ∃ F', DiskAt w' F' d room (putK s.data.toList (oldB s.data.toList L ++ p, oldN s.data.toList L) L) ∧ Next F w F' w' := by
  unfold oldB oldN
  rcases hg : getK s.data.toList L with _ | ⟨xs, l⟩
  · rw [hg] at hcase
    obtain ⟨X, rfl, hS, hf, hx⟩ := disk_missing hD hg
    rw [absX_used] at hroom
    rw [absX_length] at hcase
    have hd := delK_of_none hx
    refine append_core F d room X s none P 0 0 0 m cp [] p false w hS hf hs (find_none F d room X s w hS (by omega) hx) rfl (Nat.le_refl _) (World.ownsRow_nil _ _ _ _) (fun g hg => by simp [Value.ownBlock] at hg) hb (by rw [hd]; rfl) (.inr ⟨rfl, ?_⟩) hP hm hroom
    rcases hcase with h | h
    · cases h
    · exact h
  · obtain ⟨X, A, c, rfl, hS, hf, hx, ho, hbx, hl, hlen⟩ := disk_found hD hg
    rw [absX_used] at hroom
    refine append_core F d room X s A P xs.length c l m cp xs p true w hS hf hs (find_some F d room X s A xs.length c l xs w hS (by omega) hx) rfl hl ho (fun g hg => ⟨(hf.each _ (getK_mem hx)).2.1 g hg, fun q hq => hf.apart _ (getK_mem hx) q (mem_delK.1 hq).1 (fun e => (mem_delK.1 hq).2 e.symm) g hg⟩) (byte_app hbx hb) ?_ (.inl ⟨rfl, by rw [hx]; rfl⟩) hP hm hroom
    have h1 := sumK_del filL s.data.toList hS.rise
    rw [hx] at h1
    exact h1.symm
theorem append_arg (d : Nat) (s : ByteArray) (v : Value) (w : World) (hs : ¬ (1 ≤ s.size ∧ s.size ≤ 64)) (hb : s.size ≤ 9223372036854775807) :
    Calls Try.prog 29 #[.pointer (some ⟨d, 0, none⟩), .string s, v] w fun e w' => e = .returned (.int .i64 1) ∧ Below w.heap.size w w' := by
  have HIN := hide (isName_any s w hb)
  rw [decide_eq_false hs] at HIN
  go_enter Try.func29, Try.ntmps29
  go_wp2_with fail
  refine HIN.out.mono ?_
  rintro e w1 ⟨rfl, rfl⟩
  go_wp2_with fail
  go_ret
  exact ⟨rfl, Below.refl _ _⟩
set_option maxRecDepth 100000 in
set_option maxHeartbeats 1600000 in
theorem append_full_core (F : Nat → Prop) (d room : Nat) (X : List (Str × Fil)) (s : ByteArray) (A P : Option Addr) (n c l m cp : Nat) (is : Bool) (w : World) (hS : Shell w F d room X) (hs : 1 ≤ s.size ∧ s.size ≤ 64)
    (hfind : Calls Try.prog 38 #[.pointer (some ⟨d, 0, none⟩), .string s] w fun e w' => e = .returned (.tuple #[.agg #[.slice A n c, .int .i64 (l : Int)], .bool is]) ∧ Below w.heap.size w w')
    (his : (is = true ∨ is = false ∧ ¬ X.length = 256) ∧ room < sumK filL X + m ∨ is = false ∧ X.length = 256) (hmr : m ≤ 1099511627776) :
    Calls Try.prog 29 #[.pointer (some ⟨d, 0, none⟩), .string s, .slice P m cp] w fun e w' => e = .returned (.int .i64 6) ∧ Below w.heap.size w w' := by
  have HIN := hide (isName_any s w (by omega))
  rw [decide_eq_true hs] at HIN
  obtain ⟨mv, c2, hml⟩ := hS.map_len
  obtain ⟨mv', hB, hmm⟩ := hS.cells
  clear hmm
  have hr := hS.most
  have hur := hS.used
  obtain ⟨u, hu⟩ : ∃ u, u = sumK filL X := ⟨_, rfl⟩
  rw [← hu] at hB his hur
  have c0 : w.cell? ⟨d, 0, none⟩ = some (.int .i64 (room : Int)) := hB.cell 0
  have c1 : w.cell? ⟨d, 1, none⟩ = some (.int .i64 (u : Int)) := hB.cell 1
  have hd : d < w.heap.size := hB.lt
  have HFI := hide hfind
  have HML := hide hml
  clear hfind hml hu hB hS
  rcases his with ⟨rfl | ⟨rfl, hfew⟩, hful⟩ | ⟨rfl, hfew⟩
  · have hgo : (room : Int) - (u : Int) < (m : Int) := by omega
    go_enter Try.func29, Try.ntmps29
    go_wp2_with fail
    refine HIN.out.mono ?_
    rintro e w0 ⟨rfl, e0⟩
    obtain rfl : w = w0 := e0.symm
    clear e0
    go_wp2_with fail
    refine HFI.out.mono ?_
    rintro e w1 ⟨rfl, k1⟩
    have c01 := (k1.cell (cell_lt c0)).trans c0
    have c11 := (k1.cell (cell_lt c1)).trans c1
    have c21 := (k1.cell (cell_lt c2)).trans c2
    have hd1 : d < w1.heap.size := Nat.lt_of_lt_of_le hd k1.size
    have K2 := hide (below_step k1 (below_alloc w1 (.cells #[.slice A n c, .int .i64 (l : Int)] 77)))
    clear c0 c1 c2 k1
    go_wp2_with fail
    go_region
    clear c01 c11 c21
    go_wp2_with fail
    go_ret
    exact ⟨rfl, K2.out.os, K2.out.tape, K2.out.output, K2.out.size, K2.out.block⟩
  · have hgo : (room : Int) - (u : Int) < (m : Int) := by omega
    have hlenb : ((X.length : Int) == 256) = false := by simp; omega
    clear hfew
    go_enter Try.func29, Try.ntmps29
    go_wp2_with fail
    refine HIN.out.mono ?_
    rintro e w0 ⟨rfl, e0⟩
    obtain rfl : w = w0 := e0.symm
    clear e0
    go_wp2_with fail
    refine HFI.out.mono ?_
    rintro e w1 ⟨rfl, k1⟩
    have c01 := (k1.cell (cell_lt c0)).trans c0
    have c11 := (k1.cell (cell_lt c1)).trans c1
    have c21 := (k1.cell (cell_lt c2)).trans c2
    have hd1 : d < w1.heap.size := Nat.lt_of_lt_of_le hd k1.size
    have K2 := hide (below_step k1 (below_alloc w1 (.cells #[.slice A n c, .int .i64 (l : Int)] 77)))
    have kd : Below w.heap.size w (w1.alloc (.cells #[.slice A n c, .int .i64 (l : Int)] 77)).drew := ⟨K2.out.os, K2.out.tape, K2.out.output, K2.out.size, K2.out.block⟩
    have hml2 := fun ty => HML.out _ ty kd
    clear c0 c1 c2 k1
    go_wp2_with fail
    go_region
    clear c01 c11 c21 hml2 kd
    go_wp2_with fail
    go_ret
    exact ⟨rfl, K2.out.os, K2.out.tape, K2.out.output, K2.out.size, K2.out.block⟩
  · have hlenb : ((X.length : Int) == 256) = true := by simp; omega
    clear hfew
    go_enter Try.func29, Try.ntmps29
    go_wp2_with fail
    refine HIN.out.mono ?_
    rintro e w0 ⟨rfl, e0⟩
    obtain rfl : w = w0 := e0.symm
    clear e0
    go_wp2_with fail
    refine HFI.out.mono ?_
    rintro e w1 ⟨rfl, k1⟩
    have c01 := (k1.cell (cell_lt c0)).trans c0
    have c11 := (k1.cell (cell_lt c1)).trans c1
    have c21 := (k1.cell (cell_lt c2)).trans c2
    have hd1 : d < w1.heap.size := Nat.lt_of_lt_of_le hd k1.size
    have K2 := hide (below_step k1 (below_alloc w1 (.cells #[.slice A n c, .int .i64 (l : Int)] 77)))
    have kd : Below w.heap.size w (w1.alloc (.cells #[.slice A n c, .int .i64 (l : Int)] 77)).drew := ⟨K2.out.os, K2.out.tape, K2.out.output, K2.out.size, K2.out.block⟩
    have hml2 := fun ty => HML.out _ ty kd
    clear c0 c1 c2 k1
    go_wp2_with fail
    go_region
    clear c01 c11 c21 hml2 kd
    go_wp2_with fail
    go_ret
    exact ⟨rfl, K2.out.os, K2.out.tape, K2.out.output, K2.out.size, K2.out.block⟩
/-- What the document says of Append: the files behind it, and the answer. -/
def appL (room : Nat) (k : Str) (p : List Nat) (L : DiskL) : DiskL × Nat :=
  if ¬ (1 ≤ k.length ∧ k.length ≤ 64) then (L, 1)
  else if (getK k L = none ∧ 256 ≤ L.length) ∨ room < usedL L + p.length then (L, 6)
  else (putK k (oldB k L ++ p, oldN k L) L, 0)
theorem str_len (s : ByteArray) : s.data.toList.length = s.size := rfl
theorem append_any (F : Nat → Prop) (d room : Nat) (L : DiskL) (s : ByteArray) (P : Option Addr) (m cp : Nat) (p : List Nat) (w : World) (hD : DiskAt w F d room L) (hs : s.size ≤ 1099511627776) (hP : IsB w (.slice P m cp) p) (hm : p.length = m) (hb : ∀ x ∈ p, x < 256) (hmr : m ≤ 1099511627776) :
    Calls Try.prog 29 #[.pointer (some ⟨d, 0, none⟩), .string s, .slice P m cp] w fun e w' => e = .returned (.int .i64 ((appL room s.data.toList p L).2 : Nat)) ∧ ∃ F', DiskAt w' F' d room (appL room s.data.toList p L).1 ∧ Next F w F' w' := by
  unfold appL
  rw [str_len]
  obtain ⟨hrise, hlen, _, _, _⟩ := hD.facts
  by_cases hn : 1 ≤ s.size ∧ s.size ≤ 64
  · rw [if_neg (fun h => h hn)]
    by_cases hf : (getK s.data.toList L = none ∧ 256 ≤ L.length) ∨ room < usedL L + p.length
    · rw [if_pos hf]
      have fin : Calls Try.prog 29 #[.pointer (some ⟨d, 0, none⟩), .string s, .slice P m cp] w fun e w' => e = .returned (.int .i64 6) ∧ Below w.heap.size w w' := by
        rcases hg : getK s.data.toList L with _ | ⟨xs, l⟩
        · obtain ⟨X, rfl, hS, _, hx⟩ := disk_missing hD hg
          refine append_full_core F d room X s none P 0 0 0 m cp false w hS hn (find_none F d room X s w hS hs hx) ?_ hmr
          rw [absX_length] at hf hlen
          rw [absX_used, hm] at hf
          by_cases h256 : X.length = 256
          · exact .inr ⟨rfl, h256⟩
          · refine .inl ⟨.inr ⟨rfl, h256⟩, ?_⟩
            rcases hf with ⟨_, h⟩ | h
            · omega
            · exact h
        · obtain ⟨X, A, c, rfl, hS, _, hx, _, _, _, _⟩ := disk_found hD hg
          refine append_full_core F d room X s A P xs.length c l m cp true w hS hn (find_some F d room X s A xs.length c l xs w hS hs hx) (.inl ⟨.inl rfl, ?_⟩) hmr
          rw [absX_used, hm] at hf
          rcases hf with ⟨h, _⟩ | h
          · rw [hg] at h; cases h
          · exact h
      refine fin.mono ?_
      rintro e w' ⟨rfl, k⟩
      exact ⟨rfl, F, hD.below k, Next.of_below F k⟩
    · rw [if_neg hf]
      refine append_ok F d room L s P m cp p w hD hn hP hm hb ?_ (by rw [hm] at hf; omega)
      rcases hg : getK s.data.toList L with _ | a
      · right
        rcases Nat.lt_or_ge L.length 256 with h | h
        · exact h
        · exact absurd (.inl ⟨hg, h⟩) hf
      · exact .inl rfl
  · rw [if_pos hn]
    refine (append_arg d s (.slice P m cp) w hn (by omega)).mono ?_
    rintro e w' ⟨rfl, k⟩
    exact ⟨rfl, F, hD.below k, Next.of_below F k⟩
end Go.Proofs.Ytmledochidefeaa
