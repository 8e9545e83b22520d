/- The contract of the document's unhex: it answers always; of digits what they say. Condition: no more than 2 to the 40 bytes. -/
import Derived.Test.YtdchgjniepdhfaaFdNum
namespace Go.Proofs.Ytdchgjniepdhfaa
open Go.RowKit
/-- All are digits. -/
def isHexD (c : UInt8) : Bool := (48 ≤ c.toNat ∧ c.toNat ≤ 57) || (97 ≤ c.toNat ∧ c.toNat ≤ 102)
theorem hexd_isHex (d : Nat) (h : d < 16) : isHexD (hexd d) = true := by
  have : ∀ d < 16, isHexD (hexd d) = true := by decide +kernel
  exact this d h
theorem fixd_isHex : ∀ k n, ∀ x ∈ fixd 16 k n, isHexD x = true
  | 0, _ => by simp [fixd]
  | k + 1, n => by
    intro x hx
    rw [fixd, List.mem_append] at hx
    rcases hx with hx | hx
    · exact fixd_isHex k _ x hx
    · rw [List.mem_singleton] at hx
      subst hx
      exact hexd_isHex _ (by omega)
/-- What unhex answers. -/
def UnA (l : List UInt8) (lo hi : Nat) (e : Ending) : Prop := ∃ (v : Nat) (b : Bool), e = .returned (.tuple #[.int .u64 (v : Int), .bool b]) ∧ v < 18446744073709551616 ∧ ((lo ≤ l.length ∧ l.length ≤ hi ∧ ∀ x ∈ l, isHexD x = true) → v = numW 16 l ∧ b = true)
theorem step10 (a y : Nat) : IntKind.u64.wrap (IntKind.u64.wrap (IntKind.u64.wrap ((a : Int) * 16) + (y : Int)) + 10) = (((a * 16 + (y + 10)) % 18446744073709551616 : Nat) : Int) := by
  rw [IntKind.wrap_u64, IntKind.wrap_u64, IntKind.wrap_u64]
  omega
theorem step0 (a y : Nat) : IntKind.u64.wrap (IntKind.u64.wrap ((a : Int) * 16) + (y : Int)) = (((a * 16 + y) % 18446744073709551616 : Nat) : Int) := by
  rw [IntKind.wrap_u64, IntKind.wrap_u64]
  omega
set_option maxRecDepth 100000 in
set_option maxHeartbeats 3200000 in
theorem unhex_any (l : List UInt8) (lo hi : Nat) (w : World) (hl : l.length < 1099511627776) :
    Calls Try.prog 20 #[.string (mkS l), .int .i64 (lo : Int), .int .i64 (hi : Int)] w fun e w' => UnA l lo hi e ∧ w = w' := by
  obtain ⟨s, hs⟩ : ∃ s, s = mkS l := ⟨_, rfl⟩
  obtain ⟨n, hn⟩ : ∃ n, n = l.length := ⟨_, rfl⟩
  have hsz : s.size = n := by rw [hs, hn]; rfl
  have hn40 : n < 1099511627776 := by rw [hn]; exact hl
  rw [← hs]
  have HS := hide hs
  have HN := hide hn
  clear hs hn hl
  by_cases h1 : n < lo
  · have h1i : (n : Int) < (lo : Int) := by omega
    go_enter Try.func20, Try.ntmps20
    go_wp2_with fail
    go_ret2
    exact ⟨⟨0, false, rfl, by omega, fun h => by have := HN.out; omega⟩, rfl⟩
  · by_cases h2 : hi < n
    · have h1i : ¬ (n : Int) < (lo : Int) := by omega
      have h2i : (hi : Int) < (n : Int) := by omega
      go_enter Try.func20, Try.ntmps20
      go_wp2_with fail
      go_ret2
      exact ⟨⟨0, false, rfl, by omega, fun h => by have := HN.out; omega⟩, rfl⟩
    · have h1i : ¬ (n : Int) < (lo : Int) := by omega
      have h2i : ¬ (hi : Int) < (n : Int) := by omega
      have HH := hide h2
      clear h1 h2
      go_enter Try.func20, Try.ntmps20
      go_wp2_with fail
      go_loop [8, 9] (fun v i => ∃ (j a : Nat), j ≤ n ∧ a < 18446744073709551616 ∧ i = .int .i64 (j : Int) ∧ v = .int .u64 (a : Int) ∧ Hid (a = numW 16 (l.take j))) (fun _ i => n - (intOf i).toNat)
      case atStart => exact ⟨0, 0, Nat.zero_le _, by omega, rfl, rfl, by simp [Hid, numW_zero]⟩
      case round =>
        obtain ⟨j, a, hj, ha, rfl, rfl, hA⟩ := hrel
        by_cases hlt : j < n
        · have hlt2 : j < l.length := by rw [← HN.out]; exact hlt
          have hj2 : j < s.size := by rw [hsz]; exact hlt
          have hsx : s[j]'hj2 = l[j] := by
            have : ∀ (u : ByteArray) (h : j < u.size), u = mkS l → u[j]'h = l[j] := fun u h e => by subst e; rfl
            exact this s hj2 HS.out
          obtain ⟨x, hx⟩ : ∃ x, (s[j]'hj2).toNat = x := ⟨_, rfl⟩
          have hx256 : x < 256 := by rw [← hx]; exact UInt8.toNat_lt _
          have hxl : l[j].toNat = x := by rw [← hsx]; exact hx
          have hjn : (j : Int) < (n : Int) := by omega
          have HXL := hide hxl
          have HA3 := hide (numW_take 16 l j hlt2)
          have HMEM : Hid (l[j] ∈ l) := List.getElem_mem hlt2
          clear hsx hxl
          by_cases h1 : 48 ≤ x ∧ x ≤ 57
          · obtain ⟨y, hy⟩ : ∃ y, y = x - 48 := ⟨_, rfl⟩
            have i1 : (48 : Int) ≤ (x : Int) := by omega
            have i2 : (x : Int) ≤ 57 := by omega
            have e2 : IntKind.u8.wrap ((x : Int) - 48) = (y : Int) := by rw [IntKind.wrap_u8]; omega
            have e2b : (x : Int) - 48 = (y : Int) := by omega
            have e3 : IntKind.u64.wrap (y : Int) = (y : Int) := by rw [IntKind.wrap_u64]; omega
            have e4 := step0 a y
            obtain ⟨z, hz⟩ : ∃ z, z = (a * 16 + y) % 18446744073709551616 := ⟨_, rfl⟩
            rw [← hz] at e4
            have hz64 : z < 18446744073709551616 := by rw [hz]; exact Nat.mod_lt _ (by omega)
            have HZ : Hid (z = numW 16 (l.take (j + 1))) := by
              unfold Hid
              rw [HA3.out, ← hA.out, hz, hy]
              congr 2
              unfold valD
              rw [HXL.out, if_pos h1]
            clear hz hy h1
            go_wp2_with fail
            go_round
            case rel => exact ⟨j + 1, z, by omega, hz64, by go_num, rfl, HZ⟩
            case measure => simp [intOf]; omega
          · by_cases h3 : 97 ≤ x ∧ x ≤ 102
            · obtain ⟨y, hy⟩ : ∃ y, y = x - 97 := ⟨_, rfl⟩
              have i1 : (48 : Int) ≤ (x : Int) := by omega
              have i2 : ¬ (x : Int) ≤ 57 := by omega
              have i3 : (97 : Int) ≤ (x : Int) := by omega
              have i4 : (x : Int) ≤ 102 := by omega
              have e2 : IntKind.u8.wrap ((x : Int) - 97) = (y : Int) := by rw [IntKind.wrap_u8]; omega
              have e2b : (x : Int) - 97 = (y : Int) := by omega
              have e3 : IntKind.u64.wrap (y : Int) = (y : Int) := by rw [IntKind.wrap_u64]; omega
              have e4 := step10 a y
              obtain ⟨z, hz⟩ : ∃ z, z = (a * 16 + (y + 10)) % 18446744073709551616 := ⟨_, rfl⟩
              rw [← hz] at e4
              have hz64 : z < 18446744073709551616 := by rw [hz]; exact Nat.mod_lt _ (by omega)
              have HZ : Hid (z = numW 16 (l.take (j + 1))) := by
                unfold Hid
                rw [HA3.out, ← hA.out, hz, hy]
                congr 2
                unfold valD
                rw [HXL.out, if_neg h1, if_pos h3]
                omega
              clear hz hy h1 h3
              go_wp2_with fail
              go_round
              case rel => exact ⟨j + 1, z, by omega, hz64, by go_num, rfl, HZ⟩
              case measure => simp [intOf]; omega
            · have HNO : Hid (isHexD l[j] = false) := by
                unfold Hid isHexD
                rw [HXL.out]
                simp only [h1, h3, decide_false, Bool.or_self]
              have hfin : ∀ Z, UnA l lo hi Z = (∃ (v : Nat) (b : Bool), Z = .returned (.tuple #[.int .u64 (v : Int), .bool b]) ∧ v < 18446744073709551616 ∧ ((lo ≤ l.length ∧ l.length ≤ hi ∧ ∀ x ∈ l, isHexD x = true) → v = numW 16 l ∧ b = true)) := fun _ => rfl
              have HFIN := hide hfin
              clear hfin
              by_cases q1 : 48 ≤ x
              · by_cases q3 : 97 ≤ x
                · have i1 : (48 : Int) ≤ (x : Int) := by omega
                  have i2 : ¬ (x : Int) ≤ 57 := by omega
                  have i3 : (97 : Int) ≤ (x : Int) := by omega
                  have i4 : ¬ (x : Int) ≤ 102 := by omega
                  clear q1 q3 h1 h3
                  go_wp2_with fail
                  go_ret2
                  exact ⟨⟨0, false, rfl, by omega, fun h => by have := h.2.2 _ HMEM.out; rw [HNO.out] at this; cases this⟩, rfl⟩
                · have i1 : (48 : Int) ≤ (x : Int) := by omega
                  have i2 : ¬ (x : Int) ≤ 57 := by omega
                  have i3 : ¬ (97 : Int) ≤ (x : Int) := by omega
                  clear q1 q3 h1 h3
                  go_wp2_with fail
                  go_ret2
                  exact ⟨⟨0, false, rfl, by omega, fun h => by have := h.2.2 _ HMEM.out; rw [HNO.out] at this; cases this⟩, rfl⟩
              · have i1 : ¬ (48 : Int) ≤ (x : Int) := by omega
                have i3 : ¬ (97 : Int) ≤ (x : Int) := by omega
                clear q1 h1 h3
                go_wp2_with fail
                go_ret2
                exact ⟨⟨0, false, rfl, by omega, fun h => by have := h.2.2 _ HMEM.out; rw [HNO.out] at this; cases this⟩, rfl⟩
        · obtain rfl : j = n := by omega
          go_wp2_with fail
          go_ret2
          refine ⟨⟨a, true, rfl, ha, fun _ => ⟨?_, rfl⟩⟩, rfl⟩
          rw [hA.out, HN.out, List.take_length]
end Go.Proofs.Ytdchgjniepdhfaa
