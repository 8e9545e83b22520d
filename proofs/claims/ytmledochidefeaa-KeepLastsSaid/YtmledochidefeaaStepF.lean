/- The four functions of keep.steps, each called. No condition but the widths. -/
import Derived.Test.YtmledochidefeaaSteps
import Derived.Test.YtmledochidefeaaKeepL
namespace Go.Proofs.Ytmledochidefeaa
open Go.RowKit Go.Maps
section
variable (F : Nat → Prop) (d room : Nat) (L : DiskL) (t : ByteArray) (w : World) (hD : DiskAt w F d room L) (ht : t.size ≤ 1099511627776) (a b : Nat) (c0 : w.cell? ⟨a, 0, none⟩ = some (.pointer (some ⟨d, 0, none⟩))) (c1 : w.cell? ⟨b, 0, none⟩ = some (.string t))
include hD ht c0 c1
theorem step0_any : Calls Try.prog 58 #[.pointer (some ⟨a, 0, none⟩), .pointer (some ⟨b, 0, none⟩)] w fun e w' => e = .returned (.int .i64 0) ∧ ∃ F', DiskAt w' F' d room (remL t.data.toList L).1 ∧ Next F w F' w' := by
  have HD := hide hD
  have HT := hide ht
  clear hD ht
  go_enter Try.func58, Try.ntmps58
  go_wp2_with fail
  refine (remove_any F d room L t w HD.out HT.out).mono ?_
  rintro e w1 ⟨rfl, h1⟩
  have H1 := hide h1
  clear h1
  go_wp2_with fail
  go_ret
  exact ⟨rfl, H1.out⟩
theorem step1_any (c : Nat) (P : Option Addr) (m cp : Nat) (p : List Nat) (c2 : w.cell? ⟨c, 0, none⟩ = some (.slice P m cp)) (hP : IsB w (.slice P m cp) p) (hm : p.length = m) (hb : ∀ x ∈ p, x < 256) (hmr : m ≤ 1099511627776) :
    Calls Try.prog 59 #[.pointer (some ⟨a, 0, none⟩), .pointer (some ⟨b, 0, none⟩), .pointer (some ⟨c, 0, none⟩)] w fun e w' => e = .returned (.int .i64 ((appL room t.data.toList p L).2 : Nat)) ∧ ∃ F', DiskAt w' F' d room (appL room t.data.toList p L).1 ∧ Next F w F' w' := by
  have HC := hide (append_any F d room L t P m cp p w hD ht hP hm hb hmr)
  clear hD ht hP hm hb hmr
  go_enter Try.func59, Try.ntmps59
  go_wp2_with fail
  refine HC.out.mono ?_
  rintro e w1 ⟨rfl, h1⟩
  have H1 := hide h1
  clear h1
  go_wp2_with fail
  go_ret
  exact ⟨rfl, H1.out⟩
theorem step2_any : Calls Try.prog 60 #[.pointer (some ⟨a, 0, none⟩), .pointer (some ⟨b, 0, none⟩)] w fun e w' => e = .returned (.int .i64 ((syncL t.data.toList L).2 : Nat)) ∧ ∃ F', DiskAt w' F' d room (syncL t.data.toList L).1 ∧ Next F w F' w' := by
  have HC := hide (sync_any F d room L t w hD ht)
  clear hD ht
  go_enter Try.func60, Try.ntmps60
  go_wp2_with fail
  refine HC.out.mono ?_
  rintro e w1 ⟨rfl, h1⟩
  have H1 := hide h1
  clear h1
  go_wp2_with fail
  go_ret
  exact ⟨rfl, H1.out⟩
theorem step3_any (c : Nat) (s : ByteArray) (hs : s.size ≤ 1099511627776) (c2 : w.cell? ⟨c, 0, none⟩ = some (.string s)) : Calls Try.prog 62 #[.pointer (some ⟨a, 0, none⟩), .pointer (some ⟨b, 0, none⟩), .pointer (some ⟨c, 0, none⟩)] w fun e w' => e = .returned (.int .i64 ((renL t.data.toList s.data.toList L).2 : Nat)) ∧ ∃ F', DiskAt w' F' d room (renL t.data.toList s.data.toList L).1 ∧ Next F w F' w' := by
  have HC := hide (rename_any F d room L t w hD ht s hs)
  clear hD ht hs
  go_enter Try.func62, Try.ntmps62
  go_wp2_with fail
  refine HC.out.mono ?_
  rintro e w1 ⟨rfl, h1⟩
  have H1 := hide h1
  clear h1
  go_wp2_with fail
  go_ret
  exact ⟨rfl, H1.out⟩
end
end Go.Proofs.Ytmledochidefeaa
