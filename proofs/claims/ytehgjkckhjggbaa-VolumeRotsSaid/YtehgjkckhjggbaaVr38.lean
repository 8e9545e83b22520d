/- What the law's own known() comes to, by lists. -/
import Derived.Test.YtehgjkckhjggbaaVr33
import Derived.Test.YtehgjkckhjggbaaVr34
import Derived.Test.YtehgjkckhjggbaaVr32
import Derived.Test.YtehgjkckhjggbaaVr37
namespace Go.Proofs.Ytehgjkckhjggbaa
open Go.RowKit Go.Maps
def kS : Str := (nameV 7).data.toList
def kL0 : DiskL := (layL 1000 kS (headV 7) []).1
def kP1 : (PlL × DiskL) × Nat := putV 1000 kS 1 5 false [97, 98] [] kL0
def kP2 : (PlL × DiskL) × Nat := putV 1000 kS 1 5 true [] kP1.1.1 kP1.1.2
def kQ : Pl := ⟨1, 40, 32, 5, true⟩
theorem k_lay : getK kS ([] : DiskL) = none ∧ (layL 1000 kS (headV 7) []).2 = 0 ∧ 8 ≤ szV kS kL0 := by decide +kernel
theorem k_put1 : kP1.2 = 0 ∧ kP1.1.1.length = 1 ∧ 8 ≤ szV kS kP1.1.2 ∧ getV 1 5 kP1.1.1 (readL kS kP1.1.2).1 = ([97, 98], 0) := by decide +kernel
theorem k_put2 : kP2.2 = 0 ∧ kP2.1.1 = [kQ] ∧ getV 1 5 kP2.1.1 (readL kS kP2.1.2).1 = ([], 9) ∧ dirt1 (szV kS kP2.1.2) kQ = 32 := by decide +kernel
end Go.Proofs.Ytehgjkckhjggbaa
