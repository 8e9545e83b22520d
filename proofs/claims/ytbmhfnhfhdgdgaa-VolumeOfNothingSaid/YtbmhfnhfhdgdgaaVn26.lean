/- The contract of the disk's List: the names, rising. No condition. -/
import Derived.Test.YtbmhfnhfhdgdgaaVn20
import Derived.Test.YtbmhfnhfhdgdgaaVn25
namespace Go.Proofs.Ytbmhfnhfhdgdgaa
open Go.RowKit Go.Maps Go.Sort
def OwnS (w : World) (B : Nat) (v : Value) (ks : List Str) : Prop := w.ownsRow B 9 1 v ks.length (ks.map encStr)
end Go.Proofs.Ytbmhfnhfhdgdgaa
