/- The library's contracts on 'the keys of a map, sorted', laid at this translation, in plain words. Made by program. No condition but the sizes. -/
import Derived.Shelf.SlIter.Nil
import Derived.Shelf.SortM.Plain
import Derived.Shelf.SortM.SortNone
import Derived.Test.YtbmhfnhfhdgdgaaProg
namespace Go.Proofs.Ytbmhfnhfhdgdgaa
open Go.RowKit Go.Maps Go.Sort Go.Shelf

end Go.Proofs.Ytbmhfnhfhdgdgaa
