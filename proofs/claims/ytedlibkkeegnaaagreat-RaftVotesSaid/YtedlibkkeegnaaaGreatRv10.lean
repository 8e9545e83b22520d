/- A row cut in its own block, at any type: what is moved up, what is cleared. It names nothing of the program. -/
import Derived.Test.YtedlibkkeegnaaaGreatRv8
import Derived.Deep.RegionLaw
namespace Go.Proofs.YtedlibkkeegnaaaGreat
open Go.RowKit Go.Maps

end Go.Proofs.YtedlibkkeegnaaaGreat
