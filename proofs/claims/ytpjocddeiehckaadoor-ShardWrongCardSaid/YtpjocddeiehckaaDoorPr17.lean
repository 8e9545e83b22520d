/- The walks of the door's laws, of what landed. Condition: as in the texts that they name. -/
import Derived.Test.YtpjocddeiehckaaDoorPr13
import Derived.Test.YtpjocddeiehckaaDoorPr15
import Derived.Test.YtpjocddeiehckaaDoorPr16
namespace Go.Proofs.YtpjocddeiehckaaDoor
open Go.RowKit
abbrev shardMends_walk := shardMends_all sumsC mendC
abbrev shardRights_walk := shardRights_all sumsC rightC wrongC
abbrev shardTooFew_walk := shardTooFew_all sumsC mendC
abbrev shardLost_walk := shardLost_all sumsC mendC
abbrev shardWrong_walk := shardWrong_all sumsC rightC wrongC
end Go.Proofs.YtpjocddeiehckaaDoor
