/- The walk of LevelMay. No condition but that what was given is a level in memory, and that the tables hold what the program's text lays. -/
import Derived.Test.YtogfmpjgmabomabDoorBegun
namespace Go.Proofs.YtogfmpjgmabomabDoor
open Go.RowKit

end Go.Proofs.YtogfmpjgmabomabDoor
