/- The walks of the document's args, Parts, whole and May. No condition but that what was given is a level in memory. -/
import Derived.Test.YtekdalbhgdkckaaGreatDoorProg
import Derived.Test.YtekdalbhgdkckaaGreatDoorNext
namespace Go.Proofs.YtekdalbhgdkckaaGreatDoor
open Go.RowKit

/-- May it be, as the document says? -/
def mayB (L : Lv) (params : Int) : Bool := decide (L.size ≤ 64) && L.ok (min (max params 0) 4) 32 1

end Go.Proofs.YtekdalbhgdkckaaGreatDoor
