/- The contract of the document's own Number. -/
import Derived.Test.YtnepcledbjnolabDoorNamesNumber
namespace Go.Proofs.YtnepcledbjnolabDoor
open Go.RowKit

end Go.Proofs.YtnepcledbjnolabDoor
