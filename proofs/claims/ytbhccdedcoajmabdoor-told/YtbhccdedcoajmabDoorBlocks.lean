import Derived.Test.YtbhccdedcoajmabDoorSw
import Derived.Test.YtbhccdedcoajmabDoorChunks
namespace Go.Proofs.YtbhccdedcoajmabDoor
open Go.RowKit

theorem Tryd.info9 : (Tryd.prog.info? 9).map (fun i => (i.zero, i.size, i.bytes)) = some (some (.string ⟨#[]⟩), 1, 16) := by kernel_rfl

end Go.Proofs.YtbhccdedcoajmabDoor
