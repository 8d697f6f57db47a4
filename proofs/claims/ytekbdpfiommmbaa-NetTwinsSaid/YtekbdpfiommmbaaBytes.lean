/- Bytes' type, as the laws on append and make ask for it. No conditions. -/
import Derived.Test.YtekbdpfiommmbaaKit
import Derived.Test.YtekbdpfiommmbaaRows
import Derived.OwnWalk
namespace Go.Proofs.Ytekbdpfiommmbaa
open Go.RowKit
theorem info_u8 : (Try.prog.info? 5).map (fun i => (i.zero, i.size, i.bytes)) = some (some (.int .u8 0), 1, 1) := by kernel_rfl
theorem bytes_ty : ByteTy Try.prog 38 5 := ⟨Try.underlying38, Try.underlying5, info_parts info_u8⟩
end Go.Proofs.Ytekbdpfiommmbaa
