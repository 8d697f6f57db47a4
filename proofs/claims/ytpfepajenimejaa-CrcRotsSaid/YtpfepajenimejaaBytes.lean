/- Bytes' type, as the laws on append and make ask for it. No conditions. -/
import Derived.Test.YtpfepajenimejaaKit
import Derived.Test.YtpfepajenimejaaRows
import Derived.OwnWalk
namespace Go.Proofs.Ytpfepajenimejaa
open Go.RowKit
theorem info_u8 : (Try.prog.info? 5).map (fun i => (i.zero, i.size, i.bytes)) = some (some (.int .u8 0), 1, 1) := by kernel_rfl
theorem bytes_ty : ByteTy Try.prog 22 5 := ⟨Try.underlying22, Try.underlying5, info_parts info_u8⟩
end Go.Proofs.Ytpfepajenimejaa
