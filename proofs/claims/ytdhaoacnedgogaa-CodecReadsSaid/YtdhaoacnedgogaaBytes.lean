/- The contract of varint.Bytes: a length and the bytes behind it, in new memory. -/
import Derived.Test.YtdhaoacnedgogaaOwns
import Derived.Test.YtdhaoacnedgogaaStrs
import Derived.Test.YtdhaoacnedgogaaPuts
import Derived.Lib.AppendStr
namespace Go.Proofs.Ytdhaoacnedgogaa.Vm
open Go.RowKit

theorem strCells_u8s (s : ByteArray) : Lib.strCells s = u8s (bytesOf s) := by simp [Lib.strCells, u8s, bytesOf]

end Go.Proofs.Ytdhaoacnedgogaa.Vm
