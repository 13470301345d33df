/- The contract of varint.Bytes: a length and the bytes behind it, in new memory. -/
import Derived.Test.YtgeonmojadkbjaaOwns
import Derived.Test.YtgeonmojadkbjaaPuts
import Derived.Lib.AppendStr
namespace Go.Proofs.Ytgeonmojadkbjaa.Vm
open Go.RowKit

/-- A string's bytes. -/
def bytesOf (s : ByteArray) : List Nat := s.data.toList.map UInt8.toNat
theorem bytesOf_len (s : ByteArray) : (bytesOf s).length = s.size := by simp [bytesOf]
theorem bytesOf_lt (s : ByteArray) : ∀ x ∈ bytesOf s, x < 256 := by
  intro x hx
  obtain ⟨b, _, rfl⟩ := List.mem_map.1 hx
  exact b.toNat_lt
theorem strCells_u8s (s : ByteArray) : Lib.strCells s = u8s (bytesOf s) := by simp [Lib.strCells, u8s, bytesOf]

end Go.Proofs.Ytgeonmojadkbjaa.Vm
