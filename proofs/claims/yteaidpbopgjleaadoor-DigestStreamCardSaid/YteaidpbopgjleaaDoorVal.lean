/-
  Values: the CRC of nine bytes, the digits of a digest.
-/
import Derived.Test.YteaidpbopgjleaaDoorCrc
import Derived.Test.YteaidpbopgjleaaDoorHex
namespace Go.Proofs.YteaidpbopgjleaaDoor
open Go Go.RowKit

theorem crc_nine : crc [49, 50, 51, 52, 53, 54, 55, 56, 57] = 3808858755 := by kernel_rfl
end Go.Proofs.YteaidpbopgjleaaDoor
