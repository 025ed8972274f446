/- Sums are below 2^32; the bytes of two texts, one behind the other. -/
import Derived.Test.YtckknopjhmpnhaaCrcRef
namespace Go.Proofs.Ytckknopjhmpnhaa

theorem byteL_append (s t : ByteArray) : byteL (s ++ t) = byteL s ++ byteL t := by simp [byteL]
theorem sum_lt (s : ByteArray) : Crc.sum (byteL s) < 4294967296 := by
  unfold Crc.sum Crc.more
  exact ones_lt (Crc.run_lt (by decide) (byteL_lt s))
end Go.Proofs.Ytckknopjhmpnhaa
