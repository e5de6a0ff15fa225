/-
  What package pack writes: Uint, Int, Join, Text, each by a contract over lists of bytes.
-/
import Derived.Test.YtnfmgcgjinonnaaBase
import Derived.Test.YtnfmgcgjinonnaaPlain
namespace Go.Proofs.Ytnfmgcgjinonnaa
open Go.RowKit

theorem info_byte : (Try.prog.info? 5).map (fun i => (i.zero, i.size, i.bytes)) = some (some (.int .u8 0), 1, 1) := by kernel_rfl

theorem byte_nat (m : Nat) (h : m < 256) : ((UInt8.ofNat m).toNat : Int) = (m : Int) := by
  have : (UInt8.ofNat m).toNat = m := by simp; omega
  omega

end Go.Proofs.Ytnfmgcgjinonnaa
