/- The reference's Letters, IsPath, IsWord; the law's brief. -/
import Derived.Test.YteffkcnlipdgaaaDoorVc
namespace Go.Proofs.YteffkcnlipdgaaaDoor
open Go.RowKit
set_option linter.unusedVariables false
set_option linter.unusedSimpArgs false

theorem byte_eq (c d : UInt8) : (c == d) = !(((c.toNat : Nat) : Int) != ((d.toNat : Nat) : Int)) := by
  rw [bne, Bool.not_not, Bool.eq_iff_iff, beq_iff_eq, beq_iff_eq]
  constructor
  · intro h; rw [h]
  · intro h; apply UInt8.toNat_inj.1; omega
/-- What the law makes of a string. -/
def brf (s : ByteArray) : ByteArray := s.extract 0 (min (s.size : Int) 61).toNat
theorem brf_size (s : ByteArray) : (brf s).size ≤ 61 := by
  unfold brf
  rw [ByteArray.size_extract]
  omega
end Go.Proofs.YteffkcnlipdgaaaDoor
