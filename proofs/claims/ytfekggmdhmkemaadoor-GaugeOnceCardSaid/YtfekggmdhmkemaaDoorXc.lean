/- The walks of the program's Rung and of the reference's Gaps. -/
import Derived.Test.YtfekggmdhmkemaaDoorXb
namespace Go.Proofs.YtfekggmdhmkemaaDoor
open Go.RowKit
set_option linter.unusedVariables false
set_option linter.unusedSimpArgs false

theorem rungG_sm9 (k : Int) (h : 0 ≤ k) : sm2 100000000000 (rungG k) := by
  have := rgJ_in k h 40 (by omega)
  unfold sm2 rungG
  unfold sm at *
  omega
theorem str_snoc (l : List UInt8) (c : UInt8) : (⟨l.toArray⟩ : ByteArray) ++ (⟨#[c]⟩ : ByteArray) = ⟨(l ++ [c]).toArray⟩ := by
  apply ByteArray.ext
  rw [ByteArray.data_append]
  simp
end Go.Proofs.YtfekggmdhmkemaaDoor
