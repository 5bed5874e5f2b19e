/- The walk of Item. -/
import Derived.Test.YtodopdfjjgpdeaaVj
import Derived.Test.YtodopdfjjgpdeaaWa
namespace Go.Proofs.Ytodopdfjjgpdeaa
open Go.RowKit Go.Shelf
set_option linter.unusedVariables false
set_option linter.unusedSimpArgs false
attribute [local go_sem] Oper.semAt_some

/-- What Item returns. -/
def ItR (k : Int) (d : Nat) (e : Ending) (w' : World) : Prop :=
  (¬ (0 ≤ k ∧ k < (clrs [] d).length) ∧ e = .returned (.tuple #[.slice none 0 0, .int .i64 2])) ∨
  (∃ x b c, 0 ≤ k ∧ (clrs [] d)[k.toNat]? = some x ∧ x.length = d ∧ e = .returned (.tuple #[.slice (some ⟨b, 0, none⟩) d c, .int .i64 0]) ∧ d ≤ c ∧ RdI w' (.slice (some ⟨b, 0, none⟩) d c) x)
structure ItX (w : World) (k : Int) (d : Nat) (M : Nat → Prop) (Z : World) (x : List Int) (b c : Nat) : Prop where
  h0 : 0 ≤ k
  hx : (clrs [] d)[k.toNat]? = some x
  hl : x.length = d
  h1 : At Z (w.heap.size + 1) 22 #[.slice (some ⟨b, 0, none⟩) d c]
  h2 : At Z (w.heap.size + 1 + 1) 24 #[.int .i64 0]
  hc : d ≤ c
  hd : ∀ j, j < d → Z.cell? ⟨b, j, none⟩ = some (.int .i64 (nth x j))
  hM : M b
  hk : Keeps w Z
end Go.Proofs.Ytodopdfjjgpdeaa
