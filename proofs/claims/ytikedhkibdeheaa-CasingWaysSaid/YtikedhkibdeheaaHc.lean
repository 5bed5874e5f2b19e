/- awake answers true. -/
import Derived.Test.YtikedhkibdeheaaHa
import Derived.Test.YtikedhkibdeheaaGx
import Derived.Test.YtikedhkibdeheaaFf
import Derived.Test.YtikedhkibdeheaaTc
namespace Go.Proofs.Ytikedhkibdeheaa
open Go.RowKit

def r3 : List ByteArray := [⟨#[97, 97]⟩, ⟨#[98, 98]⟩, ⟨#[97, 98, 97, 98]⟩]
def r2 : List ByteArray := [⟨#[97, 97, 97, 97]⟩, ⟨#[97, 97, 98, 98]⟩]
theorem ev_good2 : goodB 2 2 r3 = true := by decide +kernel
theorem ev_good4 : goodB 2 4 r3 = true := by decide +kernel
theorem ev_count : countN 2 4 r3 = 1 := by decide +kernel
theorem ev_tabs : (tabsN 2 2 r3).length = 3 ∧ (tabsN 2 2 r3)[0]? = some [[0, 1], [1, 0]] := by decide +kernel
theorem ev_gensB : gensB [[1, 0], [0, 1]] = true := by decide +kernel
theorem ev_gens : gensR [[1, 0], [0, 1]] = [[98], [97, 97], [97, 98, 65]] := by decide +kernel
theorem ev_group : groupB 2 r2 = true := by decide +kernel
theorem ev_fac : facL 2 r2 = [2, 4] ∧ facN 2 r2 = 0 := by decide +kernel
end Go.Proofs.Ytikedhkibdeheaa
