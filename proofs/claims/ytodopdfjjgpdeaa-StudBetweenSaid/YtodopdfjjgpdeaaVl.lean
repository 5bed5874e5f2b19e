/- For the law Completed: Complete where there is none, and where there is one. -/
import Derived.Test.YtodopdfjjgpdeaaVj
import Derived.Test.YtodopdfjjgpdeaaVk
import Derived.Test.YtodopdfjjgpdeaaVh
import Derived.Test.YtodopdfjjgpdeaaLi
import Derived.Test.YtodopdfjjgpdeaaSl
import Derived.Deep.RegionWith
namespace Go.Proofs.Ytodopdfjjgpdeaa
open Go.RowKit Go.Shelf
set_option linter.unusedVariables false

theorem complete_none (d : Nat) (d1 : 1 ≤ d) (d5 : d ≤ 7) (A : Option Addr) (c m : Nat) (start : List Int) (hm : start.length = m) (hlen : m ≤ d) (hrows : rowsB d start = true) (hcap : m ≤ c) (h : (clrs start d)[0]? = none) (w : World) (hv : RdI w (.slice A m c) start) :
    Calls Try.prog 14 #[.slice A m c, .int .i64 d] w fun e w' => e = .returned (.tuple #[.slice none 0 0, .int .i64 6]) ∧ Keeps w w' := by
  subst hm
  refine (complete_yes d d1 d5 A c start hlen hrows hcap w hv).mono ?_
  rintro e w' ⟨(⟨h0, rfl⟩ | ⟨x, b, cc, hx, _⟩), hb⟩
  · exact ⟨rfl, hb⟩
  · rw [h] at hx; cases hx
theorem complete_some (d : Nat) (d1 : 1 ≤ d) (d5 : d ≤ 7) (A : Option Addr) (c m : Nat) (start : List Int) (hm : start.length = m) (hlen : m ≤ d) (hrows : rowsB d start = true) (hcap : m ≤ c) (x : List Int) (h : (clrs start d)[0]? = some x) (w : World) (hv : RdI w (.slice A m c) start) :
    Calls Try.prog 14 #[.slice A m c, .int .i64 d] w fun e w' => ∃ b cc, e = .returned (.tuple #[.slice (some ⟨b, 0, none⟩) d cc, .int .i64 0]) ∧ x.length = d ∧ d ≤ cc ∧ RdI w' (.slice (some ⟨b, 0, none⟩) d cc) x ∧ Keeps w w' := by
  subst hm
  refine (complete_yes d d1 d5 A c start hlen hrows hcap w hv).mono ?_
  rintro e w' ⟨(⟨h0, rfl⟩ | ⟨y, b, cc, hx, hl, rfl, hc, hr⟩), hb⟩
  · rw [h] at h0; cases h0
  · rw [h] at hx
    cases hx
    exact ⟨b, cc, rfl, hl, hc, hr, hb⟩
end Go.Proofs.Ytodopdfjjgpdeaa
