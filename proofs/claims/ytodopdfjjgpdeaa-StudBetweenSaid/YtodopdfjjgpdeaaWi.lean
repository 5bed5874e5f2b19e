/- The law Nexts. -/
import Derived.Test.YtodopdfjjgpdeaaWh
namespace Go.Proofs.Ytodopdfjjgpdeaa
open Go.RowKit Go.Shelf
set_option linter.unusedVariables false
set_option linter.unusedSimpArgs false

theorem nx_none (d : Nat) (d5 : d ≤ 7) (A : Option Addr) (c : Nat) (l : List Int) (hll : l.length = d) (ho : ordB l = true) (hf : (clrs [] d).find? (lowB l) = none) (w : World) (hv : RdI w (.slice A d c) l) :
    Calls Try.prog 8 #[.slice A d c] w fun e w' => e = .returned (.tuple #[.slice none 0 0, .int .i64 6]) ∧ Keeps w w' := by
  refine (next_yes d d5 A c l hll ho w hv).mono ?_
  rintro e w' ⟨(⟨_, rfl⟩ | ⟨x, b, cc, hx, _⟩), hb⟩
  · exact ⟨rfl, hb⟩
  · rw [hf] at hx; cases hx
theorem nx_some (d : Nat) (d5 : d ≤ 7) (A : Option Addr) (c : Nat) (l : List Int) (hll : l.length = d) (ho : ordB l = true) (x : List Int) (hf : (clrs [] d).find? (lowB l) = some x) (w : World) (hv : RdI w (.slice A d c) l) :
    Calls Try.prog 8 #[.slice A d c] w fun e w' => ∃ b cc, e = .returned (.tuple #[.slice (some ⟨b, 0, none⟩) d cc, .int .i64 0]) ∧ RdI w' (.slice (some ⟨b, 0, none⟩) d cc) x ∧ Keeps w w' := by
  refine (next_yes d d5 A c l hll ho w hv).mono ?_
  rintro e w' ⟨(⟨h0, rfl⟩ | ⟨y, b, cc, hy, _, rfl, _, hr⟩), hb⟩
  · rw [hf] at h0; cases h0
  · rw [hf] at hy; cases hy; exact ⟨b, cc, rfl, hr, hb⟩
theorem fnd_none {f : Option (List Int)} {e : Ending} {w' : World} (h : FndR f e w') (hf : f = none) : e = .returned (.tuple #[.slice none 0 0, .bool false]) := by
  rcases h with ⟨_, rfl⟩ | ⟨x, v, hx, _⟩
  · rfl
  · rw [hf] at hx; cases hx
theorem fnd_some {f : Option (List Int)} {x : List Int} {e : Ending} {w' : World} (h : FndR f e w') (hf : f = some x) : ∃ v, e = .returned (.tuple #[v, .bool true]) ∧ RdI w' v x := by
  rcases h with ⟨h0, _⟩ | ⟨y, v, hy, rfl, hr⟩
  · rw [hf] at h0; cases h0
  · rw [hf] at hy; cases hy; exact ⟨v, rfl, hr⟩
end Go.Proofs.Ytodopdfjjgpdeaa
