/- The law Half. -/
import Derived.Test.YtngonghgkeobhaaEk
namespace Go.Proofs.Ytngonghgkeobhaa
open Go.RowKit Go.Shelf
set_option linter.unusedVariables false
set_option linter.unusedSimpArgs false

theorem Best_T (d : Nat) (hd : 1 ≤ d) (v : Value) (l : List Ed) (hg : graphB d l = true) (w : World) (hv : RdE w v l) :
    Calls Try.prog 13 #[.int .i64 d, v] w fun e w' => e = .returned (.tuple #[.string (TX (bestL (d - 1) l).1 d), .int .i64 (bestL (d - 1) l).2, .int .i64 0]) ∧ Keeps w w' := by
  obtain ⟨k, rfl⟩ : ∃ k, d = k + 1 := ⟨d - 1, by omega⟩
  have := Best_yes k v l (by exact_mod_cast hg) w hv
  exact_mod_cast this
theorem wsL_bound (l : List Ed) (hE : edgesOk l) : ∀ z ∈ wsL l, -((50 : Nat) : Int) ≤ z ∧ z ≤ ((50 : Nat) : Int) := fun z hz => by
  obtain ⟨y, hy, rfl⟩ := List.mem_map.1 hz
  have := hE.2 y hy
  omega
theorem wsL_len (l : List Ed) : (wsL l).length = l.length := by simp [wsL]
theorem wsL_nth (l : List Ed) (k : Nat) (y : Ed) (h : l[k]? = some y) : nth (wsL l) k = y.2.2 := by unfold nth wsL; rw [List.getElem?_map, h]; rfl
theorem wsL_all (l : List Ed) : smT (wsL l) l.length = (wsL l).sum := by unfold smT; rw [← wsL_len l, List.take_length]
end Go.Proofs.Ytngonghgkeobhaa
