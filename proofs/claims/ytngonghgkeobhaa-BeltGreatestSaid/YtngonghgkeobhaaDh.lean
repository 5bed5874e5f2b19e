/- The law Values. -/
import Derived.Test.YtngonghgkeobhaaDg
namespace Go.Proofs.Ytngonghgkeobhaa
open Go.RowKit Go.Shelf
set_option linter.unusedVariables false
set_option linter.unusedSimpArgs false

theorem graphB_below {n : Int} {l : List Ed} (h : graphB n l = true) (m : Nat) (hm : (m : Int) = n) : below m l := by
  intro x hx
  obtain ⟨k, hk, rfl⟩ := List.getElem_of_mem hx
  have h1 := (by unfold graphB at h; simp only [Bool.and_eq_true, decide_eq_true_eq] at h; exact h.2.2 : goodK n l l.length = true)
  have h2 : goodK n l (k + 1) = true := by
    cases hg : goodK n l (k + 1) with
    | true => rfl
    | false => rw [goodK_fall n l (k + 1) hg _ (by omega)] at h1; cases h1
  have h3 : edgeB n l[k] = true := by
    have : (goodK n l k && match l[k]? with | some x => edgeB n x && !dupK l x.1 x.2.1 k | none => true) = true := h2
    rw [List.getElem?_eq_getElem hk] at this
    simp only [Bool.and_eq_true] at this
    exact this.2.1
  simp only [edgeB, Bool.and_eq_true, decide_eq_true_eq] at h3
  omega
theorem gain_eq (n : Int) (l : List Ed) (hg : graphB n l = true) (S d : Nat) (hd : d ≤ 12) : (gnL S l).take d = (List.range d).map (dgn l S) := by
  have hlen := gnL_len S l
  apply nth_ext'
  · rw [List.length_take, List.length_map, List.length_range]; omega
  · intro k hk
    rw [List.length_take] at hk
    have e := val_flp S k (by omega) l (edgesT_of hg)
    have h1 : nth ((gnL S l).take d) k = nth (gnL S l) k := by unfold nth; rw [List.getElem?_take, if_pos (by omega)]
    have h2 : nth ((List.range d).map (dgn l S)) k = dgn l S k := by unfold nth; simp [show k < d by omega]
    rw [h1, h2, dgn]; omega
end Go.Proofs.Ytngonghgkeobhaa
