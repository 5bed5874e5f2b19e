/- The plain words of the permutations. Nothing is claimed here. -/
import Derived.Test.YtfaogfcbppojoaaCa
namespace Go.Proofs.Ytfaogfcbppojoaa
open Go.RowKit
/-- All ways to go on from pre by fuel more sheets below d, in ascending order; those whose next sheet lies below s. -/
def ext (d : Nat) : Nat → List Int → List (List Int)
  | 0, pre => [pre]
  | fuel + 1, pre => (List.range d).flatMap fun s : Nat => if (s : Int) ∈ pre then [] else ext d fuel (pre ++ [(s : Int)])
def extP (d fuel : Nat) (pre : List Int) (s : Nat) : List (List Int) := (List.range s).flatMap fun s : Nat => if (s : Int) ∈ pre then [] else ext d fuel (pre ++ [(s : Int)])
theorem ext_succ (d fuel : Nat) (pre : List Int) : ext d (fuel + 1) pre = extP d fuel pre d := rfl
theorem extP_in (d fuel : Nat) (pre : List Int) (s : Nat) (h : (s : Int) ∈ pre) : extP d fuel pre (s + 1) = extP d fuel pre s := by simp [extP, List.range_succ, h]
theorem extP_new (d fuel : Nat) (pre : List Int) (s : Nat) (h : ¬ (s : Int) ∈ pre) : extP d fuel pre (s + 1) = extP d fuel pre s ++ ext d fuel (pre ++ [(s : Int)]) := by simp [extP, List.range_succ, h]
theorem range_split (s d : Nat) (h : s ≤ d) : List.range d = List.range s ++ (List.range (d - s)).map (s + ·) := by
  have := List.range_add (n := s) (m := d - s)
  rwa [show s + (d - s) = d from by omega] at this
theorem extP_prefix (d fuel : Nat) (pre : List Int) (s s' : Nat) (h : s ≤ s') : ∃ t, extP d fuel pre s' = extP d fuel pre s ++ t :=
  ⟨_, by unfold extP; rw [range_split s s' h, List.flatMap_append]⟩
/-- The list ys lies in xs from place k on. -/
def Lies {α : Type} (xs : List α) (k : Nat) (ys : List α) : Prop := ∀ i x, ys[i]? = some x → xs[k + i]? = some x
theorem Lies.part {d fuel : Nat} {pre : List Int} {xs : List (List Int)} {k s : Nat} (h : Lies xs k (extP d fuel pre d)) (hs : s < d) (hn : ¬ (s : Int) ∈ pre) : Lies xs (k + (extP d fuel pre s).length) (ext d fuel (pre ++ [(s : Int)])) := by
  intro i x hx
  obtain ⟨t, ht⟩ := extP_prefix d fuel pre (s + 1) d (by omega)
  rw [extP_new _ _ _ _ hn] at ht
  have h1 := h ((extP d fuel pre s).length + i) x (by
    have hi := (List.getElem?_eq_some_iff.1 hx).1
    rw [ht, List.append_assoc, List.getElem?_append_right (by omega), show (extP d fuel pre s).length + i - (extP d fuel pre s).length = i from by omega, List.getElem?_append_left hi]
    exact hx)
  rwa [← Nat.add_assoc] at h1
def perms (d : Nat) : List (List Int) := ext d d []
/-- Each of them is a list of d different sheets below d. -/
theorem ext_ok (d : Nat) : ∀ (fuel : Nat) (pre : List Int), pre.length + fuel = d → pre.all (hasB d) = true → pre.Nodup → ∀ p ∈ ext d fuel pre, p.length = d ∧ p.all (hasB d) = true ∧ p.Nodup := by
  intro fuel
  induction fuel with
  | zero => intro pre h1 h2 h3 p hp; simp [ext] at hp; subst hp; exact ⟨by omega, h2, h3⟩
  | succ fuel ih =>
    intro pre h1 h2 h3 p hp
    rw [ext_succ] at hp
    simp only [extP, List.mem_flatMap, List.mem_range] at hp
    obtain ⟨s, hs, hp⟩ := hp
    by_cases hin : (s : Int) ∈ pre
    · simp [hin] at hp
    · rw [if_neg hin] at hp
      refine ih (pre ++ [(s : Int)]) (by simp; omega) ?_ ?_ p hp
      · rw [List.all_append, h2]; simp [hasB]; omega
      · rw [List.nodup_append]; exact ⟨h3, by simp, fun a ha b hb => by simp at hb; subst hb; exact fun e => hin (e ▸ ha)⟩
theorem perms_ok (d : Nat) (p : List Int) (hp : p ∈ perms d) : p.length = d ∧ p.all (hasB d) = true ∧ p.Nodup := ext_ok d d [] (by simp) rfl (by simp) p hp
/-- Taking a sheet back. -/
theorem tk_unset (pre : List Int) (n s : Nat) (h : ¬ (s : Int) ∈ pre) : (tk (pre ++ [(s : Int)]) n).setIfInBounds s (.bool false) = tk pre n := by
  apply Array.ext_getElem?
  intro i
  rw [Array.getElem?_setIfInBounds]
  by_cases hi : i < n
  · rw [tk_at _ _ _ hi, tk_at _ _ _ hi]
    by_cases hx : s = i
    · subst hx; simp [h, tk, hi]
    · have : ¬ (i : Int) = s := by omega
      simp [hx, this]
  · have h1 : (tk pre n)[i]? = none := by simp [tk]; omega
    have h2 : (tk (pre ++ [(s : Int)]) n)[i]? = none := by simp [tk]; omega
    rw [h1, h2]
    split
    · simp [tk]; omega
    · rfl
theorem set_take (l : List Int) (k : Nat) (pre : List Int) (x : Int) (hk : k < l.length) (h : l.take k = pre) : (l.set k x).take (k + 1) = pre ++ [x] := by
  rw [List.take_succ_eq_append_getElem (by simpa using hk)]
  simp [List.take_set_of_le, h]
end Go.Proofs.Ytfaogfcbppojoaa
