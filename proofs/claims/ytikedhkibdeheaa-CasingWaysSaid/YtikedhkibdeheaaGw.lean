/- A winding of a table keeps its sheets below their number; the words of the generators of sheet 0. -/
import Derived.Test.YtikedhkibdeheaaCn
import Derived.Test.YtikedhkibdeheaaGc
namespace Go.Proofs.Ytikedhkibdeheaa
open Go.RowKit
set_option linter.unusedVariables false

def wokd (n : Int) (W : List Int) : Prop := W.length = 22 ∧ ∀ k, 2 ≤ k → k < 22 → 0 ≤ nth W k ∧ nth W k < n
theorem layK_ind (n : Int) (hn : 0 < n) (W : List Int) (gi : Nat) (c : List Int) (hW : wokd n W) (hl : (c.length : Int) = n) (hc : ∀ j, j < c.length → 0 ≤ nth c j ∧ nth c j < n) : ∀ m, m ≤ c.length → wokd n (layK W gi c m) := by
  intro m
  induction m with
  | zero => intro _; exact hW
  | succ m ih =>
    intro hm
    have hi := ih (by omega)
    refine ⟨by rw [layK_length, hW.1], fun k hk1 hk2 => ?_⟩
    rw [layK_succ]
    simp only [nth_set]
    split
    · omega
    · split
      · exact hc m (by omega)
      · exact hi.2 k hk1 hk2
theorem w0_okd (n : Int) (hn : 0 < n) (g d : Int) : wokd n (w0 g d) := by
  refine ⟨rfl, fun k h1 h2 => ?_⟩
  have : nth (w0 g d) k = 0 := by
    have e : k = 2 ∨ k = 3 ∨ k = 4 ∨ k = 5 ∨ k = 6 ∨ k = 7 ∨ k = 8 ∨ k = 9 ∨ k = 10 ∨ k = 11 ∨ k = 12 ∨ k = 13 ∨ k = 14 ∨ k = 15 ∨ k = 16 ∨ k = 17 ∨ k = 18 ∨ k = 19 ∨ k = 20 ∨ k = 21 := by omega
    rcases e with rfl | rfl | rfl | rfl | rfl | rfl | rfl | rfl | rfl | rfl | rfl | rfl | rfl | rfl | rfl | rfl | rfl | rfl | rfl | rfl <;> rfl
  omega
/-- The number of sheets of a table. -/
def shN (t : List (List Int)) : Nat := (t[0]?.getD []).length
theorem windB_parts (t : List (List Int)) (h : windB t = true) : (t.length = 1 ∨ t.length = 2) ∧ 1 ≤ shN t ∧ shN t ≤ 5 ∧ ∀ l ∈ t, colB (shN t) l = true := by
  simp only [windB, Bool.and_eq_true] at h
  obtain ⟨h1, h2, h3⟩ := h
  have h1' : (t.length : Int) = 1 ∨ (t.length : Int) = 2 := by simpa [lettersB] using h1
  have h2' : 1 ≤ ((t[0]?.getD []).length : Int) ∧ ((t[0]?.getD []).length : Int) ≤ 5 := by simpa [sheetsB] using h2
  exact ⟨by omega, by unfold shN; omega, by unfold shN; omega, fun l hl => List.all_eq_true.1 h3 l hl⟩
theorem windK_okd (t : List (List Int)) (h : windB t = true) : ∀ k, k ≤ t.length → wokd (shN t) (windK t k)
  | 0, _ => w0_okd _ (by have := (windB_parts t h).2.1; omega) _ _
  | k + 1, hk => by
    rw [windK_succ]
    have hl : t[k]? = some t[k] := List.getElem?_eq_getElem (by omega)
    have hc := (windB_parts t h).2.2.2 t[k] (List.getElem_mem _)
    have hp := colB_parts _ _ hc
    rw [hl, Option.getD_some]
    exact layK_ind _ (by have := (windB_parts t h).2.1; omega) _ _ _ (windK_okd t h k (by omega)) hp.1 (fun j hj => (hasB_iff _ _).1 (List.all_eq_true.1 hp.2.1 _ (nth_mem _ j hj))) _ (Nat.le_refl _)
theorem windW_okd (t : List (List Int)) (h : windB t = true) : wokd (shN t) (windW t) := by rw [windW, if_pos h]; exact windK_okd t h _ (Nat.le_refl _)
theorem wokd_wok {n : Int} {W : List Int} (h : wokd n W) (hn : n ≤ 5) : wok W := ⟨h.1, fun k h1 h2 => by have := h.2 k h1 h2; omega⟩
theorem windK_nth0 (t : List (List Int)) (k : Nat) : nth (windK t k) 0 = t.length := by
  induction k with
  | zero => rfl
  | succ k ih => rw [windK_succ, layS_nth _ _ _ _ (by omega), ih]
theorem windW_nth0 (t : List (List Int)) (h : windB t = true) : nth (windW t) 0 = t.length := by rw [windW, if_pos h, windK_nth0]
theorem windW_nth1 (t : List (List Int)) (h : windB t = true) : nth (windW t) 1 = shN t := by rw [windW, if_pos h, windK_nth1]; rfl

/-- The word of a sheet and a generator; all of them. -/
def genW (W : List Int) (wl : List (List UInt8)) (s m : Nat) : List UInt8 :=
  red ((wl[s]?.getD []) ++ [nm (2 * (m : Int))] ++ inv (wl[(sg W s (2 * (m : Int))).toNat]?.getD []))
def genS (W : List Int) (wl : List (List UInt8)) (s m : Nat) : List (List UInt8) :=
  (List.range m).flatMap fun j => if genW W wl s j = [] then [] else [genW W wl s j]
def genL (W : List Int) (wl : List (List UInt8)) (g k : Nat) : List (List UInt8) := (List.range k).flatMap fun s => genS W wl s g
theorem genS_succ (W : List Int) (wl : List (List UInt8)) (s m : Nat) : genS W wl s (m + 1) = genS W wl s m ++ (if genW W wl s m = [] then [] else [genW W wl s m]) := by
  simp [genS, List.range_succ]
theorem genL_succ (W : List Int) (wl : List (List UInt8)) (g k : Nat) : genL W wl g (k + 1) = genL W wl g k ++ genS W wl k g := by
  simp [genL, List.range_succ]
theorem genS_le (W : List Int) (wl : List (List UInt8)) (s : Nat) : ∀ m, (genS W wl s m).length ≤ m
  | 0 => by simp [genS]
  | m + 1 => by have := genS_le W wl s m; rw [genS_succ, List.length_append]; split <;> simp <;> omega
theorem genL_le (W : List Int) (wl : List (List UInt8)) (g : Nat) : ∀ k, (genL W wl g k).length ≤ k * g
  | 0 => by simp [genL]
  | k + 1 => by have := genL_le W wl g k; have := genS_le W wl k g; rw [genL_succ, List.length_append, Nat.succ_mul]; omega
/-- The generators of a table. -/
def gensT (t : List (List Int)) : List (List UInt8) :=
  genL (windW t) (wayL (numS (sg (windW t)) (2 * nth (windW t) 0).toNat 0) (shN t - 1)) t.length (shN t)
def gensB (t : List (List Int)) : Bool := windB t && stdB (windW t)
theorem stdB_len (t : List (List Int)) (h : windB t = true) (hs : stdB (windW t) = true) : (numS (sg (windW t)) (2 * nth (windW t) 0).toNat 0).length = shN t := by
  have : ((numS (sg (windW t)) (2 * nth (windW t) 0).toNat 0).length : Int) = nth (windW t) 1 := by
    simp only [stdB, Bool.and_eq_true, decide_eq_true_eq] at hs; exact hs.2
  rw [windW_nth1 t h] at this
  omega
end Go.Proofs.Ytikedhkibdeheaa
