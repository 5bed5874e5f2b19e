/- The plain words of the search for windings. Nothing is claimed here. -/
import Derived.Test.YtfaogfcbppojoaaCn
import Derived.Test.YtfaogfcbppojoaaCq
import Derived.Test.YtfaogfcbppojoaaPp
namespace Go.Proofs.Ytfaogfcbppojoaa
open Go.RowKit
set_option linter.unusedVariables false
/-- All windings that come of laying all permutations for fuel generators from gi on. -/
def fl (d : Nat) (rules : List ByteArray) : Nat → List Int → Nat → List (List Int)
  | 0, W, _ => if (stdB W && keepsB W rules) = true then [W] else []
  | fuel + 1, W, gi => (perms d).flatMap fun c => fl d rules fuel (layS W gi c) (gi + 1)
def flP (d : Nat) (rules : List ByteArray) (fuel : Nat) (W : List Int) (gi j : Nat) : List (List Int) := ((perms d).take j).flatMap fun c => fl d rules fuel (layS W gi c) (gi + 1)
theorem fl_succ (d : Nat) (rules : List ByteArray) (fuel : Nat) (W : List Int) (gi : Nat) : fl d rules (fuel + 1) W gi = flP d rules fuel W gi (perms d).length := by
  show (perms d).flatMap _ = ((perms d).take _).flatMap _
  rw [List.take_length]
theorem flP_succ (d : Nat) (rules : List ByteArray) (fuel : Nat) (W : List Int) (gi j : Nat) (c : List Int) (h : (perms d)[j]? = some c) :
    flP d rules fuel W gi (j + 1) = flP d rules fuel W gi j ++ fl d rules fuel (layS W gi c) (gi + 1) := by
  obtain ⟨hj, rfl⟩ := List.getElem?_eq_some_iff.1 h
  rw [flP, flP, List.take_succ_eq_append_getElem hj, List.flatMap_append, List.flatMap_cons, List.flatMap_nil, List.append_nil]
theorem lies_flP {d : Nat} {rules : List ByteArray} {fuel : Nat} {W : List Int} {gi j k : Nat} {c : List Int} {xs : List (List Int)} (hl : Lies xs k (fl d rules (fuel + 1) W gi)) (h : (perms d)[j]? = some c) :
    Lies xs (k + (flP d rules fuel W gi j).length) (fl d rules fuel (layS W gi c) (gi + 1)) := by
  intro i x hx
  have hi := (List.getElem?_eq_some_iff.1 hx).1
  have e : fl d rules (fuel + 1) W gi = (flP d rules fuel W gi j ++ fl d rules fuel (layS W gi c) (gi + 1)) ++ ((perms d).drop (j + 1)).flatMap (fun c => fl d rules fuel (layS W gi c) (gi + 1)) := by
    rw [← flP_succ _ _ _ _ _ _ _ h]
    show (perms d).flatMap _ = _
    conv => lhs; rw [← List.take_append_drop (j + 1) (perms d)]
    rw [List.flatMap_append]; rfl
  have h1 := hl ((flP d rules fuel W gi j).length + i) x (by
    rw [e, List.append_assoc, List.getElem?_append_right (by omega), Nat.add_sub_cancel_left, List.getElem?_append_left hi]
    exact hx)
  rwa [← Nat.add_assoc] at h1
/-- Equal but for what laying the columns from gi on will write. -/
def SameBut (g d gi : Nat) (W W' : List Int) : Prop := W.length = 22 ∧ W'.length = 22 ∧ ∀ k, k < 22 → (k < 2 + 10 * gi ∨ 2 + 10 * g ≤ k ∨ d ≤ (k - 2) % 5) → nth W k = nth W' k
theorem nth_set (l : List Int) (i k : Nat) (x : Int) : nth (l.set i x) k = if i = k ∧ i < l.length then x else nth l k := by
  unfold nth
  by_cases h : i = k
  · subst h
    by_cases hl : i < l.length
    · simp [hl]
    · simp [hl]
  · simp [h, List.getElem?_set_ne h]
theorem layK_same (W W' : List Int) (gi : Nat) (c : List Int) (hl : W.length = W'.length) (k : Nat) : ∀ m, (nth W k = nth W' k ∨ ∃ j, j < m ∧ (k = 2 + 10 * gi + j ∨ k = 2 + 10 * gi + 5 + (nth c j).toNat)) → k < W.length →
    nth (layK W gi c m) k = nth (layK W' gi c m) k := by
  intro m
  induction m with
  | zero => exact fun h _ => h.elim id (fun ⟨j, hj, _⟩ => absurd hj (by omega))
  | succ m ih =>
    intro h hk
    rw [layK_succ, layK_succ]
    simp only [nth_set, List.length_set, layK_length, hl]
    split
    · rfl
    · rename_i h2
      split
      · rfl
      · rename_i h1
        refine ih ?_ hk
        rcases h with h | ⟨j, hj, hjk⟩
        · exact .inl h
        · refine .inr ⟨j, ?_, hjk⟩
          by_cases e : j = m
          · subst e
            rcases hjk with hjk | hjk
            · exact absurd ⟨hjk.symm, by omega⟩ h1
            · exact absurd ⟨hjk.symm, by omega⟩ h2
          · omega
theorem layK_far (W : List Int) (gi : Nat) (c : List Int) (k : Nat) : ∀ m, (∀ j, j < m → k ≠ 2 + 10 * gi + j ∧ k ≠ 2 + 10 * gi + 5 + (nth c j).toNat) → nth (layK W gi c m) k = nth W k := by
  intro m
  induction m with
  | zero => intro _; rfl
  | succ m ih =>
    intro h
    rw [layK_succ]
    simp only [nth_set]
    rw [if_neg (fun e => (h m (by omega)).2 e.1.symm), if_neg (fun e => (h m (by omega)).1 e.1.symm)]
    exact ih (fun j hj => h j (by omega))
/-- A list of d different numbers below d has each of them. -/
theorem perm_has (d : Nat) (c : List Int) (hc : c.length = d ∧ c.all (hasB d) = true ∧ c.Nodup) (x : Nat) (hx : x < d) : ∃ j, j < d ∧ nth c j = x := by
  by_cases hin : (x : Int) ∈ c
  · obtain ⟨j, hj, e⟩ := List.getElem_of_mem hin
    exact ⟨j, by omega, by simp [nth, List.getElem?_eq_getElem hj, e]⟩
  · have := nodup_below d ((x : Int) :: c) (List.nodup_cons.2 ⟨hin, hc.2.2⟩) (fun y hy => by
      rcases List.mem_cons.1 hy with rfl | hy
      · omega
      · exact (hasB_iff _ _).1 (List.all_eq_true.1 hc.2.1 y hy))
    simp at this; omega
theorem nth_in (d : Nat) (c : List Int) (hc : c.length = d ∧ c.all (hasB d) = true ∧ c.Nodup) (j : Nat) (hj : j < d) : 0 ≤ nth c j ∧ nth c j < d :=
  (hasB_iff _ _).1 (List.all_eq_true.1 hc.2.1 _ (nth_mem c j (by omega)))
theorem SameBut.lay {g d gi : Nat} {W W' : List Int} {c : List Int} (h : SameBut g d gi W W') (hc : c.length = d ∧ c.all (hasB d) = true ∧ c.Nodup) (hd : d ≤ 5) : SameBut g d (gi + 1) (layS W gi c) (layS W' gi c) := by
  refine ⟨by rw [layS_length, h.1], by rw [layS_length, h.2.1], fun k hk hcase => ?_⟩
  refine layK_same W W' gi c (by rw [h.1, h.2.1]) k _ ?_ (by rw [h.1]; exact hk)
  by_cases hrow : 2 + 10 * gi ≤ k ∧ k < 2 + 10 * (gi + 1) ∧ (k - 2) % 5 < d
  · right
    by_cases hfirst : k < 2 + 10 * gi + 5
    · exact ⟨k - (2 + 10 * gi), by omega, .inl (by omega)⟩
    · obtain ⟨j, hj, e⟩ := perm_has d c hc (k - (2 + 10 * gi + 5)) (by omega)
      exact ⟨j, by omega, .inr (by omega)⟩
  · exact .inl (h.2.2 k hk (by omega))
theorem SameBut.self {g d gi : Nat} {W : List Int} {c : List Int} (hW : W.length = 22) (hc : c.length = d ∧ c.all (hasB d) = true ∧ c.Nodup) (hd : d ≤ 5) (hg : gi < g) : SameBut g d gi W (layS W gi c) := by
  refine ⟨hW, by rw [layS_length, hW], fun k _ hcase => (layK_far W gi c k _ fun j hj => ?_).symm⟩
  have := nth_in d c hc j (by omega)
  omega
theorem SameBut.trans {g d gi : Nat} {A B C : List Int} (h : SameBut g d gi A B) (k : SameBut g d gi B C) : SameBut g d gi A C :=
  ⟨h.1, k.2.1, fun i hi hc => (h.2.2 i hi hc).trans (k.2.2 i hi hc)⟩
theorem SameBut.refl {g d gi : Nat} {A : List Int} (h : A.length = 22) : SameBut g d gi A A := ⟨h, h, fun _ _ _ => rfl⟩
theorem SameBut.weak {g d gi gi' : Nat} {A B : List Int} (h : SameBut g d gi' A B) (hg : gi ≤ gi') : SameBut g d gi A B :=
  ⟨h.1, h.2.1, fun i hi hc => h.2.2 i hi (by omega)⟩
theorem nth_ext (l l' : List Int) (h : l.length = l'.length) (hn : ∀ k, k < l.length → nth l k = nth l' k) : l = l' := by
  apply List.ext_getElem h
  intro k h1 h2
  have := hn k h1
  simpa [nth, List.getElem?_eq_getElem h1, List.getElem?_eq_getElem h2] using this
theorem fl_same (d : Nat) (hd : d ≤ 5) (rules : List ByteArray) (g : Nat) : ∀ (fuel gi : Nat) (W W' : List Int), gi + fuel = g → SameBut g d gi W W' → fl d rules fuel W gi = fl d rules fuel W' gi := by
  intro fuel
  induction fuel with
  | zero =>
    intro gi W W' hg h
    have : W = W' := nth_ext W W' (by rw [h.1, h.2.1]) (fun k hk => h.2.2 k (by have := h.1; omega) (by omega))
    rw [this]
  | succ fuel ih =>
    intro gi W W' hg h
    simp only [fl]
    have : ∀ c ∈ perms d, fl d rules fuel (layS W gi c) (gi + 1) = fl d rules fuel (layS W' gi c) (gi + 1) := fun c hc => ih (gi + 1) _ _ (by omega) (h.lay (perms_ok d c hc) hd)
    rw [List.flatMap_def, List.flatMap_def, List.map_congr_left this]
/-- Laying keeps all sheets in 0 .. 4. -/
theorem layK_in (W : List Int) (gi : Nat) (c : List Int) (hW : wok W) (hc : ∀ j, j < 5 → j < c.length → 0 ≤ nth c j ∧ nth c j < 5) : ∀ m, m ≤ 5 → m ≤ c.length → wok (layK W gi c m) := by
  intro m
  induction m with
  | zero => intro _ _; exact hW
  | succ m ih =>
    intro h5 hl
    have hi := ih (by omega) (by omega)
    refine ⟨by rw [layK_length, hW.1], fun k hk1 hk2 => ?_⟩
    rw [layK_succ]
    simp only [nth_set]
    split
    · omega
    · split
      · exact hc m (by omega) (by omega)
      · exact hi.2 k hk1 hk2
theorem lay_ok (W : List Int) (gi : Nat) (c : List Int) (hW : wok W) (h5 : c.length ≤ 5) (hx : c.all (hasB 5) = true) : wok (layS W gi c) :=
  layK_in W gi c hW (fun j _ hj => (hasB_iff _ _).1 (List.all_eq_true.1 hx _ (nth_mem c j hj))) _ h5 (Nat.le_refl _)
theorem w0_ok (g d : Int) : wok (w0 g d) := by
  refine ⟨rfl, fun k h1 h2 => ?_⟩
  have : nth (w0 g d) k = 0 := by
    have e : k = 2 ∨ k = 3 ∨ k = 4 ∨ k = 5 ∨ k = 6 ∨ k = 7 ∨ k = 8 ∨ k = 9 ∨ k = 10 ∨ k = 11 ∨ k = 12 ∨ k = 13 ∨ k = 14 ∨ k = 15 ∨ k = 16 ∨ k = 17 ∨ k = 18 ∨ k = 19 ∨ k = 20 ∨ k = 21 := by omega
    rcases e with rfl | rfl | rfl | rfl | rfl | rfl | rfl | rfl | rfl | rfl | rfl | rfl | rfl | rfl | rfl | rfl | rfl | rfl | rfl | rfl <;> rfl
  omega
end Go.Proofs.Ytfaogfcbppojoaa
