/- The windings that are found: they are windings of tables; rules only choose among them. Nothing is claimed here. -/
import Derived.Test.YtikedhkibdeheaaPu
import Derived.Test.YtikedhkibdeheaaKc
namespace Go.Proofs.Ytikedhkibdeheaa
open Go.RowKit
set_option linter.unusedVariables false

theorem fl_filter (d : Nat) (rules : List ByteArray) : ∀ (fuel : Nat) (W : List Int) (gi : Nat), fl d rules fuel W gi = (fl d [] fuel W gi).filter (fun x => keepsB x rules)
  | 0, W, gi => by
    show (if (stdB W && keepsB W rules) = true then [W] else []) = (if (stdB W && keepsB W []) = true then [W] else []).filter (fun x => keepsB x rules)
    have h : keepsB W [] = true := rfl
    rw [h, Bool.and_true]
    by_cases hs : stdB W = true
    · by_cases hk : keepsB W rules = true
      · simp [hs, hk]
      · simp [hs, hk]
    · simp [hs]
  | fuel + 1, W, gi => by
    show (perms d).flatMap _ = ((perms d).flatMap _).filter _
    rw [List.filter_flatMap]
    congr 1
    funext c
    exact fl_filter d rules fuel (layS W gi c) (gi + 1)
theorem wins_filter (g d : Nat) (rules : List ByteArray) : wins g d rules = (wins g d []).filter (fun x => keepsB x rules) := fl_filter d rules g _ 0

/-- What is found is the winding of a table of d sheets with g columns. -/
theorem perm_col (d : Nat) (c : List Int) (hc : c ∈ perms d) : colB d c = true := by
  obtain ⟨h1, h2, h3⟩ := perms_ok d c hc
  exact colB_yes _ _ (by omega) h2 h3
theorem tab_wind (d : Nat) (d1 : 1 ≤ d) (d5 : d ≤ 5) (t : List (List Int)) (h12 : t.length = 1 ∨ t.length = 2) (ht : ∀ c ∈ t, c ∈ perms d) : windB t = true ∧ shN t = d := by
  have h0 : t[0]? = some t[0] := List.getElem?_eq_getElem (by omega)
  have hc0 := perms_ok d _ (ht _ (List.getElem_mem (show 0 < t.length by omega)))
  have hsh : (t[0]?.getD []).length = d := by rw [h0, Option.getD_some]; exact hc0.1
  refine ⟨?_, hsh⟩
  refine windB_yes t d (by simp [lettersB]; omega) (by rw [hsh]) (by simp [sheetsB]; omega) ?_
  rw [List.all_eq_true]
  exact fun c hc => perm_col d c (ht c hc)
theorem leaf {b : Bool} {a x : List Int} (h : x ∈ (if b = true then [a] else [])) : x = a ∧ b = true := by
  split at h
  · rename_i hb; exact ⟨by simpa using h, hb⟩
  · cases h
theorem wins_1 (d : Nat) (rules : List ByteArray) (x : List Int) (h : x ∈ wins 1 d rules) : ∃ c, c ∈ perms d ∧ x = layS (w0 1 d) 0 c ∧ stdB x = true ∧ keepsB x rules = true := by
  unfold wins at h
  simp only [fl, List.mem_flatMap] at h
  obtain ⟨c, hc, hx⟩ := h
  obtain ⟨hxe, hs⟩ := leaf hx
  rw [← hxe, Bool.and_eq_true] at hs
  exact ⟨c, hc, hxe, hs.1, hs.2⟩
theorem wins_2 (d : Nat) (rules : List ByteArray) (x : List Int) (h : x ∈ wins 2 d rules) : ∃ c e, c ∈ perms d ∧ e ∈ perms d ∧ x = layS (layS (w0 2 d) 0 c) 1 e ∧ stdB x = true ∧ keepsB x rules = true := by
  unfold wins at h
  simp only [fl, List.mem_flatMap] at h
  obtain ⟨c, hc, e, he, hx⟩ := h
  obtain ⟨hxe, hs⟩ := leaf hx
  rw [← hxe, Bool.and_eq_true] at hs
  exact ⟨c, e, hc, he, hxe, hs.1, hs.2⟩
theorem wins_tab (g d : Nat) (hg : g = 1 ∨ g = 2) (d1 : 1 ≤ d) (d5 : d ≤ 5) (rules : List ByteArray) (x : List Int) (h : x ∈ wins g d rules) :
    ∃ t, windB t = true ∧ t.length = g ∧ shN t = d ∧ x = windW t ∧ (∀ c ∈ t, c ∈ perms d) ∧ stdB x = true ∧ keepsB x rules = true := by
  rcases hg with rfl | rfl
  · obtain ⟨c, hc, rfl, h1, h2⟩ := wins_1 d rules x h
    have hp : ∀ y ∈ [c], y ∈ perms d := by intro y hy; simp at hy; subst hy; exact hc
    obtain ⟨hB, hs⟩ := tab_wind d d1 d5 [c] (.inl rfl) hp
    have hcl := (perms_ok d c hc).1
    refine ⟨[c], hB, rfl, hs, ?_, hp, h1, h2⟩
    rw [windW, if_pos hB]
    show _ = windK [c] 1
    rw [windK_succ]
    simp [windK, hcl]
  · obtain ⟨c, e, hc, he, rfl, h1, h2⟩ := wins_2 d rules x h
    have hp : ∀ y ∈ [c, e], y ∈ perms d := by
      intro y hy; simp at hy
      rcases hy with rfl | rfl
      · exact hc
      · exact he
    obtain ⟨hB, hs⟩ := tab_wind d d1 d5 [c, e] (.inr rfl) hp
    have hcl := (perms_ok d c hc).1
    refine ⟨[c, e], hB, rfl, hs, ?_, hp, h1, h2⟩
    rw [windW, if_pos hB]
    show _ = windK [c, e] 2
    rw [windK_succ, windK_succ]
    simp [windK, hcl]
end Go.Proofs.Ytikedhkibdeheaa
