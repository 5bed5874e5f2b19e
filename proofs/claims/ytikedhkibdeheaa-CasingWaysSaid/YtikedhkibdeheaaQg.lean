/- The program's standard is the reference's standard. -/
import Derived.Test.YtikedhkibdeheaaQe
import Derived.Test.YtikedhkibdeheaaGc
import Derived.Test.YtikedhkibdeheaaKc
namespace Go.Proofs.Ytikedhkibdeheaa
open Go.RowKit
set_option linter.unusedVariables false

/-- Each sheet found, other than the first, is where a letter leads from an earlier one. -/
def numQ (σ : Int → Int → Int) (s : Int) (g : Nat) (L : List Fd) : Prop := sh L 0 = s ∧ 0 < L.length ∧ ∀ k : Nat, 1 ≤ k → k < L.length → ∃ j m : Nat, j < k ∧ m < g ∧ sh L k = σ (sh L j) m
theorem numI_q {σ : Int → Int → Int} {s : Int} {g at_ : Nat} {L : List Fd} {m : Nat} (h : numQ σ s g L) (ha : at_ < L.length) (hm : m < g) : numQ σ s g (numI σ at_ L m) := by
  unfold numI
  split
  · exact h
  · obtain ⟨h0, hl, h⟩ := h
    refine ⟨by rw [sh_app _ _ _ hl, h0], by simp, fun k h1 h2 => ?_⟩
    by_cases hk : k < L.length
    · obtain ⟨j, m', hj, hm', e⟩ := h k h1 hk
      exact ⟨j, m', hj, hm', by rw [sh_app _ _ _ hk, sh_app _ _ _ (by omega), e]⟩
    · have hk' : k = L.length := by simp at h2; omega
      subst hk'
      exact ⟨at_, m, ha, hm, by rw [sh_app _ _ _ ha]; simp [sh]⟩
theorem numR_q {g : Nat} {s : Int} {σ : Int → Int → Int} {at_ : Nat} {L : List Fd} (h : numQ σ s g L) (ha : at_ < L.length) : ∀ m, m ≤ g → numQ σ s g (numR σ at_ L m) ∧ at_ < (numR σ at_ L m).length
  | 0, _ => ⟨h, ha⟩
  | m + 1, hm => by
    have ih := numR_q (σ := σ) h ha m (by omega)
    rw [numR_succ]
    exact ⟨numI_q ih.1 ih.2 (by omega), Nat.lt_of_lt_of_le ih.2 numI_len⟩
theorem numL_q (σ : Int → Int → Int) (g : Nat) (s : Int) : ∀ k, numQ σ s g (numL σ g s k)
  | 0 => ⟨rfl, by simp [numL], by intro k h1 h2; simp [numL] at h2; omega⟩
  | k + 1 => by
    rw [numL_succ]
    split
    · exact (numR_q (numL_q σ g s k) (by assumption) g (Nat.le_refl _)).1
    · exact numL_q σ g s k
theorem numS_q (σ : Int → Int → Int) (g : Nat) (s : Int) : numQ σ s g (numS σ g s) := numL_q σ g s 25

/-- The places of the sheets. -/
theorem plK_at {n : Nat} {L : List Fd} (hn : numOk (n : Nat) L) (hl : L.length = n) : ∀ m, m ≤ L.length → ∀ k, k < m → nth (plK L m) (sh L k).toNat = k := by
  intro m
  induction m with
  | zero => intro _ k hk; omega
  | succ m ih =>
    intro hm k hk
    rw [plK_succ, nth_set, plK_length]
    have bm := hn.2.2 _ (sh_mem L m (by omega))
    have bk := hn.2.2 _ (sh_mem L k (by omega))
    by_cases hkm : k = m
    · subst hkm; rw [if_pos ⟨rfl, by omega⟩]
    · rw [if_neg, ih (by omega) k (by omega)]
      rintro ⟨e, _⟩
      have e2 : nth (shs L) k = nth (shs L) m := by rw [nth_shs _ _ (by omega), nth_shs _ _ (by omega)]; omega
      exact hkm (nth_inj (shs L) hn.2.1 k m (by rw [shs_length]; omega) (by rw [shs_length]; omega) e2)

theorem nodup_surj (l : List Int) (d : Nat) (hl : l.length = d) (hn : l.Nodup) (hb : ∀ j, j < l.length → 0 ≤ nth l j ∧ nth l j < d) (x : Nat) (hx : x < d) : ∃ y, y < d ∧ nth l y = x := by
  by_cases h : (x : Int) ∈ l
  · obtain ⟨y, hy, e⟩ := List.mem_iff_getElem.1 h
    exact ⟨y, by omega, by rw [nth, List.getElem?_eq_getElem hy]; exact e⟩
  · exfalso
    have := nodup_le ((x : Int) :: l) ((List.range d).map fun i : Nat => (i : Int)) (List.nodup_cons.2 ⟨h, hn⟩) (fun z hz => by
      rcases List.mem_cons.1 hz with rfl | hz
      · exact List.mem_map.2 ⟨x, by simpa using hx, rfl⟩
      · obtain ⟨y, hy, e⟩ := List.mem_iff_getElem.1 hz
        have := hb y hy
        rw [nth, List.getElem?_eq_getElem hy] at this
        have e' : (some l[y]).getD 0 = z := e
        simp only [Option.getD_some] at this
        exact List.mem_map.2 ⟨z.toNat, by rw [List.mem_range]; omega, by omega⟩)
    simp at this
    omega
theorem renC_at (L : List Fd) (l : List Int) (n k : Nat) (h : k < n) : nth (renC L l n) k = nth (plK L L.length) (nth l (sh L k).toNat).toNat := by
  simp [renC, nth, h]
theorem sg_at (t : List (List Int)) (hB : windB t = true) (c : Nat) (l : List Int) (hl : t[c]? = some l) (j : Nat) (hj : j < shN t) :
    sg (windW t) j (2 * c : Nat) = nth l j ∧ sg (windW t) (nth l j) (2 * c + 1 : Nat) = j := by
  have hc := col_of t hB c l hl
  obtain ⟨h1, h2⟩ := windW_at t hB c l hl j (by omega)
  constructor
  · rw [sg, ← h1]; congr 1; omega
  · rw [sg]; refine Eq.trans ?_ h2; congr 1; omega
theorem numT_q (t : List (List Int)) (s : Int) : numQ (sg (windW t)) s (2 * t.length) (numT t s) := by unfold numT; exact numS_q _ _ _
theorem numT_ok (t : List (List Int)) (hB : windB t = true) (s : Int) (hs : 0 ≤ s ∧ s < shN t) : numOk (shN t : Nat) (numT t s) := by
  obtain ⟨h12, d1, d5, _⟩ := windB_parts t hB
  unfold numT numS
  exact nums_ok (shN t) (windW t) (windW_okd t hB) (by omega) (2 * t.length) (by omega) s hs 25
theorem renT_def (t : List (List Int)) (s : Int) : renT t s = t.map fun l => renC (numT t s) l (numT t s).length := rfl
theorem ren_same (t : List (List Int)) (hB : windB t = true) (hL : (numT t 0).length = shN t) : (renT t 0 = t) ↔ ∀ k, k < shN t → sh (numT t 0) k = k := by
  obtain ⟨h12, d1, d5, _⟩ := windB_parts t hB
  have hok := numT_ok t hB 0 ⟨by omega, by omega⟩
  obtain ⟨q0, _, hq⟩ := numT_q t 0
  have hat := renT_at t 0
  have hpl := plK_at hok hL (numT t 0).length (Nat.le_refl _)
  have hren := renT_def t 0
  generalize renT t 0 = R at *
  generalize numT t 0 = L at *
  constructor
  · intro he k
    induction k using Nat.strongRecOn with
    | ind k ih =>
      intro hk
      by_cases hk0 : k = 0
      · subst hk0; exact q0
      · obtain ⟨j, m, hj, hm, e⟩ := hq k (by omega) (by omega)
        rw [ih j hj (by omega)] at e
        obtain ⟨c, l, hl, hmc⟩ : ∃ (c : Nat) (l : List Int), t[c]? = some l ∧ (m = 2 * c ∨ m = 2 * c + 1) :=
          ⟨m / 2, t[m / 2]'(by omega), List.getElem?_eq_getElem (by omega), by omega⟩
        have hc := col_of t hB c l hl
        have hlr : l = renC L l L.length := by
          have := hat c l hl
          rw [he, hl] at this
          exact Option.some.inj this
        have hr : ∀ i, i < shN t → nth l i = nth (plK L L.length) (nth l (sh L i).toNat).toNat := fun i hi => by
          have := renC_at L l L.length i (by omega)
          rw [← hlr] at this
          exact this
        rcases hmc with rfl | rfl
        · rw [(sg_at t hB c l hl j (by omega)).1] at e
          have h1 := hr j (by omega)
          rw [ih j hj (by omega), Int.toNat_natCast, ← e, hpl k (by omega)] at h1
          exact h1
        · obtain ⟨y, hy, ey⟩ := nodup_surj l (shN t) hc.1 hc.2.2.1 (fun j hj => hc.2.2.2.2 j hj) j (by omega)
          have e2 := (sg_at t hB c l hl y hy).2
          rw [ey, ← e] at e2
          have h1 := hr k hk
          rw [e2, Int.toNat_natCast, ey, Int.toNat_natCast] at h1
          have h2 := hpl j (by omega)
          rw [ih j hj (by omega), Int.toNat_natCast] at h2
          rw [h2, ← ey] at h1
          rw [e2, nth_inj l hc.2.2.1 k y (by omega) (by omega) h1]
  · intro hs
    rw [hren]
    refine List.ext_getElem (by simp) fun c h1 h2 => ?_
    simp only [List.getElem_map]
    have hl : t[c]? = some t[c] := List.getElem?_eq_getElem h2
    have hc := col_of t hB c _ hl
    refine List.ext_getElem (by rw [renC_length]; omega) fun i hi1 hi2 => ?_
    have hir : i < L.length := by rw [renC_length] at hi1; exact hi1
    have e1 := renC_at L t[c] L.length i hir
    have e2 : nth (renC L t[c] L.length) i = (renC L t[c] L.length)[i] := by rw [nth, List.getElem?_eq_getElem hi1]; rfl
    have e3 : nth t[c] i = t[c][i] := by rw [nth, List.getElem?_eq_getElem hi2]; rfl
    rw [← e2, ← e3, e1, hs i (by omega), Int.toNat_natCast]
    have hb := hc.2.2.2.2 i (by omega)
    have h3 := hpl (nth t[c] i).toNat (by omega)
    rw [hs _ (by omega), Int.toNat_natCast] at h3
    rw [h3]; omega
/-- The program's isStandard says what the reference's Standard says. -/
theorem stan_eq (t : List (List Int)) (hB : windB t = true) : stdB (windW t) = stanB t := by
  have hn : numS (sg (windW t)) (2 * nth (windW t) 0).toNat 0 = numT t 0 := by rw [windW_nth0 t hB, show (2 * (t.length : Int)).toNat = 2 * t.length by omega, numT]
  rw [stdB, hn, windW_nth1 t hB, stanB, connB]
  by_cases hL : (numT t 0).length = shN t
  · rw [Bool.eq_iff_iff]
    simp only [Bool.and_eq_true, List.all_eq_true, List.mem_range, decide_eq_true_iff, ren_same t hB hL]
    rw [hL]
    exact ⟨fun h => ⟨rfl, h.1⟩, fun h => ⟨h.2, rfl⟩⟩
  · rw [decide_eq_false (show ¬ ((numT t 0).length : Int) = shN t by omega), decide_eq_false hL]
    simp
end Go.Proofs.Ytikedhkibdeheaa
