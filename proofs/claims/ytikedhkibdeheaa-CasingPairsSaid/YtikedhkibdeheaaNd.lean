/- What the law on pairs finds. Nothing is claimed here. -/
import Derived.Test.YtikedhkibdeheaaNc
import Derived.Test.YtikedhkibdeheaaMb
namespace Go.Proofs.Ytikedhkibdeheaa
open Go.RowKit
set_option linter.unusedVariables false

def evN (l : List Int) : Int := (l.filter fun x => decide (x % 2 = 0)).length
theorem evN_snoc (l : List Int) (k : Nat) (h : k < l.length) : evN (l.take (k + 1)) = evN (l.take k) + (if nth l k % 2 = 0 then 1 else 0) := by
  rw [List.take_succ_eq_append_getElem h, evN, evN, List.filter_append, nth, List.getElem?_eq_getElem h]
  simp only [Option.getD_some, List.filter_cons, List.filter_nil, decide_eq_true_eq, List.length_append]
  split <;> simp
theorem evN_le (l : List Int) : 0 ≤ evN l ∧ evN l ≤ l.length := ⟨by unfold evN; omega, by unfold evN; have := List.length_filter_le (fun x : Int => decide (x % 2 = 0)) l; omega⟩
def PairsOk (L : List Int) (N n : Int) : Prop := ∃ e : Nat, N + evN L = e ∧ e ≤ 2 ∧ n = 2 ^ e - 1 ∧ (L.length : Int) + N ≤ 2 ∧ 0 ≤ N ∧ (∀ k, k < L.length → 2 ≤ nth L k ∧ nth L k ≤ 1800) ∧ ∀ k, 0 < k → k < L.length → nth L k % nth L (k - 1) = 0
theorem pairs_nil (N n : Int) (e : Nat) (h1 : N = e) (h2 : e ≤ 2) (h3 : n = 2 ^ e - 1) : PairsOk [] N n :=
  ⟨e, by rw [h1]; rfl, h2, h3, by simp; omega, by omega, fun k hk => by simp at hk, fun k _ hk => by simp at hk⟩
theorem pairs_one (x N n : Int) (e : Nat) (hx : 2 ≤ x ∧ x ≤ 1800) (h0 : 0 ≤ N) (hN : N ≤ 1) (h1 : N + (if x % 2 = 0 then 1 else 0) = e) (h2 : e ≤ 2) (h3 : n = 2 ^ e - 1) : PairsOk [x] N n := by
  refine ⟨e, ?_, h2, h3, by simp; omega, h0, fun k hk => ?_, fun k h hk => ?_⟩
  · rw [← h1]; congr 1; simp only [evN, List.filter_cons, List.filter_nil, decide_eq_true_eq]; split <;> rfl
  · have : k = 0 := by simp at hk; exact hk
    subst this; exact hx
  · simp at hk; omega
theorem pairs_two (x y n : Int) (e : Nat) (hx : 2 ≤ x ∧ x ≤ 1800) (hy : 2 ≤ y ∧ y ≤ 1800) (hd : y % x = 0) (h1 : (if x % 2 = 0 then 1 else 0) + (if y % 2 = 0 then 1 else 0) = (e : Int)) (h2 : e ≤ 2) (h3 : n = 2 ^ e - 1) : PairsOk [x, y] 0 n := by
  refine ⟨e, ?_, h2, h3, by simp, by omega, fun k hk => ?_, fun k h hk => ?_⟩
  · rw [← h1, Int.zero_add]; simp only [evN, List.filter_cons, List.filter_nil, decide_eq_true_eq]; split <;> split <;> rfl
  · have : k = 0 ∨ k = 1 := by simp at hk; omega
    rcases this with rfl | rfl
    · exact hx
    · exact hy
  · have : k = 1 := by simp at hk; omega
    subst this; exact hd
theorem pairs_g1 (rs : List ByteArray) (hG : groupB 1 rs = true) : PairsOk (facL 1 rs) (facN 1 rs) (countN 1 2 rs) := by
  have hone := group_one rs hG
  have hgood : goodB 1 2 rs = true := by simp [goodB, hG, sheetsB]
  have hE := dE_le rs (small_of _ _ hG) rs.length (Nat.le_refl _)
  rw [List.take_length] at hE
  have hdv : divB 2 rs = true ↔ (2 : Int) ∣ dE rs := by
    unfold divB
    rw [dE, dvd_dE 2 rs 0, List.all_eq_true]
    simp only [decide_eq_true_iff]
    constructor
    · intro h; exact ⟨Int.dvd_zero _, fun r hr => ⟨h r hr, by rw [exB_one _ (hone r hr)]; exact Int.dvd_zero _⟩⟩
    · rintro ⟨_, h⟩ r hr; exact (h r hr).1
  have hcn : countN 1 2 rs = if (2 : Int) ∣ dE rs then 1 else 0 := by
    rw [countN, if_pos hgood]
    show ((wins 1 2 rs).length : Int) = _
    have hcc := cyc_count 2 (by omega) (by omega) rs hone
    rw [hcc]
    by_cases h : (2 : Int) ∣ dE rs
    · have h2 := hdv.2 h
      rw [if_pos h, if_pos (show divB ((2 : Nat) : Int) rs = true from h2)]; rfl
    · have h2 : ¬ divB ((2 : Nat) : Int) rs = true := fun hh => h (hdv.1 hh)
      rw [if_neg h, if_neg h2]; rfl
  rcases fac_one rs hG with ⟨h1, h2, h3⟩ | ⟨h1, h2, h3⟩ | ⟨h1, h2, h3⟩
  · rw [h2, h3, hcn, h1]; exact pairs_nil _ _ 1 rfl (by omega) (by decide)
  · rw [h2, h3, hcn, h1]; exact pairs_nil _ _ 0 rfl (by omega) (by decide)
  · rw [h2, h3, hcn]
    by_cases h : (2 : Int) ∣ dE rs
    · exact pairs_one _ _ _ 1 ⟨by omega, by omega⟩ (by omega) (by omega) (by rw [if_pos (by omega)]; rfl) (by omega) (by rw [if_pos h]; decide)
    · exact pairs_one _ _ _ 0 ⟨by omega, by omega⟩ (by omega) (by omega) (by rw [if_neg (by omega)]; rfl) (by omega) (by rw [if_neg h]; decide)
theorem pairs_g2 (rs : List ByteArray) (hG : groupB 2 rs = true) : PairsOk (facL 2 rs) (facN 2 rs) (countN 2 2 rs) := by
  have hall : ∀ r ∈ rs, r.data.toList.all (okL 2) = true := by
    intro r hr
    simp only [groupB, Bool.and_eq_true, decide_eq_true_eq] at hG
    have := List.all_eq_true.1 hG.2.2 r hr
    simp only [wordB, Bool.and_eq_true, decide_eq_true_eq] at this
    exact this.2
  have hgood : goodB 2 2 rs = true := by simp [goodB, hG, sheetsB]
  have hE := dE_le rs (small_of _ _ hG) rs.length (Nat.le_refl _)
  rw [List.take_length] at hE
  have hD := dD_le rs (small_of _ _ hG) rs.length (Nat.le_refl _)
  have hcn : countN 2 2 rs = if (2 : Int) ∣ dE rs then 3 else if (2 : Int) ∣ dD rs rs.length then 1 else 0 := by
    rw [countN, if_pos hgood]
    show ((wins 2 2 rs).length : Int) = _
    rw [pair_count rs hall, pair_number rs]
    split
    · rfl
    · split <;> rfl
  have hsq := det_sq (dE rs) rs (Int.dvd_refl _)
  have e1 : facL 2 rs = bigs [dE rs, dD rs rs.length / max (dE rs) 1] := by simp [facL, hG, allF]
  have e2 : facN 2 rs = frees [dE rs, dD rs rs.length / max (dE rs) 1] := by simp [facN, hG, allF]
  rw [e1, e2, hcn]
  generalize dE rs = D at *
  generalize dD rs rs.length = E at *
  obtain ⟨D0, D1⟩ := hE
  obtain ⟨E0, E1⟩ := hD
  obtain ⟨q, hq⟩ := hsq
  by_cases hz : D = 0
  · subst hz
    obtain rfl : E = 0 := by rw [hq]; simp
    exact pairs_nil _ _ 2 (by decide) (by omega) (by decide)
  · have hD1 : 1 ≤ D := by omega
    have hm : max D 1 = D := by omega
    obtain ⟨F, hF⟩ : ∃ F, F = D * q := ⟨_, rfl⟩
    have hEF : E = D * F := by rw [hq, hF, Int.mul_assoc]
    have hdiv : E / max D 1 = F := by rw [hm, hEF]; exact Int.mul_ediv_cancel_left F hz
    rw [hdiv]
    have hF0 : 0 ≤ F := by
      by_cases h : 0 ≤ F
      · exact h
      · exfalso
        have : D * F < 0 := Int.mul_neg_of_pos_of_neg (by omega) (by omega)
        omega
    have hF1 : F ≤ 1800 := by
      have : F ≤ D * F := by
        have := Int.mul_le_mul_of_nonneg_right hD1 hF0
        rwa [Int.one_mul] at this
      omega
    have hpar : ¬ (2 : Int) ∣ D → ((2 : Int) ∣ E ↔ F % 2 = 0) := by
      intro h
      have hd1 : D % 2 = 1 := by omega
      have : E % 2 = F % 2 := by rw [hEF, Int.mul_emod, hd1, Int.one_mul, Int.emod_emod_of_dvd _ (Int.dvd_refl _)]
      omega
    have hpe : (2 : Int) ∣ D → F % 2 = 0 := by
      intro h
      have : (2 : Int) ∣ F := by rw [hF]; exact Int.dvd_trans h (Int.dvd_mul_right _ _)
      omega
    have hFD : F % D = 0 := by rw [hF]; exact Int.mul_emod_right _ _
    have c1 : (if (2 : Int) ∣ D then 3 else if (2 : Int) ∣ E then 1 else 0 : Int) = if D % 2 = 0 then 3 else if F % 2 = 0 then 1 else 0 := by
      by_cases h : (2 : Int) ∣ D
      · rw [if_pos h, if_pos (by omega)]
      · have hd : ¬ D % 2 = 0 := by omega
        rw [if_neg h, if_neg hd]
        by_cases h2 : (2 : Int) ∣ E
        · rw [if_pos h2, if_pos ((hpar h).1 h2)]
        · rw [if_neg h2, if_neg (fun hh => h2 ((hpar h).2 hh))]
    rw [c1]
    clear c1 hcn e1 e2 hpar hdiv hq hm hF
    by_cases hDone : D = 1
    · subst hDone
      by_cases f0 : F = 0
      · subst f0; exact pairs_nil _ _ 1 (by decide) (by omega) (by decide)
      · by_cases f1 : F = 1
        · subst f1; exact pairs_nil _ _ 0 (by decide) (by omega) (by decide)
        · rw [show bigs [1, F] = [F] from by simp [bigs]; omega, show frees [1, F] = 0 from by simp [frees, f0]]
          rcases par2 F with h | h
          · exact pairs_one _ _ _ 1 ⟨by omega, hF1⟩ (by omega) (by omega) (by rw [if_pos h]; rfl) (by omega) (by rw [if_neg (by omega), if_pos h]; decide)
          · exact pairs_one _ _ _ 0 ⟨by omega, hF1⟩ (by omega) (by omega) (by rw [if_neg (by omega)]; rfl) (by omega) (by rw [if_neg (by omega), if_neg (by omega)]; decide)
    · have hD2 : 2 ≤ D := by omega
      by_cases f0 : F = 0
      · subst f0
        rw [show bigs [D, 0] = [D] from by simp [bigs, show 1 < D by omega], show frees [D, 0] = 1 from by simp [frees, hz]]
        rcases par2 D with h | h
        · exact pairs_one _ _ _ 2 ⟨hD2, by omega⟩ (by omega) (by omega) (by rw [if_pos h]; rfl) (by omega) (by rw [if_pos h]; decide)
        · exact pairs_one _ _ _ 1 ⟨hD2, by omega⟩ (by omega) (by omega) (by rw [if_neg (by omega)]; rfl) (by omega) (by rw [if_neg (by omega), if_pos (by decide)]; decide)
      · by_cases f1 : F = 1
        · subst f1
          exfalso
          have : (1 : Int) % D = 1 := Int.emod_eq_of_lt (by omega) (by omega)
          omega
        · rw [show bigs [D, F] = [D, F] from by simp [bigs]; omega, show frees [D, F] = 0 from by simp [frees, hz, f0]]
          rcases par2 D with h | h
          · have hf := hpe (by omega)
            exact pairs_two _ _ _ 2 ⟨hD2, by omega⟩ ⟨by omega, hF1⟩ hFD (by rw [if_pos h, if_pos hf]; rfl) (by omega) (by rw [if_pos h]; decide)
          · rcases par2 F with hf | hf
            · exact pairs_two _ _ _ 1 ⟨hD2, by omega⟩ ⟨by omega, hF1⟩ hFD (by rw [if_neg (by omega), if_pos hf]; rfl) (by omega) (by rw [if_neg (by omega), if_pos hf]; decide)
            · exact pairs_two _ _ _ 0 ⟨hD2, by omega⟩ ⟨by omega, hF1⟩ hFD (by rw [if_neg (by omega), if_neg (by omega)]; rfl) (by omega) (by rw [if_neg (by omega), if_neg (by omega)]; decide)
end Go.Proofs.Ytikedhkibdeheaa
