/- Symmetries: two one after the other are one of the eight. -/
import Derived.Test.YtodopdfjjgpdeaaTc
namespace Go.Proofs.Ytodopdfjjgpdeaa
open Go.RowKit Go.Shelf
set_option linter.unusedVariables false
set_option linter.unusedSimpArgs false

structure Pm (X : List Int) : Prop where
  is : inB X
  inj : ∀ i j, i < X.length → j < X.length → nth X i = nth X j → i = j
  surj : ∀ v, v < X.length → ∃ i, i < X.length ∧ nth X i = (v : Int)
theorem rows_len : ∀ (n : Nat) (l : List Int), (∀ x ∈ l, 0 ≤ x ∧ x < n) → l.Nodup → l.length ≤ n
  | 0, [], _, _ => Nat.le_refl _
  | 0, a :: l, h, _ => by have := h a (by simp); omega
  | n + 1, l, h, hd => by
    by_cases hm : (n : Int) ∈ l
    · have h1 := rows_len n (l.erase n) (fun x hx => by
        have h2 := (List.Nodup.mem_erase_iff hd).1 hx
        have := h x h2.2
        have := h2.1
        omega) (hd.erase _)
      rw [List.length_erase_of_mem hm] at h1
      omega
    · have := rows_len n l (fun x hx => by
        have := h x hx
        have : x ≠ n := fun e => hm (e ▸ hx)
        omega) hd
      omega
theorem inj_nodup {X : List Int} (h : ∀ i j, i < X.length → j < X.length → nth X i = nth X j → i = j) : X.Nodup := by
  rw [List.Nodup, List.pairwise_iff_getElem]
  intro i j hi hj hij e
  have := h i j hi hj (by simp [nth, hi, hj, e])
  omega
theorem nodup_inj {X : List Int} (h : X.Nodup) : ∀ i j, i < X.length → j < X.length → nth X i = nth X j → i = j := by
  rw [List.Nodup, List.pairwise_iff_getElem] at h
  intro i j hi hj e
  simp only [nth, List.getElem?_eq_getElem hi, List.getElem?_eq_getElem hj, Option.getD_some] at e
  rcases Nat.lt_trichotomy i j with h1 | h1 | h1
  · exact absurd e (h i j hi hj h1)
  · exact h1
  · exact absurd e.symm (h j i hj hi h1)
theorem Pm.of {X : List Int} (h1 : inB X) (h2 : X.Nodup) : Pm X := by
  refine ⟨h1, nodup_inj h2, fun v hv => ?_⟩
  by_cases hm : (v : Int) ∈ X
  · obtain ⟨i, hi, e⟩ := List.getElem_of_mem hm
    exact ⟨i, hi, by simp [nth, hi, e]⟩
  · exfalso
    have := rows_len X.length ((v : Int) :: X) (fun x hx => by
      rcases List.mem_cons.1 hx with rfl | hx
      · omega
      · obtain ⟨i, hi, e⟩ := List.getElem_of_mem hx
        have := h1 i hi
        rw [nth, List.getElem?_eq_getElem hi, Option.getD_some, e] at this
        exact this) (List.nodup_cons.2 ⟨hm, h2⟩)
    rw [List.length_cons] at this
    omega
theorem Pm.of_ord {X : List Int} (h : ordB X = true) : Pm X := by
  refine .of (ordB_in h).2.2 ?_
  unfold ordB rowsB at h
  simp only [Bool.and_eq_true, decide_eq_true_eq] at h
  exact h.2.2
theorem Pm.ord {X : List Int} (h : Pm X) (h1 : 1 ≤ X.length) (h16 : X.length ≤ 16) : ordB X = true := by
  unfold ordB rowsB
  simp only [Bool.and_eq_true, decide_eq_true_eq]
  refine ⟨⟨h1, h16⟩, List.all_eq_true.2 fun x hx => ?_, inj_nodup h.inj⟩
  obtain ⟨i, hi, e⟩ := List.getElem_of_mem hx
  have := h.is i hi
  rw [nth, List.getElem?_eq_getElem hi, Option.getD_some, e] at this
  exact (hasB_iff _ _).2 this
theorem rev_nth (X : List Int) (i : Nat) (hi : i < X.length) : nth X.reverse i = nth X (X.length - 1 - i) := by simp [nth, List.getElem?_reverse hi]
theorem mir_nth (X : List Int) (i : Nat) (hi : i < X.length) : nth (mirL X) i = (X.length : Int) - 1 - nth X i := by simp [mirL, nth, List.getElem?_eq_getElem hi]
theorem mir_length (X : List Int) : (mirL X).length = X.length := by simp [mirL]
theorem ex_length (X : List Int) : (exL X).length = X.length := exK_length X _
theorem Pm.rev {X : List Int} (h : Pm X) : Pm X.reverse := by
  refine .of (inB_rev h.is) (inj_nodup fun i j hi hj e => ?_)
  rw [List.length_reverse] at hi hj
  rw [rev_nth X i hi, rev_nth X j hj] at e
  have := h.inj _ _ (by omega) (by omega) e
  omega
theorem Pm.mir {X : List Int} (h : Pm X) : Pm (mirL X) := by
  refine .of (inB_mir h.is) (inj_nodup fun i j hi hj e => ?_)
  rw [mir_length] at hi hj
  rw [mir_nth X i hi, mir_nth X j hj] at e
  exact h.inj i j hi hj (by omega)
theorem exK_at {X : List Int} (h : Pm X) : ∀ k, k ≤ X.length → ∀ i, i < k → nth (exK X k) (nth X i).toNat = i
  | 0, _, i, hi => by omega
  | k + 1, hk, i, hi => by
    have hl := exK_length X k
    have hx := h.is k (by omega)
    rw [exK_succ, nth_setL _ _ _ _ (by rw [hl]; omega)]
    by_cases e : i = k
    · subst e; rw [if_pos rfl]
    · rw [if_neg]
      · exact exK_at h k (by omega) i (by omega)
      · intro e2
        have h2 := h.is i (by omega)
        exact e (h.inj i k (by omega) (by omega) (by omega))
theorem ex_at {X : List Int} (h : Pm X) (i : Nat) (hi : i < X.length) : nth (exL X) (nth X i).toNat = i := exK_at h _ (Nat.le_refl _) i hi
theorem ex_eq {X Y : List Int} (h : Pm X) (hl : Y.length = X.length) (hy : ∀ i, i < X.length → nth Y (nth X i).toNat = i) : exL X = Y := by
  refine nth_ext' _ _ (by rw [ex_length, hl]) fun v hv => ?_
  rw [ex_length] at hv
  obtain ⟨i, hi, e⟩ := h.surj v hv
  have h1 := ex_at h i hi
  have h2 := hy i hi
  rw [e, Int.toNat_natCast] at h1 h2
  rw [h1, h2]
theorem Pm.ex {X : List Int} (h : Pm X) : Pm (exL X) := by
  refine .of (fun v hv => ?_) (inj_nodup fun v u hv hu e => ?_)
  · rw [ex_length] at hv ⊢
    obtain ⟨i, hi, e⟩ := h.surj v hv
    have h1 := ex_at h i hi
    rw [e, Int.toNat_natCast] at h1
    rw [h1]
    omega
  · rw [ex_length] at hv hu
    obtain ⟨i, hi, ei⟩ := h.surj v hv
    obtain ⟨j, hj, ej⟩ := h.surj u hu
    have h1 := ex_at h i hi
    have h2 := ex_at h j hj
    rw [ei, Int.toNat_natCast] at h1
    rw [ej, Int.toNat_natCast] at h2
    rw [h1, h2] at e
    have : i = j := by omega
    subst this
    omega
theorem ex_ex {X : List Int} (h : Pm X) : exL (exL X) = X := by
  refine ex_eq h.ex (ex_length X).symm fun v hv => ?_
  rw [ex_length] at hv
  obtain ⟨i, hi, e⟩ := h.surj v hv
  have h1 := ex_at h i hi
  rw [e, Int.toNat_natCast] at h1
  rw [h1, Int.toNat_natCast, e]
theorem ex_rev {X : List Int} (h : Pm X) : exL X.reverse = mirL (exL X) := by
  refine ex_eq h.rev (by rw [mir_length, ex_length, List.length_reverse]) fun i hi => ?_
  rw [List.length_reverse] at hi
  have hx := h.is (X.length - 1 - i) (by omega)
  rw [rev_nth X i hi, mir_nth _ _ (by rw [ex_length]; omega), ex_at h _ (by omega), ex_length]
  omega
theorem ex_mir {X : List Int} (h : Pm X) : exL (mirL X) = (exL X).reverse := by
  refine ex_eq h.mir (by rw [List.length_reverse, ex_length, mir_length]) fun i hi => ?_
  rw [mir_length] at hi
  have hx := h.is i hi
  rw [mir_nth X i hi, rev_nth _ _ (by rw [ex_length]; omega), ex_length]
  have := ex_at h i hi
  rw [show X.length - 1 - ((X.length : Int) - 1 - nth X i).toNat = (nth X i).toNat by omega]
  exact this
theorem mir_mir (X : List Int) : mirL (mirL X) = X := by
  refine nth_ext' _ _ (by rw [mir_length, mir_length]) fun i hi => ?_
  rw [mir_length, mir_length] at hi
  rw [mir_nth _ _ (by rw [mir_length]; exact hi), mir_nth _ _ hi, mir_length]
  omega
theorem mir_rev (X : List Int) : mirL X.reverse = (mirL X).reverse := by simp [mirL]
theorem tn3_pm {L : List Int} (h : Pm L) (s : Nat) : Pm (tn3 L s) := by
  have h1 : Pm (tn1 L s) := by
    unfold tn1
    split
    · exact h.rev
    · exact h
  have h2 : Pm (tn2 L s) := by
    unfold tn2
    split
    · exact h1.mir
    · exact h1
  unfold tn3
  split
  · exact h2.ex
  · exact h2
/-- The number of two symmetries. -/
def cmpS (s t : Nat) : Nat := if s / 4 % 2 = 1 then (t / 2 % 2 + s % 2) % 2 + (t % 2 + s / 2 % 2) % 2 * 2 + (t / 4 % 2 + 1) % 2 * 4 else (t % 2 + s % 2) % 2 + (t / 2 % 2 + s / 2 % 2) % 2 * 2 + t / 4 % 2 * 4
theorem sy0 (X : List Int) : tn3 X 0 = X := rfl
theorem sy1 (X : List Int) : tn3 X 1 = X.reverse := rfl
theorem sy2 (X : List Int) : tn3 X 2 = mirL X := rfl
theorem sy3 (X : List Int) : tn3 X 3 = mirL X.reverse := rfl
theorem sy4 (X : List Int) : tn3 X 4 = exL X := rfl
theorem sy5 (X : List Int) : tn3 X 5 = exL X.reverse := rfl
theorem sy6 (X : List Int) : tn3 X 6 = exL (mirL X) := rfl
theorem sy7 (X : List Int) : tn3 X 7 = exL (mirL X.reverse) := rfl
set_option maxHeartbeats 4000000 in
theorem tn3_two {L : List Int} (h : Pm L) (s t : Nat) (hs : s < 8) (ht : t < 8) : ∃ k, k < 8 ∧ tn3 (tn3 L s) t = tn3 L k := by
  have hR := h.rev
  have hM := h.mir
  have e1 := ex_ex h
  have e2 := ex_rev h
  have e3 := ex_mir h
  have e4 := ex_rev hM
  have e5 := ex_rev h.ex
  have e6 := ex_mir h.ex
  have e7 := ex_rev h.ex.mir
  have hs : s = 0 ∨ s = 1 ∨ s = 2 ∨ s = 3 ∨ s = 4 ∨ s = 5 ∨ s = 6 ∨ s = 7 := by omega
  have ht : t = 0 ∨ t = 1 ∨ t = 2 ∨ t = 3 ∨ t = 4 ∨ t = 5 ∨ t = 6 ∨ t = 7 := by omega
  refine ⟨cmpS s t, ?_, ?_⟩
  · rcases hs with rfl | rfl | rfl | rfl | rfl | rfl | rfl | rfl <;> rcases ht with rfl | rfl | rfl | rfl | rfl | rfl | rfl | rfl <;> decide
  · rcases hs with rfl | rfl | rfl | rfl | rfl | rfl | rfl | rfl <;> rcases ht with rfl | rfl | rfl | rfl | rfl | rfl | rfl | rfl <;>
      first
        | (show tn3 (tn3 L _) _ = tn3 L 0; simp only [sy0, sy1, sy2, sy3, sy4, sy5, sy6, sy7, e1, e2, e3, e4, e5, e6, e7, mir_mir, mir_rev, List.reverse_reverse])
        | (show tn3 (tn3 L _) _ = tn3 L 1; simp only [sy0, sy1, sy2, sy3, sy4, sy5, sy6, sy7, e1, e2, e3, e4, e5, e6, e7, mir_mir, mir_rev, List.reverse_reverse])
        | (show tn3 (tn3 L _) _ = tn3 L 2; simp only [sy0, sy1, sy2, sy3, sy4, sy5, sy6, sy7, e1, e2, e3, e4, e5, e6, e7, mir_mir, mir_rev, List.reverse_reverse])
        | (show tn3 (tn3 L _) _ = tn3 L 3; simp only [sy0, sy1, sy2, sy3, sy4, sy5, sy6, sy7, e1, e2, e3, e4, e5, e6, e7, mir_mir, mir_rev, List.reverse_reverse])
        | (show tn3 (tn3 L _) _ = tn3 L 4; simp only [sy0, sy1, sy2, sy3, sy4, sy5, sy6, sy7, e1, e2, e3, e4, e5, e6, e7, mir_mir, mir_rev, List.reverse_reverse])
        | (show tn3 (tn3 L _) _ = tn3 L 5; simp only [sy0, sy1, sy2, sy3, sy4, sy5, sy6, sy7, e1, e2, e3, e4, e5, e6, e7, mir_mir, mir_rev, List.reverse_reverse])
        | (show tn3 (tn3 L _) _ = tn3 L 6; simp only [sy0, sy1, sy2, sy3, sy4, sy5, sy6, sy7, e1, e2, e3, e4, e5, e6, e7, mir_mir, mir_rev, List.reverse_reverse])
        | (show tn3 (tn3 L _) _ = tn3 L 7; simp only [sy0, sy1, sy2, sy3, sy4, sy5, sy6, sy7, e1, e2, e3, e4, e5, e6, e7, mir_mir, mir_rev, List.reverse_reverse])
/-- The symmetry that undoes one. -/
def bkS (s : Nat) : Nat := if s = 5 ∨ s = 6 then 11 - s else s
theorem tn3_back {L : List Int} (h : Pm L) (s : Nat) (hs : s < 8) : tn3 (tn3 L s) (bkS s) = L := by
  have hR := h.rev
  have hM := h.mir
  have e1 := ex_ex h
  have e2 := ex_rev h
  have e3 := ex_mir h
  have e4 := ex_rev hM
  have e5 := ex_rev h.ex
  have e6 := ex_mir h.ex
  have e7 := ex_rev h.ex.mir
  have hs : s = 0 ∨ s = 1 ∨ s = 2 ∨ s = 3 ∨ s = 4 ∨ s = 5 ∨ s = 6 ∨ s = 7 := by omega
  rcases hs with rfl | rfl | rfl | rfl | rfl | rfl | rfl | rfl
  · rfl
  · show tn3 (tn3 L 1) 1 = L
    simp only [sy1, List.reverse_reverse]
  · show tn3 (tn3 L 2) 2 = L
    simp only [sy2, mir_mir]
  · show tn3 (tn3 L 3) 3 = L
    simp only [sy3, mir_mir, mir_rev, List.reverse_reverse]
  · show tn3 (tn3 L 4) 4 = L
    simp only [sy4, e1]
  · show tn3 (tn3 L 5) 6 = L
    simp only [sy5, sy6, e1, e2, mir_mir]
  · show tn3 (tn3 L 6) 5 = L
    simp only [sy5, sy6, e1, e3, List.reverse_reverse]
  · show tn3 (tn3 L 7) 7 = L
    simp only [sy7, e1, e2, e3, e4, e5, e6, e7, mir_mir, mir_rev, List.reverse_reverse]
end Go.Proofs.Ytodopdfjjgpdeaa
