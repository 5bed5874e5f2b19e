/- What switching does to graphs, values and the best. -/
import Derived.Test.YtngonghgkeobhaaFa
import Derived.Test.YtngonghgkeobhaaEo
namespace Go.Proofs.Ytngonghgkeobhaa
open Go.RowKit Go.Shelf
set_option linter.unusedVariables false
set_option linter.unusedSimpArgs false

theorem swE_ends (S : Nat) (x : Ed) : (swE S x).1 = x.1 ∧ (swE S x).2.1 = x.2.1 := ⟨rfl, rfl⟩
theorem goodK_sw (n : Int) (S : Nat) (l : List Ed) : ∀ k, goodK n l k = true → goodK n (swL S l) k = true
  | 0, _ => rfl
  | k + 1, h => by
    unfold goodK at h ⊢
    rw [Bool.and_eq_true] at h ⊢
    refine ⟨goodK_sw n S l k h.1, ?_⟩
    have e : (swL S l)[k]? = (l[k]?).map (swE S) := by unfold swL; rw [List.getElem?_map]
    rw [e]
    cases hx : l[k]? with
    | none => rfl
    | some x =>
      rw [hx] at h
      simp only [Option.map_some, Bool.and_eq_true, Bool.not_eq_true'] at h ⊢
      refine ⟨?_, ?_⟩
      · have h1 := h.2.1
        unfold edgeB at h1 ⊢
        simp only [Bool.and_eq_true, decide_eq_true_eq] at h1 ⊢
        unfold swE
        simp only
        split <;> omega
      · have h2 := h.2.2
        unfold dupK at h2 ⊢
        rw [List.any_eq_false] at h2 ⊢
        intro y hy
        unfold swL at hy
        rw [← List.map_take] at hy
        obtain ⟨z, hz, rfl⟩ := List.mem_map.1 hy
        exact h2 z hz
theorem graphB_sw (n : Int) (S : Nat) (l : List Ed) (h : graphB n l = true) : graphB n (swL S l) = true := by
  unfold graphB at h ⊢
  simp only [Bool.and_eq_true, decide_eq_true_eq] at h ⊢
  rw [swL_len]
  exact ⟨h.1, h.2.1, goodK_sw n S l _ h.2.2⟩
theorem wgt_sw (S T : Nat) (x : Ed) : wgt S (swE T x) = wgt (S ^^^ T) x - wgt T x := by
  unfold wgt swE
  simp only [hs_xor]
  cases hs S x.1.toNat <;> cases hs S x.2.1.toNat <;> cases hs T x.1.toNat <;> cases hs T x.2.1.toNat <;> simp
theorem valL_sw (S T : Nat) (l : List Ed) : valL S (swL T l) = valL (S ^^^ T) l - valL T l := by
  have key : ∀ k, k ≤ l.length → valL S (swL T (l.take k)) = valL (S ^^^ T) (l.take k) - valL T (l.take k) := by
    intro k
    induction k with
    | zero => intro _; rfl
    | succ k ih =>
      intro hk
      have hx : l[k]? = some l[k] := List.getElem?_eq_getElem (by omega)
      rw [take_at l k _ hx, valL_snoc, valL_snoc]
      unfold swL at ih ⊢
      rw [List.map_append, List.map_singleton, valL_snoc, ih (by omega), wgt_sw]
      omega
  have := key l.length (Nat.le_refl _)
  rwa [List.take_length] at this
theorem sw_sw (T : Nat) (l : List Ed) : swL T (swL T l) = l := by
  unfold swL
  rw [List.map_map]
  conv => rhs; rw [← List.map_id l]
  apply List.map_congr_left
  intro x _
  obtain ⟨a, b, c⟩ := x
  simp only [Function.comp, swE, id]
  split <;> simp_all
theorem best_sw (v : Nat) (hv : v < 12) (l : List Ed) (T : Nat) (hg : graphB ((v : Int) + 1) l = true) : (bestL v (swL T l)).2 = (bestL v l).2 - valL T l := by
  have hg2 := graphB_sw _ T l hg
  have hb1 := graphB_below hg (v + 1) (by omega)
  have hb2 := graphB_below hg2 (v + 1) (by omega)
  have h1 := (best_att v hv l (graphB_edges hg)).1
  have h2 := (best_att v hv (swL T l) (graphB_edges hg2)).1
  have h3 := best_ge v hv l hb1 (edgesT_of hg) ((bestL v (swL T l)).1 ^^^ T)
  have h4 := best_ge v hv (swL T l) hb2 (edgesT_of hg2) ((bestL v l).1 ^^^ T)
  rw [valL_sw] at h2 h4
  rw [Nat.xor_assoc, Nat.xor_self, Nat.xor_zero] at h4
  omega
/-- The graph without its last edge. -/
theorem graphB_front (n : Int) (l : List Ed) (x : Ed) (h : graphB n (l ++ [x]) = true) : graphB n l = true := by
  unfold graphB at h ⊢
  simp only [Bool.and_eq_true, decide_eq_true_eq, List.length_append, List.length_singleton] at h ⊢
  refine ⟨h.1, by omega, ?_⟩
  have h3 := h.2.2
  rw [← goodK_app n l [x] l.length (Nat.le_refl _)]
  cases hg : goodK n (l ++ [x]) l.length with
  | true => rfl
  | false => rw [goodK_fall n (l ++ [x]) l.length hg _ (by omega)] at h3; cases h3
theorem best_front (v : Nat) (hv : v < 12) (l : List Ed) (x : Ed) (hg : graphB ((v : Int) + 1) (l ++ [x]) = true) :
    (bestL v (l ++ [x])).2 - (bestL v l).2 ≤ max 0 x.2.2 ∧ (bestL v l).2 - (bestL v (l ++ [x])).2 ≤ max 0 (-x.2.2) := by
  have hg2 := graphB_front _ l x hg
  have hb1 := graphB_below hg (v + 1) (by omega)
  have hb2 := graphB_below hg2 (v + 1) (by omega)
  have h1 := (best_att v hv _ (graphB_edges hg)).1
  have h2 := (best_att v hv _ (graphB_edges hg2)).1
  have h3 := best_ge v hv _ hb1 (edgesT_of hg) (bestL v l).1
  have h4 := best_ge v hv _ hb2 (edgesT_of hg2) (bestL v (l ++ [x])).1
  rw [valL_snoc] at h1 h3
  have w1 : wgt (bestL v (l ++ [x])).1 x ≤ max 0 x.2.2 := by unfold wgt; split <;> omega
  have w2 : -wgt (bestL v l).1 x ≤ max 0 (-x.2.2) := by unfold wgt; split <;> omega
  constructor <;> omega
end Go.Proofs.Ytngonghgkeobhaa
