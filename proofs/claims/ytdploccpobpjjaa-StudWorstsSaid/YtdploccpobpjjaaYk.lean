/- The greatest meeting: the program's way and the reference's. -/
import Derived.Test.YtdploccpobpjjaaYi
namespace Go.Proofs.Ytdploccpobpjjaa
open Go.RowKit
set_option linter.unusedVariables false
set_option linter.unusedSimpArgs false

theorem wstep_zero {g : Int → Int → Nat} {s : Nat × Int × Int} {u v : Int} (h : g u v = 0) : wstep g s u v = s := by
  unfold wstep
  rw [if_neg (by omega)]
theorem wstep_eq {g h : Int → Int → Nat} {s : Nat × Int × Int} {u v : Int} (e : g u v = h u v) : wstep g s u v = wstep h s u v := by
  unfold wstep
  rw [e]
theorem wV_zero {g : Int → Int → Nat} {n : Nat} {u : Int} {s : Nat × Int × Int} (h : ∀ v, g u v = 0) : ∀ k, wV g n u s k = s
  | 0 => rfl
  | k + 1 => by rw [wV, wV_zero h k, wstep_zero (h _)]
theorem wV_rV {g h : Int → Int → Nat} {n : Nat} {u : Int} {s : Nat × Int × Int} (e : ∀ v, g u v = h u v) (h0 : h u (-(n : Int)) = 0) : ∀ k, wV g n u s k = rV h n u s (k + 1)
  | 0 => by rw [rV, rV, wV, wstep_zero (by simpa using h0)]
  | k + 1 => by
    rw [wV, rV, wV_rV e h0 k, wstep_eq (e _), show 1 - (n : Int) + k = -(n : Int) + ((k + 1 : Nat) : Int) by omega]
theorem wU_rU {g h : Int → Int → Nat} {n : Nat} (hn : 1 ≤ n) (g0 : ∀ v, g 0 v = 0) (e : ∀ u v, 0 < u → g u v = h u v) (far : ∀ u, h u (-(n : Int)) = 0 ∧ h u n = 0) : ∀ k, wU g n (k + 1) = rU h n k
  | 0 => by rw [wU, wU, wV_zero (by simpa using g0)]; rfl
  | k + 1 => by
    have e2 : ∀ s u, rV h n u s (2 * n + 1) = rV h n u s (2 * n - 1 + 1) := fun s u => by
      conv => lhs; rw [show 2 * n + 1 = (2 * n - 1 + 1) + 1 by omega, rV]
      rw [wstep_zero]
      rw [show -(n : Int) + ((2 * n - 1 + 1 : Nat) : Int) = n by omega]
      exact (far _).2
    rw [wU, wU_rU hn g0 e far k, rU, e2, wV_rV (h := h) (fun v => e _ v (by omega)) (far _).1]
    rw [show ((k + 1 : Nat) : Int) = 1 + (k : Int) by omega]
theorem cntS_zero (l : List Int) (k : Nat) (v : Int) : cntS l k 0 v = 0 := by
  unfold cntS
  rw [List.countP_eq_zero]
  intro x hx
  have hp := (prs_mem _ _ (List.mem_of_mem_take hx)).1
  simp only [decide_eq_true_eq]
  rintro ⟨h, _⟩
  unfold stp1 at h
  omega
theorem row_met (l : List Int) (u v : Int) (hu : 0 < u) (f n : Nat) (hf : f < n) : (rowP n f (f + 1)).countP (fun x => decide (u = stp1 l x.1 x.2 ∧ v = stp2 l x.1 x.2)) = metJ l u v f n := by
  unfold rowP metJ
  rw [List.countP_map, ← List.countP_eq_length_filter]
  have hs : List.range n = List.range (f + 1) ++ List.range' (f + 1) (n - (f + 1)) := by
    have := List.range'_append (s := 0) (m := f + 1) (n := n - (f + 1)) (step := 1)
    simp only [Nat.one_mul, Nat.zero_add] at this
    rw [List.range_eq_range', List.range_eq_range', this]
    congr 1
    omega
  rw [hs, List.countP_append]
  have h0 : (List.range (f + 1)).countP (metB l u v f) = 0 := by
    rw [List.countP_eq_zero]
    intro t ht
    have := List.mem_range.1 ht
    simp only [metB, decide_eq_true_eq]
    rintro ⟨h, _⟩
    unfold stp1 at h
    omega
  rw [h0, Nat.zero_add]
  apply List.countP_congr
  intro t _
  simp only [Function.comp, metB, decide_eq_true_eq]
  constructor
  · rintro ⟨h1, h2⟩; exact ⟨h1.symm, h2.symm⟩
  · rintro ⟨h1, h2⟩; exact ⟨h1.symm, h2.symm⟩
theorem rows_met (l : List Int) (u v : Int) (hu : 0 < u) (n : Nat) : ∀ m, m ≤ n → ((List.range m).flatMap fun x => rowP n x (x + 1)).countP (fun x => decide (u = stp1 l x.1 x.2 ∧ v = stp2 l x.1 x.2)) = metI l u v n m
  | 0, _ => rfl
  | m + 1, h => by
    rw [List.range_succ, List.flatMap_append, List.countP_append, rows_met l u v hu n m (by omega), metI]
    rw [List.flatMap_cons, List.flatMap_nil, List.append_nil, row_met l u v hu m n (by omega)]
theorem cntS_met (l : List Int) (u v : Int) (hu : 0 < u) : cntS l (prs l.length).length u v = meetN l u v := by
  unfold cntS meetN
  rw [List.take_length]
  rw [← rows_met l u v hu l.length l.length (Nat.le_refl _)]
  unfold prs prsF
  rw [Nat.sub_zero, ← List.range_eq_range']
/-- Both ways find the same. -/
theorem worst_same (l : List Int) (ho : ordB l = true) : wU (cntS l (prs l.length).length) l.length l.length = rU (rmeetN l) l.length (l.length - 1) := by
  obtain ⟨ho1, ho2, ho3, -⟩ := ordB_parts l ho
  have hb : ∀ i, i < l.length → 0 ≤ nth l i ∧ nth l i < l.length := fun i hi => (hasB_iff _ _).1 (List.all_eq_true.1 ho3 _ (nth_mem l i hi))
  have := wU_rU (g := cntS l (prs l.length).length) (h := rmeetN l) (n := l.length) ho1 (fun v => cntS_zero l _ v) (fun u v hu => by rw [cntS_met l u v hu, meet_eq l u v hb]) (fun u => ⟨by
    unfold rmeetN
    rw [if_pos (by simp [farB])], by
    unfold rmeetN
    rw [if_pos (by simp [farB])]⟩) (l.length - 1)
  rwa [show l.length - 1 + 1 = l.length by omega] at this
end Go.Proofs.Ytdploccpobpjjaa
