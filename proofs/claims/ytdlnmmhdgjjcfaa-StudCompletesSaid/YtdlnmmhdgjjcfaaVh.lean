/- The law's tame orders. -/
import Derived.Test.YtdlnmmhdgjjcfaaVf
import Derived.Test.YtdlnmmhdgjjcfaaVo
namespace Go.Proofs.Ytdlnmmhdgjjcfaa
open Go.RowKit
set_option linter.unusedVariables false

theorem ins_ok (L : List Int) (k k0 : Nat) (hl : L.length = k) (ha : L.all (hasB k) = true) (hn : L.Nodup) : (L.take k0 ++ [(k : Int)] ++ L.drop k0).length = k + 1 ∧ (L.take k0 ++ [(k : Int)] ++ L.drop k0).all (hasB (k + 1 : Nat)) = true ∧ (L.take k0 ++ [(k : Int)] ++ L.drop k0).Nodup := by
  have hp : (L.take k0 ++ [(k : Int)] ++ L.drop k0).Perm ((k : Int) :: L) := by
    have h1 : (L.take k0 ++ [(k : Int)]).Perm ((k : Int) :: L.take k0) := List.perm_append_comm
    have h2 := h1.append_right (L.drop k0)
    rw [List.cons_append, List.take_append_drop] at h2
    exact h2
  refine ⟨by rw [hp.length_eq]; simp [hl], ?_, ?_⟩
  · rw [List.all_eq_true]
    intro x hx
    rcases List.mem_cons.1 (hp.mem_iff.1 hx) with rfl | hx
    · exact (hasB_iff _ _).2 (by omega)
    · have := (hasB_iff _ _).1 (List.all_eq_true.1 ha x hx)
      exact (hasB_iff _ _).2 (by omega)
  · rw [hp.nodup_iff, List.nodup_cons]
    refine ⟨fun h => ?_, hn⟩
    have := (hasB_iff _ _).1 (List.all_eq_true.1 ha _ h)
    omega
theorem fits_nth (l : List Int) (hf : fits l) (k : Nat) (h : k < l.length) : (Lit.int .i64 (nth l k)).wf = true := hf _ (nth_mem l k h)
/-- The cells from a place on. -/
theorem cells_from {X : World} {b k0 k : Nat} {L : List Int} (hL : L.length = k) (hk0 : k0 ≤ k) (hc : ∀ j, j < k → X.cell? ⟨b, j, none⟩ = some (.int .i64 (nth L j))) (o : Nat) (ho : k0 < k → o = k0) :
    ∀ j u, ((L.drop k0).map (Value.int .i64))[j]? = some u → X.cell? ((⟨b, o, none⟩ : Addr).add j) = some u := by
  intro j u hu
  have hj := (List.getElem?_eq_some_iff.1 hu).1
  rw [List.length_map, List.length_drop] at hj
  obtain rfl := ho (by omega)
  rw [show ((⟨b, o, none⟩ : Addr).add j) = ⟨b, o + j, none⟩ from by unfold Addr.add; split <;> simp_all, hc _ (by omega), ← hu]
  simp [nth, show o + j < L.length by omega]
theorem cells_to {X : World} {b k0 k : Nat} {L : List Int} (hL : L.length = k) (hk0 : k0 ≤ k) (hc : ∀ j, j < k → X.cell? ⟨b, j, none⟩ = some (.int .i64 (nth L j))) :
    ∀ j u, ((L.take k0).map (Value.int .i64))[j]? = some u → X.cell? ((⟨b, 0, none⟩ : Addr).add j) = some u := by
  intro j u hu
  have hj := (List.getElem?_eq_some_iff.1 hu).1
  rw [List.length_map, List.length_take] at hj
  rw [show ((⟨b, 0, none⟩ : Addr).add j) = ⟨b, j, none⟩ from by unfold Addr.add; split <;> simp_all, hc _ (by omega), ← hu]
  simp [nth, show j < L.length by omega, show j < k0 by omega]
theorem tame_next {w wr w4 : World} {L : List Int} {k k0 n : Nat} {v3 : Value} {xs : List Value} (hown : w4.ownsRow wr.heap.size 3 1 v3 n xs) (hL : L.length = k) (hk0 : k0 ≤ k) (hn : n = k + 1)
    (hxs : xs = (L.take k0 ++ [(k : Int)] ++ L.drop k0).map (Value.int .i64)) (hb : Keeps w wr) (hk : Holds (fun r => r < wr.heap.size) wr w4) :
    ∃ b' c', v3 = .slice (some ⟨b', 0, none⟩) (k + 1 : Nat) c' ∧ k + 1 ≤ c' ∧ c' ≤ maxLen ∧ (∀ j, j < k + 1 → w4.cell? ⟨b', j, none⟩ = some (.int .i64 (nth (L.take k0 ++ [(k : Int)] ++ L.drop k0) j))) ∧ Keeps w w4 := by
  subst hn hxs
  obtain ⟨g, cap, rfl, _, _, h1, h2, hc⟩ := own_form hown (by omega)
  refine ⟨g, cap, rfl, h1, h2, fun j hj => ?_, Keeps.next hb (hk.below (Nat.le_refl _))⟩
  have hlen : (L.take k0 ++ [(k : Int)] ++ L.drop k0).length = k + 1 := by simp; omega
  generalize (L.take k0 ++ [(k : Int)] ++ L.drop k0) = M at *
  exact hc j _ (by simp [nth, List.getElem?_eq_getElem (show j < M.length by omega)])
/-- A tame order. -/
def Tame (most : Nat) (w : World) (e : Ending) (w' : World) : Prop := ∃ b c L, e = .returned (.slice (some ⟨b, 0, none⟩) L.length c) ∧ L.length ≤ c ∧ RdI w' (.slice (some ⟨b, 0, none⟩) L.length c) L ∧ ordB L = true ∧ L.length ≤ most ∧ Keeps w w'
end Go.Proofs.Ytdlnmmhdgjjcfaa
