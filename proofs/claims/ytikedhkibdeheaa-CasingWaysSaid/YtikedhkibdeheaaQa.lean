/- The reference's numbering: words. Nothing is claimed here. -/
import Derived.Test.YtikedhkibdeheaaKd
import Derived.Test.YtikedhkibdeheaaGx
namespace Go.Proofs.Ytikedhkibdeheaa
open Go.RowKit
set_option linter.unusedVariables false

theorem wayL_app (L : List Fd) (x : Fd) : ∀ k, k < L.length → wayL (L ++ [x]) k = wayL L k
  | 0, _ => rfl
  | k + 1, h => by
    have e1 : fr (L ++ [x]) (k + 1) = fr L (k + 1) := by simp [fr, List.getElem?_append_left h]
    have e2 : lt (L ++ [x]) (k + 1) = lt L (k + 1) := by simp [lt, List.getElem?_append_left h]
    rw [wayL, wayL, wayL_app L x k (by omega), e1, e2]
theorem wayL_new (L : List Fd) (hL : 0 < L.length) (x : Int) (f m : Nat) : wayL (L ++ [(x, (f : Int), (m : Int))]) L.length = wayL L (L.length - 1) ++ [((wayL L (L.length - 1))[f]?.getD []) ++ [nm m]] := by
  obtain ⟨n, hn⟩ : ∃ n, L.length = n + 1 := ⟨L.length - 1, by omega⟩
  have e1 : fr (L ++ [(x, (f : Int), (m : Int))]) (n + 1) = f := by simp [fr, hn.symm]
  have e2 : lt (L ++ [(x, (f : Int), (m : Int))]) (n + 1) = m := by simp [lt, hn.symm]
  rw [hn, wayL, wayL_app L _ n (by omega), e1, e2]
  simp
theorem li_nm (k : Nat) (h : k < 4) : li (nm k) = k := by
  obtain rfl | rfl | rfl | rfl : k = 0 ∨ k = 1 ∨ k = 2 ∨ k = 3 := by omega
  all_goals decide
theorem stp_nm (W : List Int) (s : Int) (k : Nat) (h : k < 4) : stp W s (nm k) = sg W s k := by
  unfold stp sg; rw [li_nm k h]
/-- Two rows of one's own of different types lie apart. -/
theorem own_apart {w : World} {b b' : Nat} {e e' : TypeId} {z z' n n' : Nat} {v v' : Value} {xs xs' : List Value} (h : w.ownsRow b e z v n xs) (h' : w.ownsRow b' e' z' v' n' xs') (hne : e ≠ e') : ∀ g, v'.ownBlock = some g → some g ≠ v.ownBlock := by
  intro g hg he
  rcases h.2 with ⟨rfl, _⟩ | ⟨g1, cap, cur, rfl, _, h1, _⟩
  · simp [Value.ownBlock] at he
  · rcases h'.2 with ⟨rfl, _⟩ | ⟨g2, cap', cur', rfl, _, h2, _⟩
    · simp [Value.ownBlock] at hg
    · simp [Value.ownBlock] at he hg
      subst he; subst hg
      rw [h1] at h2; cases h2; exact hne rfl
theorem own_grown {w w' : World} {row : Option Nat} {b : Nat} {e : TypeId} {z n : Nat} {v : Value} {xs : List Value} (h : w.ownsRow b e z v n xs) (hg : w.grownBy w' row) (hr : ∀ g, v.ownBlock = some g → some g ≠ row) : w'.ownsRow b e z v n xs :=
  own_holds (K := fun r => some r ≠ row) h ((Holds.refl _ w).grown hg (fun r hr hk => hk hr.symm)) hr
/-- What has been found lies below the number of sheets, each once. -/
theorem nums_ok (n : Int) (W : List Int) (hW : wokd n W) (hn : n ≤ 5) (G : Nat) (hG : G ≤ 4) (s : Int) (hs : 0 ≤ s ∧ s < n) (k : Nat) : numOk n (numL (sg W) G s k) :=
  numL_ok (fun x m h1 h2 h3 h4 => hW.2 _ (by omega) (by omega)) ⟨hs.1, hs.2⟩ k
theorem numOk_len {n : Nat} {L : List Fd} (h : numOk n L) : L.length ≤ n := by
  have := nodup_le (shs L) ((List.range n).map fun i : Nat => (i : Int)) h.2.1 (fun x hx => by
    have := h.2.2 x hx
    exact List.mem_map.2 ⟨x.toNat, by simp; omega, by omega⟩)
  rw [shs_length] at this
  simpa using this
theorem take_mem_snoc (l : List Int) (j : Nat) (h : j < l.length) (x : Int) : decide (x ∈ l.take (j + 1)) = (decide (x ∈ l.take j) || (nth l j == x)) := by
  rw [take_nth l j h, Bool.eq_iff_iff]
  simp only [List.mem_append, List.mem_singleton, decide_eq_true_iff, Bool.or_eq_true, beq_iff_eq]
  constructor
  · rintro (h | h)
    · exact .inl h
    · exact .inr h.symm
  · rintro (h | h)
    · exact .inl h
    · exact .inr h.symm
theorem nth_shs (L : List Fd) (k : Nat) (h : k < L.length) : nth (shs L) k = sh L k := by
  simp [nth, shs, sh, List.getElem?_eq_getElem h]
end Go.Proofs.Ytikedhkibdeheaa
