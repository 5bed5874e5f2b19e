/- The words of ways and generators. -/
import Derived.Test.YtikedhkibdeheaaCn
import Derived.Test.YtikedhkibdeheaaGb
namespace Go.Proofs.Ytikedhkibdeheaa
open Go.RowKit

def nm (x : Int) : UInt8 := if x = 0 then 97 else if x = 1 then 65 else if x = 2 then 98 else 66
def wayL (L : List Fd) : Nat → List (List UInt8)
  | 0 => [[]]
  | k + 1 => wayL L k ++ [((wayL L k)[(fr L (k + 1)).toNat]?.getD []) ++ [nm (lt L (k + 1))]]
theorem wayL_length (L : List Fd) : ∀ k, (wayL L k).length = k + 1
  | 0 => rfl
  | k + 1 => by simp [wayL, wayL_length L k]
def strs (l : List (List UInt8)) : List Value := l.map fun s => Value.string ⟨s.toArray⟩
/-- Where the later ones come from. -/
def numP (g : Int) (L : List Fd) : Prop := ∀ k : Nat, 1 ≤ k → k < L.length → 0 ≤ fr L k ∧ fr L k < k ∧ 0 ≤ lt L k ∧ lt L k < g
theorem numI_p {g : Int} {σ : Int → Int → Int} {at_ : Nat} {L : List Fd} {m : Nat} (h : numP g L) (ha : at_ < L.length) (hm : (m : Int) < g) : numP g (numI σ at_ L m) := by
  unfold numI
  split
  · exact h
  · intro k h1 h2
    by_cases hk : k < L.length
    · have := h k h1 hk
      simp only [fr, lt, List.getElem?_append_left hk] at this ⊢
      exact this
    · have e : k = L.length := by simp at h2; omega
      subst e
      simp only [fr, lt, List.getElem?_append_right (Nat.le_refl _), Nat.sub_self]
      simp; omega
theorem numI_len {σ : Int → Int → Int} {at_ : Nat} {L : List Fd} {m : Nat} : L.length ≤ (numI σ at_ L m).length := by unfold numI; split <;> simp
theorem numR_p {g : Nat} {σ : Int → Int → Int} {at_ : Nat} {L : List Fd} (h : numP g L) (ha : at_ < L.length) : ∀ m, m ≤ g → numP g (numR σ at_ L m) ∧ at_ < (numR σ at_ L m).length
  | 0, _ => ⟨h, ha⟩
  | m + 1, hm => by
    have ih := numR_p (σ := σ) h ha m (by omega)
    rw [numR_succ]
    exact ⟨numI_p ih.1 ih.2 (by omega), Nat.lt_of_lt_of_le ih.2 numI_len⟩
theorem numL_p (σ : Int → Int → Int) (g : Nat) (s : Int) : ∀ k, numP g (numL σ g s k)
  | 0 => by intro k h1 h2; simp [numL] at h2; omega
  | k + 1 => by
    rw [numL_succ]
    split
    · exact (numR_p (numL_p σ g s k) (by assumption) g (Nat.le_refl _)).1
    · exact numL_p σ g s k
theorem numS_p (σ : Int → Int → Int) (g : Nat) (s : Int) : numP g (numS σ g s) := numL_p σ g s 25
theorem nm_ok (g : Int) (hg : g = 1 ∨ g = 2) (x : Int) (h0 : 0 ≤ x) (h1 : x < 2 * g) : okL g (nm x) = true := by
  rcases hg with rfl | rfl
  · have : x = 0 ∨ x = 1 := by omega
    rcases this with rfl | rfl <;> decide
  · have : x = 0 ∨ x = 1 ∨ x = 2 ∨ x = 3 := by omega
    rcases this with rfl | rfl | rfl | rfl <;> decide
theorem wayL_ok (g : Int) (hg : g = 1 ∨ g = 2) (L : List Fd) (hp : numP (2 * g) L) : ∀ k, k < L.length → ∀ s ∈ wayL L k, s.all (okL g) = true ∧ s.length ≤ k
  | 0, _ => by intro s hs; simp [wayL] at hs; subst hs; simp
  | k + 1, h => by
    have ih := wayL_ok g hg L hp k (by omega)
    have hk := hp (k + 1) (by omega) h
    intro s hs
    simp only [wayL, List.mem_append, List.mem_singleton] at hs
    rcases hs with hs | rfl
    · have := ih s hs; exact ⟨this.1, by omega⟩
    · have hmem : (wayL L k)[(fr L (k + 1)).toNat]?.getD [] ∈ wayL L k := by
        have : (fr L (k + 1)).toNat < (wayL L k).length := by rw [wayL_length]; omega
        rw [List.getElem?_eq_getElem this]; exact List.getElem_mem this
      have := ih _ hmem
      refine ⟨?_, by simp; omega⟩
      rw [List.all_append, this.1]
      simp [nm_ok g hg _ hk.2.2.1 hk.2.2.2]
theorem wayL_short (L : List Fd) : ∀ k, ∀ s ∈ wayL L k, s.length ≤ k
  | 0 => by intro s hs; simp [wayL] at hs; subst hs; simp
  | k + 1 => by
    have ih := wayL_short L k
    intro s hs
    simp only [wayL, List.mem_append, List.mem_singleton] at hs
    rcases hs with hs | rfl
    · have := ih s hs; omega
    · by_cases h : (fr L (k + 1)).toNat < (wayL L k).length
      · have := ih _ (List.getElem_mem h)
        rw [List.getElem?_eq_getElem h]; simp; omega
      · rw [List.getElem?_eq_none (by omega)]; simp
theorem wayL_at_short (L : List Fd) (k f : Nat) : ((wayL L k)[f]?.getD []).length ≤ k := by
  by_cases h : f < (wayL L k).length
  · rw [List.getElem?_eq_getElem h]; exact wayL_short L k _ (List.getElem_mem h)
  · rw [List.getElem?_eq_none (by omega)]; simp
theorem own_at {w : World} {base : Nat} {e : TypeId} {g n : Nat} {xs : List Value} (h : w.ownsRow base e 1 (.slice (some ⟨g, 0, none⟩) n n) n xs) : At w g e xs.toArray ∧ base ≤ g := by
  rcases h.2 with ⟨h', _⟩ | ⟨g', cap', cur, h', hb, hg, hc, hm, hs, ht⟩
  · simp at h'
  · simp at h'
    obtain ⟨rfl, rfl⟩ := h'
    have : cur.toList = xs := by rw [← ht, List.take_of_length_le (by simp; omega)]
    exact ⟨by unfold At; rw [hg, ← this], hb⟩
/-- The row of the ways, the first k + 1 of d laid. -/
def wayV (L : List Fd) (d k : Nat) : List Value := strs (wayL L k) ++ List.replicate (d - (k + 1)) (.string ByteArray.empty)
theorem wayV_set (L : List Fd) (d k : Nat) (h : k + 1 < d) : (wayV L d k).set (k + 1) (.string ⟨(((wayL L k)[(fr L (k + 1)).toNat]?.getD []) ++ [nm (lt L (k + 1))]).toArray⟩) = wayV L d (k + 1) := by
  have hl : (strs (wayL L k)).length = k + 1 := by simp [strs, wayL_length]
  obtain ⟨m, hm⟩ : ∃ m, d - (k + 1) = m + 1 := ⟨d - (k + 2), by omega⟩
  rw [wayV, wayV, wayL, hm, show d - (k + 1 + 1) = m by omega, List.set_append_right _ _ (by omega), hl, Nat.sub_self, List.replicate_succ, List.set_cons_zero]
  simp [strs]
theorem wayV_at (L : List Fd) (d k j : Nat) (h : j < k + 1) : (wayV L d k)[j]? = some (.string ⟨((wayL L k)[j]?.getD []).toArray⟩) := by
  have hl : (strs (wayL L k)).length = k + 1 := by simp [strs, wayL_length]
  rw [wayV, List.getElem?_append_left (by omega), strs, List.getElem?_map]
  have : j < (wayL L k).length := by rw [wayL_length]; exact h
  rw [List.getElem?_eq_getElem this]; rfl
theorem wayV_new (L : List Fd) (d k : Nat) (h : k + 1 < d) : (wayV L d k)[k + 1]? = some (.string ByteArray.empty) := by
  have hl : (strs (wayL L k)).length = k + 1 := by simp [strs, wayL_length]
  rw [wayV, List.getElem?_append_right (by omega), hl, Nat.sub_self, List.getElem?_replicate, if_pos (by omega)]
theorem wayV_end (L : List Fd) (d : Nat) (h : 1 ≤ d) : wayV L d (d - 1) = strs (wayL L (d - 1)) := by
  rw [wayV, show d - (d - 1 + 1) = 0 by omega]; simp
end Go.Proofs.Ytikedhkibdeheaa
