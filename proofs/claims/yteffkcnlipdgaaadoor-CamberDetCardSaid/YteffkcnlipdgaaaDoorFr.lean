/- What an argument that came in holds: strings, ints, rows of ints. Nothing is claimed here. -/
import Derived.Test.YteffkcnlipdgaaaDoorCa
import Derived.Deep.Strs
import Derived.Deep.Matrix
import Derived.Carry
import Derived.ChangeSlices
namespace Go.Proofs.YteffkcnlipdgaaaDoor
open Go.RowKit Go.ChangeShapes Go.WideShapes Go.Deep
set_option linter.unusedVariables false

/-- A slice whose capacity is at least its length. -/
def Cap : Value → Prop | .slice _ n c => n ≤ c | _ => False
theorem spot_none {w : World} {a : Addr} {v : Value} (h : w.cell? a = some v) : a.spot = none := by
  unfold World.cell? at h
  split at h
  · split at h
    · cases h
    · rename_i hs
      cases hx : a.spot with
      | none => rfl
      | some x => rw [hx] at hs; exact absurd rfl hs
  · cases h
theorem add_eq (a : Addr) (hs : a.spot = none) (k : Nat) : a.add k = ⟨a.block, a.off + k, none⟩ := by
  unfold Addr.add
  split
  · rename_i h; subst h; cases a; simp_all
  · rfl
theorem plain_eq (a : Addr) (hs : a.spot = none) : a = ⟨a.block, a.off, none⟩ := by cases a; simp_all
/-- Cells behind an address, one each. -/
theorem rd_cells {W : World} (a : Addr) (len cap : Nat) (hm : len ≤ maxLen) (V : Nat → Value) (P : Nat → Value → Prop) (hc : ∀ i, i < len → W.cell? (a.add i) = some (V i)) (hp : ∀ i, i < len → P i (V i)) : Rd W (.slice (some a) len cap) len P := by
  refine ⟨some a, cap, rfl, hm, fun k hk => ?_⟩
  have hs : a.spot = none := by
    have := hc 0 (by omega)
    rw [show a.add 0 = a from by simp [Addr.add]] at this
    exact spot_none this
  exact ⟨a.block, a.off, V k, by rw [← plain_eq a hs], by rw [← add_eq a hs]; exact hc k hk, hp k hk⟩
def fits (l : List Int) : Prop := ∀ x ∈ l, (Lit.int .i64 x).wf = true
theorem Rd_cast {W : World} {v : Value} {n m : Nat} {P : Nat → Value → Prop} (h : Rd W v n P) (e : n = m) : Rd W v m P := e ▸ h
/-- A slice of slices of ints, each with its room. -/
def RdTC (w : World) (v : Value) (t : List (List Int)) : Prop := Rd w v t.length fun k u => ∃ l, t[k]? = some l ∧ RdI w u l ∧ Cap u
theorem RdTC.below {w w' : World} {v : Value} {t : List (List Int)} (h : RdTC w v t) (hb : Below w.heap.size w w') : RdTC w' v t :=
  Rd.mono (Rd.below h hb) fun _ _ _ ⟨l, hl, hr, hc⟩ => ⟨l, hl, hr.below hb, hc⟩
theorem RdTC.rdT {w : World} {v : Value} {t : List (List Int)} (h : RdTC w v t) : RdT w v t := Rd.mono h fun _ _ _ ⟨l, hl, hr, _⟩ => ⟨l, hl, hr⟩

section
variable {H : Type} {enc : TypeId × Value → H} {P : Program} {W : World} {held : Bool}
theorem arg_strs {t e : TypeId} {n : Nat} {v : Value} {y : DataW H × List MemPlace} (ht : P.underlying t = some (.slice e)) (he : P.underlying e = some .string) (hc : P.cellsOf e = 1)
    (h : DataW.trod enc P W 0 (fun _ => true) held n t [v] = some y) : ∃ rules, RdS W v rules ∧ szOk rules ∧ Cap v := by
  rcases open_strs ht he hc h with ⟨hcs, _⟩ | ⟨a, len, cap, m, Sx, hcs, _, hl, hm, hmm, _, hcell⟩
  · simp at hcs; subst hcs
    exact ⟨[], ⟨none, 0, rfl, by unfold maxLen; simp, fun k hk => by simp at hk⟩, (fun r hr => by cases hr), Nat.le_refl _⟩
  · simp at hcs; subst hcs
    simp only [if_true] at hmm
    subst hmm
    refine ⟨(List.range len).map Sx, ?_, ?_, hl⟩
    · exact Rd_cast (rd_cells a len m (by omega) (fun i => .string (Sx i)) _ (fun i hi => (hcell i (by omega)).1) (fun i hi => ⟨Sx i, by simp [hi], rfl⟩)) (by simp)
    · intro r hr
      obtain ⟨i, hi, rfl⟩ := List.mem_map.1 hr
      exact (hcell i (by have := List.mem_range.1 hi; omega)).2
theorem rdI_row (a : Addr) (L C : Nat) (Z : List Int) (hl : L ≤ C) (hm : C ≤ maxLen) (hz : Z.length = C) (hc : ∀ c, c < C → W.cell? (a.add c) = some (.int .i64 (Z.getD c 0))) : RdI W (.slice (some a) L C) (Z.take L) := by
  unfold RdI
  refine Rd_cast (rd_cells a L C (by omega) (fun i => .int .i64 (Z.getD i 0)) _ (fun i hi => hc i (by omega)) (fun i hi => ?_)) (by rw [List.length_take]; omega)
  congr 1
  simp [nth, hi]
theorem arg_ints {t e : TypeId} {n : Nat} {v : Value} {y : DataW H × List MemPlace} (ht : P.underlying t = some (.slice e)) (he : P.underlying e = some (.int .i64)) (hc : P.cellsOf e = 1)
    (h : DataW.trod enc P W 0 (fun _ => true) held n t [v] = some y) : ∃ l, RdI W v l ∧ fits l ∧ Cap v := by
  rcases open_ints ht he hc h with ⟨hcs, _⟩ | ⟨a, len, cap, zs, hcs, _, hl, hm, hz, _, hcell, hw⟩
  · simp at hcs; subst hcs
    exact ⟨[], ⟨none, 0, rfl, by unfold maxLen; simp, fun k hk => by simp at hk⟩, (fun r hr => by cases hr), Nat.le_refl _⟩
  · simp at hcs; subst hcs
    simp only [if_true] at hz
    exact ⟨zs.take len, rdI_row a len cap zs hl hm hz (fun c hc => hcell c (by omega)), fun x hx => hw x (List.mem_of_mem_take hx), hl⟩
theorem arg_rows {t e q : TypeId} {n : Nat} {v : Value} {y : DataW H × List MemPlace} (ht : P.underlying t = some (.slice e)) (he : P.underlying e = some (.slice q)) (hq : P.underlying q = some (.int .i64)) (ce : P.cellsOf e = 1) (cq : P.cellsOf q = 1)
    (h : DataW.trod enc P W 0 (fun _ => true) held n t [v] = some y) : ∃ T, RdTC W v T ∧ (∀ l ∈ T, fits l) ∧ Cap v := by
  rcases open_int_rows ht he hq ce cq h with ⟨hcs, _⟩ | ⟨a, len, cap, A, L, C, Z, hcs, _, hl, hm, _, hrow⟩
  · simp at hcs; subst hcs
    exact ⟨[], ⟨none, 0, rfl, by unfold maxLen; simp, fun k hk => by simp at hk⟩, (fun r hr => by cases hr), Nat.le_refl _⟩
  · simp at hcs; subst hcs
    refine ⟨(List.range len).map fun r => (Z r).take (L r), ?_, ?_, hl⟩
    · refine Rd_cast (rd_cells a len cap (by omega) (fun r => .slice (A r) (L r) (C r)) _ (fun i hi => (hrow i (by omega)).1) (fun i hi => ?_)) (by simp)
      obtain ⟨_, h1, h2, h3, _, h5, h6⟩ := hrow i (by omega)
      refine ⟨(Z i).take (L i), by simp [hi], ?_, h1⟩
      cases hA : A i with
      | none =>
        have hC := h5 hA
        have hZ : Z i = [] := List.eq_nil_of_length_eq_zero (by omega)
        rw [hZ, show L i = 0 by omega]
        exact ⟨none, C i, rfl, by unfold maxLen; simp, fun k hk => by simp at hk⟩
      | some a' => exact rdI_row a' (L i) (C i) (Z i) h1 h2 h3 (h6 a' hA).2
    · intro l hl'
      obtain ⟨i, hi, rfl⟩ := List.mem_map.1 hl'
      obtain ⟨_, _, _, _, h4, _⟩ := hrow i (by have := List.mem_range.1 hi; omega)
      exact fun x hx => h4 x (List.mem_of_mem_take hx)
end
end Go.Proofs.YteffkcnlipdgaaaDoor
