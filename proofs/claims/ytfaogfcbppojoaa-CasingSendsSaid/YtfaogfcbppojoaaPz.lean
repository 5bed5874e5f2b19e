/- The walk of the recursion of windings. -/
import Derived.Test.YtfaogfcbppojoaaPy
namespace Go.Proofs.Ytfaogfcbppojoaa
open Go.RowKit Go.Shelf
attribute [local go_sem] Oper.semAt_some

/-- Between two permutations. -/
def FI (B l bg bd g d : Nat) (vr : Value) (K M0 : Nat → Prop) (X : World) (gi : Nat) (W : List Int) (JJ : (Nat → Prop) → World → Prop) (M : Nat → Prop) (Z : World) : Prop :=
  ∃ (Mo : Nat → Prop) (W' : List Int), JJ Mo Z ∧ (∀ r, Mo r → B + 3 ≤ r ∧ r < Z.heap.size) ∧ (∀ r, Mo r → M0 r ∨ M r) ∧ Holds (FK B K M0) X Z ∧ FSt B l bg bd g d vr W' Z ∧ SameBut g d gi W W' ∧
    At Z X.heap.size 3 #[.int .i64 gi] ∧ At Z (X.heap.size + 1) 4 #[.bool false]
theorem FSt.holds2 {B l bg bd g d : Nat} {vr : Value} {W : List Int} {X X' : World} {Kx : Nat → Prop} (h : FSt B l bg bd g d vr W X) (hh : Holds Kx X X') (k1 : Kx bg) (k2 : Kx bd) (k3 : Kx B) (k4 : Kx (B + 1)) (k5 : Kx (B + 2)) : FSt B l bg bd g d vr W X' :=
  ⟨h.hg.holds hh k1, h.hd.holds hh k2, h.hy.holds hh k3, h.hw.holds hh k4, h.hf.holds hh k5, h.ok, h.n0, h.n1⟩
theorem FI.stable {B l bg bd g d : Nat} {vr : Value} {K M0 : Nat → Prop} {X : World} {gi : Nat} {W : List Int} {JJ : (Nat → Prop) → World → Prop} (hJ : Stable B JJ) {S : Nat} (hS : X.heap.size + 3 ≤ S) (hM0 : ∀ r, M0 r → r < X.heap.size) (hB : B + 2 < X.heap.size) (hbg : bg < X.heap.size) (hbd : bd < X.heap.size) :
    Stable S (FI B l bg bd g d vr K M0 X gi W JJ) := by
  rintro M Z Z' ⟨Mo, W', h1, h2, h3, h4, h5, h6, h7, h8⟩ hh
  exact ⟨Mo, W', hJ _ _ _ h1 (hh.mono fun r _ h => h.elim (fun h => .inl (by omega)) (fun h => (h3 r h).elim (fun h => .inl (by have := hM0 r h; omega)) .inr)), fun r hr => ⟨(h2 r hr).1, by have := (h2 r hr).2; have := hh.size; omega⟩, h3,
    ⟨hh.os.trans h4.os, hh.tape.trans h4.tape, hh.output.trans h4.output, Nat.le_trans h4.size hh.size, fun r hr hK => (hh.block r (by have := h4.size; omega) (.inl (by omega))).trans (h4.block r hr hK)⟩,
    h5.holds2 hh (.inl (by omega)) (.inl (by omega)) (.inl (by omega)) (.inl (by omega)) (.inl (by omega)), h6, h7.holds hh (.inl (by omega)), h8.holds hh (.inl (by omega))⟩
theorem FI.setr {B l bg bd g d : Nat} {vr : Value} {K M0 : Nat → Prop} {X : World} {gi : Nat} {W : List Int} {JJ : (Nat → Prop) → World → Prop} (hJ : Stable B JJ) (hM0 : ∀ r, M0 r → r < X.heap.size) (hB : B + 2 < X.heap.size) (hbg : bg < X.heap.size) (hbd : bd < X.heap.size) {M : Nat → Prop} {Z : World} (hM : ∀ r, M r → X.heap.size + 3 ≤ r)
    (h : FI B l bg bd g d vr K M0 X gi W JJ M Z) : FI B l bg bd g d vr K M0 X gi W JJ M (Z.setCell ⟨X.heap.size + 1, 0, none⟩ (.bool false)) := by
  obtain ⟨Mo, W', h1, h2, h3, h4, h5, h6, h7, h8⟩ := h
  have hh : Holds (fun r => r ≠ X.heap.size + 1) Z (Z.setCell ⟨X.heap.size + 1, 0, none⟩ (.bool false)) := (Holds.refl _ Z).set _ (by simp) _
  exact ⟨Mo, W', hJ _ _ _ h1 (hh.mono fun r _ h => h.elim (fun h => by omega) (fun h => (h3 r h).elim (fun h => by have := hM0 r h; omega) (fun h => by have := hM r h; omega))), fun r hr => ⟨(h2 r hr).1, Nat.lt_of_lt_of_le (h2 r hr).2 hh.size⟩, h3,
    h4.trans2 hh (fun r hr _ => by omega), h5.holds2 hh (by omega) (by omega) (by omega) (by omega) (by omega), h6, h7.holds hh (by omega), h8.set 0 (.bool false)⟩
theorem RdI_at {Z : World} {b : Nat} {t : TypeId} {x : List Int} (h : At Z b t (ic x)) (hm : x.length ≤ maxLen) (c : Nat) : RdI Z (.slice (some ⟨b, 0, none⟩) x.length c) x :=
  ⟨some ⟨b, 0, none⟩, c, rfl, hm, fun k hk => ⟨b, 0, _, rfl, by rw [Nat.zero_add]; exact h.int k hk, rfl⟩⟩

variable {n l B bg bd g d : Nat} {vr : Value} {K : Nat → Prop} {J Jx : Nat → (Nat → Prop) → World → Prop} {xs : List (List Int)}
/-- The last steps. -/
theorem fill_end {gi : Nat} {W : List Int} {k : Nat} {M M1 : Nat → Prop} {X Z X' : World} {JJ : (Nat → Prop) → World → Prop} (b : Bool) (S : Nat) (hS : X.heap.size + 3 ≤ S) (hM : ∀ r, M r → B + 3 ≤ r ∧ r < X.heap.size) (hB : B + 2 < X.heap.size) (hbg : bg < X.heap.size) (hbd : bd < X.heap.size)
    (hJ : Stable B JJ) (hI : FI B l bg bd g d vr K M X gi W JJ M1 Z) (hM1 : ∀ r, M1 r → S + 2 ≤ r) (hZ : Holds (fun r => r ≠ X.heap.size + 1 ∧ r ≠ S) Z X') (hf : ∀ Mo, JJ Mo X' → (Ending.returned (.bool b) = .returned (.bool true) ∧ J k Mo X') ∨ (Ending.returned (.bool b) = .returned (.bool false) ∧ ∃ k', Jx k' Mo X')) :
    FEnd B l bg bd g d vr K J Jx gi W k M X (.returned (.bool b)) X' := by
  obtain ⟨Mo, W', h1, h2, h3, h4, h5, h6, h7, h8⟩ := hI
  refine ⟨Mo, W', fun r hr => ⟨(h2 r hr).1, by have := (h2 r hr).2; have := hZ.size; omega⟩, fun r hr => (h3 r hr).imp id (fun h => by have := hM1 r h; omega), h4.trans2 hZ (fun r hr _ => ⟨by omega, by omega⟩),
    h5.holds2 hZ ⟨by omega, by omega⟩ ⟨by omega, by omega⟩ ⟨by omega, by omega⟩ ⟨by omega, by omega⟩ ⟨by omega, by omega⟩, h6, hf Mo (hJ _ _ _ h1 (hZ.mono fun r _ h => ?_))⟩
  rcases h with h | h
  · exact ⟨by omega, by omega⟩
  · rcases h3 r h with h | h
    · have := (hM r h).2; exact ⟨by omega, by omega⟩
    · have := hM1 r h; exact ⟨by omega, by omega⟩
end Go.Proofs.Ytfaogfcbppojoaa
