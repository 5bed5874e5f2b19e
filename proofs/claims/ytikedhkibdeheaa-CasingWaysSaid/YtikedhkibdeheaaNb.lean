/- Tables for one generator: one of each number of sheets; it keeps what has exponents that this number divides. Nothing is claimed here. -/
import Derived.Test.YtikedhkibdeheaaNa
import Derived.Test.YtikedhkibdeheaaCo
namespace Go.Proofs.Ytikedhkibdeheaa
open Go.RowKit
set_option linter.unusedVariables false

def colC : Nat → List Int
  | 1 => [0] | 2 => [1, 0] | 3 => [1, 2, 0] | 4 => [1, 3, 0, 2] | 5 => [1, 3, 0, 4, 2] | _ => []
def posC : Nat → List Int
  | 1 => [0] | 2 => [0, 1] | 3 => [0, 1, 2] | 4 => [0, 1, 3, 2] | 5 => [0, 1, 4, 2, 3] | _ => []
def cycW (d : Nat) : List Int := layS (w0 1 d) 0 (colC d)
theorem cyc_1 : wins 1 1 [] = [cycW 1] := by decide +kernel
theorem cyc_2 : wins 1 2 [] = [cycW 2] := by decide +kernel
theorem cyc_3 : wins 1 3 [] = [cycW 3] := by decide +kernel
theorem cyc_4 : wins 1 4 [] = [cycW 4] := by decide +kernel
theorem cyc_5 : wins 1 5 [] = [cycW 5] := by decide +kernel
theorem cyc_all (d : Nat) (d1 : 1 ≤ d) (d5 : d ≤ 5) : wins 1 d [] = [cycW d] := by
  obtain rfl | rfl | rfl | rfl | rfl : d = 1 ∨ d = 2 ∨ d = 3 ∨ d = 4 ∨ d = 5 := by omega
  · exact cyc_1
  · exact cyc_2
  · exact cyc_3
  · exact cyc_4
  · exact cyc_5
/-- What the letters do to the place on the cycle. -/
def cycOk (d : Nat) : Prop := ∀ s : Nat, s < d → 0 ≤ stp (cycW d) s 97 ∧ stp (cycW d) s 97 < d ∧ nth (posC d) (stp (cycW d) s 97).toNat = (nth (posC d) s + 1) % d ∧ 0 ≤ stp (cycW d) s 65 ∧ stp (cycW d) s 65 < d ∧ nth (posC d) (stp (cycW d) s 65).toNat = (nth (posC d) s - 1) % d ∧
  0 ≤ nth (posC d) s ∧ nth (posC d) s < d ∧ ∀ s' : Nat, s' < d → nth (posC d) s = nth (posC d) s' → s = s'
theorem cycOk_all (d : Nat) (d1 : 1 ≤ d) (d5 : d ≤ 5) : cycOk d := by
  obtain rfl | rfl | rfl | rfl | rfl : d = 1 ∨ d = 2 ∨ d = 3 ∨ d = 4 ∨ d = 5 := by omega
  all_goals (unfold cycOk; decide +kernel)
theorem cyc_snd (d : Nat) (d1 : 1 ≤ d) (d5 : d ≤ 5) : ∀ (r : List UInt8), r.all (okL 1) = true → ∀ s : Int, 0 ≤ s → s < d → 0 ≤ snd (cycW d) s r ∧ snd (cycW d) s r < d ∧ nth (posC d) (snd (cycW d) s r).toNat = (nth (posC d) s.toNat + exA r) % d
  | [], _, s, h0, h1 => by
    have := cycOk_all d d1 d5 s.toNat (by omega)
    refine ⟨h0, h1, ?_⟩
    show nth (posC d) s.toNat = (nth (posC d) s.toNat + exA []) % d
    have e : exA [] = 0 := rfl
    rw [e, Int.add_zero, Int.emod_eq_of_lt this.2.2.2.2.2.2.1 this.2.2.2.2.2.2.2.1]
  | c :: r, hr, s, h0, h1 => by
    rw [List.all_cons, Bool.and_eq_true] at hr
    have hk := cycOk_all d d1 d5 s.toNat (by omega)
    have hs : ((s.toNat : Nat) : Int) = s := by omega
    rw [hs] at hk
    have hc : c = 97 ∨ c = 65 := by
      have := hr.1; simp [okL] at this; exact this
    have hex : exA (c :: r) = ea c + exA r := by simp [exA]
    show 0 ≤ snd (cycW d) (stp (cycW d) s c) r ∧ _ ∧ _
    rcases hc with rfl | rfl
    · obtain ⟨a1, a2, a3⟩ := cyc_snd d d1 d5 r hr.2 (stp (cycW d) s 97) hk.1 hk.2.1
      refine ⟨a1, a2, a3.trans ?_⟩
      rw [hk.2.2.1, hex, show ea 97 = 1 from rfl, Int.emod_add_emod, Int.add_assoc]
    · obtain ⟨a1, a2, a3⟩ := cyc_snd d d1 d5 r hr.2 (stp (cycW d) s 65) hk.2.2.2.1 hk.2.2.2.2.1
      refine ⟨a1, a2, a3.trans ?_⟩
      rw [hk.2.2.2.2.2.1, hex, show ea 65 = -1 from rfl, Int.emod_add_emod]
      congr 1; omega
theorem cyc_keeps (d : Nat) (d1 : 1 ≤ d) (d5 : d ≤ 5) (r : ByteArray) (hr : r.data.toList.all (okL 1) = true) : krB (cycW d) d r = decide ((d : Int) ∣ exA r.data.toList) := by
  rw [Bool.eq_iff_iff, decide_eq_true_iff]
  unfold krB
  rw [List.all_eq_true]
  constructor
  · intro h
    have h0 := h 0 (by simp; omega)
    rw [decide_eq_true_iff] at h0
    obtain ⟨_, _, a3⟩ := cyc_snd d d1 d5 r.data.toList hr 0 (by omega) (by omega)
    have h0' : snd (cycW d) 0 r.data.toList = 0 := h0
    have hk := cycOk_all d d1 d5 0 (by omega)
    rw [h0'] at a3
    have hp : nth (posC d) 0 % d = nth (posC d) 0 := Int.emod_eq_of_lt hk.2.2.2.2.2.2.1 hk.2.2.2.2.2.2.2.1
    have a4 : nth (posC d) 0 % d = (nth (posC d) 0 + exA r.data.toList) % d := hp.trans a3
    have h6 := Int.emod_eq_emod_iff_emod_sub_eq_zero.1 a4.symm
    rw [show (nth (posC d) 0 + exA r.data.toList) - nth (posC d) 0 = exA r.data.toList by omega] at h6
    exact Int.dvd_of_emod_eq_zero h6
  · intro h s hs
    have hsd : s < d := by simpa using hs
    rw [decide_eq_true_iff]
    obtain ⟨a1, a2, a3⟩ := cyc_snd d d1 d5 r.data.toList hr s (by omega) (by omega)
    have hk := cycOk_all d d1 d5 s hsd
    obtain ⟨q, hq⟩ := h
    rw [hq, Int.add_mul_emod_self_left, show ((s : Int)).toNat = s from by omega, Int.emod_eq_of_lt hk.2.2.2.2.2.2.1 hk.2.2.2.2.2.2.2.1] at a3
    have hk2 := cycOk_all d d1 d5 (snd (cycW d) s r.data.toList).toNat (by omega)
    have := hk2.2.2.2.2.2.2.2.2 s hsd a3
    omega
theorem cyc_nth1 (d : Nat) (d1 : 1 ≤ d) (d5 : d ≤ 5) : nth (cycW d) 1 = d := by
  unfold cycW; rw [layS_nth _ _ _ _ (by omega)]; rfl
def divB (d : Int) (rules : List ByteArray) : Bool := rules.all fun r => decide (d ∣ exA r.data.toList)
theorem cyc_count (d : Nat) (d1 : 1 ≤ d) (d5 : d ≤ 5) (rules : List ByteArray) (hr : ∀ r ∈ rules, r.data.toList.all (okL 1) = true) : (wins 1 d rules).length = if divB d rules = true then 1 else 0 := by
  have hk : keepsB (cycW d) rules = divB d rules := by
    unfold keepsB divB
    rw [cyc_nth1 d d1 d5]
    have : ∀ r ∈ rules, krB (cycW d) ((d : Int)).toNat r = decide ((d : Int) ∣ exA r.data.toList) := fun r h => by
      rw [show ((d : Int)).toNat = d from by omega]; exact cyc_keeps d d1 d5 r (hr r h)
    rw [Bool.eq_iff_iff, List.all_eq_true, List.all_eq_true]
    exact ⟨fun h r hr' => by rw [← this r hr']; exact h r hr', fun h r hr' => by rw [this r hr']; exact h r hr'⟩
  rw [wins_filter, cyc_all d d1 d5, List.filter_cons, hk]
  split <;> rfl
end Go.Proofs.Ytikedhkibdeheaa
