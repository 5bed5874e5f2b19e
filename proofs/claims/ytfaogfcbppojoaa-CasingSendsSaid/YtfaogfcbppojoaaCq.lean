/- More plain words of the casing proofs. Nothing is claimed here. -/
import Derived.Test.YtfaogfcbppojoaaCa
namespace Go.Proofs.Ytfaogfcbppojoaa
open Go.RowKit
/-- A rule sends every sheet below d to itself; all rules do. -/
def krB (W : List Int) (d : Nat) (r : ByteArray) : Bool := (List.range d).all fun s => decide (snd W (s : Int) r.data.toList = s)
def keepsB (W : List Int) (rules : List ByteArray) : Bool := rules.all (krB W (nth W 1).toNat)
theorem range_snoc {p : Nat → Bool} (k : Nat) (h : (List.range k).all p = true) (h' : p k = true) : (List.range (k + 1)).all p = true := by
  rw [List.range_succ, List.all_append, h]; simp [h']
theorem krB_no (W : List Int) (d : Nat) (r : ByteArray) (s : Nat) (hs : s < d) (h : snd W (s : Int) r.data.toList ≠ s) : krB W d r = false :=
  List.all_eq_false.2 ⟨s, by simpa using hs, by simpa using h⟩
theorem keepsB_no (W : List Int) (rules : List ByteArray) (k : Nat) (r : ByteArray) (hk : rules[k]? = some r) (h : krB W (nth W 1).toNat r = false) : keepsB W rules = false :=
  List.all_eq_false.2 ⟨r, List.mem_of_getElem? hk, by simp [h]⟩
def wordsOk (rules : List ByteArray) : Prop := ∀ r ∈ rules, r.size ≤ maxLen ∧ ∀ c ∈ r.data.toList, 0 ≤ li c
/-- A presentation. -/
def groupB (g : Int) (rules : List ByteArray) : Bool := lettersB g && (decide (rules.length ≤ 6) && rules.all fun r => wordB g r.data.toList)
theorem groupB_no (g : Int) (rules : List ByteArray) (k : Nat) (r : ByteArray) (hk : rules[k]? = some r) (h : wordB g r.data.toList = false) : groupB g rules = false := by
  have : (rules.all fun r => wordB g r.data.toList) = false := List.all_eq_false.2 ⟨r, List.mem_of_getElem? hk, by simp [h]⟩
  simp [groupB, this]
theorem groupB_yes (g : Int) (rules : List ByteArray) (h1 : lettersB g = true) (h2 : rules.length ≤ 6) (h3 : (rules.all fun r => wordB g r.data.toList) = true) : groupB g rules = true := by
  unfold groupB; rw [h1, h3]; simp [h2]
theorem groupB_parts (g : Int) (rules : List ByteArray) (h : groupB g rules = true) : (g = 1 ∨ g = 2) ∧ rules.length ≤ 6 ∧ wordsOk rules := by
  simp only [groupB, Bool.and_eq_true, decide_eq_true_eq] at h
  obtain ⟨h1, h2, h3⟩ := h
  refine ⟨by simpa [lettersB] using h1, h2, fun r hr => ?_⟩
  have := List.all_eq_true.1 h3 r hr
  simp only [wordB, Bool.and_eq_true, decide_eq_true_eq] at this
  refine ⟨by have := this.1; simp at this; unfold maxLen; omega, fun c hc => okL_li g c (List.all_eq_true.1 this.2 c hc)⟩
def szOk (rules : List ByteArray) : Prop := ∀ r ∈ rules, r.size ≤ maxLen
end Go.Proofs.Ytfaogfcbppojoaa
