/- The plain words of the factors. Nothing is claimed here. -/
import Derived.Test.YtfaogfcbppojoaaCa
namespace Go.Proofs.Ytfaogfcbppojoaa
open Go.RowKit
/-- What a letter adds to the exponents. -/
def ea (c : UInt8) : Int := if c = 97 then 1 else if c = 65 then -1 else 0
def eb (c : UInt8) : Int := if c = 98 then 1 else if c = 66 then -1 else 0
def exA (l : List UInt8) : Int := (l.map ea).sum
def exB (l : List UInt8) : Int := (l.map eb).sum
theorem exA_snoc (s : ByteArray) (k : Nat) (h : k < s.size) : exA (s.data.toList.take (k + 1)) = exA (s.data.toList.take k) + ea s[k] := by rw [take_snoc s k h]; simp [exA]
theorem exB_snoc (s : ByteArray) (k : Nat) (h : k < s.size) : exB (s.data.toList.take (k + 1)) = exB (s.data.toList.take k) + eb s[k] := by rw [take_snoc s k h]; simp [exB]
theorem ea_le (c : UInt8) : -1 ≤ ea c ∧ ea c ≤ 1 := by unfold ea; split <;> (try split) <;> omega
theorem eb_le (c : UInt8) : -1 ≤ eb c ∧ eb c ≤ 1 := by unfold eb; split <;> (try split) <;> omega
theorem exA_le : ∀ (l : List UInt8), -(l.length : Int) ≤ exA l ∧ exA l ≤ l.length
  | [] => by simp [exA]
  | c :: l => by have h := exA_le l; have := ea_le c; simp only [exA, List.map_cons, List.sum_cons, List.length_cons] at h ⊢; omega
theorem exB_le : ∀ (l : List UInt8), -(l.length : Int) ≤ exB l ∧ exB l ≤ l.length
  | [] => by simp [exB]
  | c :: l => by have h := exB_le l; have := eb_le c; simp only [exB, List.map_cons, List.sum_cons, List.length_cons] at h ⊢; omega
theorem gcd_step (x y : Int) : Int.gcd y (x.tmod y) = Int.gcd x y := by
  unfold Int.gcd
  rw [Int.natAbs_tmod, Nat.gcd_comm x.natAbs, Nat.gcd_comm y.natAbs]
  exact (Nat.gcd_rec y.natAbs x.natAbs).symm
theorem tmod_small (x y : Int) (hy : y ≠ 0) : (x.tmod y).natAbs < y.natAbs := by
  rw [Int.natAbs_tmod]; exact Nat.mod_lt _ (by omega)
/-- The greatest common divisors of the exponents, and of the determinants. -/
def gE (a : Int) (r : ByteArray) : Int := Int.gcd (Int.gcd a (exA r.data.toList)) (exB r.data.toList)
def det (r q : ByteArray) : Int := exA r.data.toList * exB q.data.toList - exB r.data.toList * exA q.data.toList
def gD (a : Int) (r q : ByteArray) : Int := Int.gcd a (det r q)
def dE (rules : List ByteArray) : Int := rules.foldl gE 0
def dDi (a : Int) (r : ByteArray) (qs : List ByteArray) : Int := qs.foldl (fun a q => gD a r q) a
def dD (rules : List ByteArray) (k : Nat) : Int := (List.range k).foldl (fun a i => dDi a (rules[i]?.getD ByteArray.empty) (rules.take i)) 0
theorem byte_ne (c d : UInt8) (n : Int) (hn : (d.toNat : Int) = n) (h : c ≠ d) : ((c.toNat : Int) == n) = false := by
  rw [beq_eq_false_iff_ne, ← hn]
  intro e
  exact h (UInt8.toNat_inj.1 (by omega))
theorem byte_is (c d : UInt8) (n : Int) (hn : (d.toNat : Int) = n) (h : c = d) : ((c.toNat : Int) == n) = true := by
  rw [beq_iff_eq, ← hn, h]
theorem gcd_le (a b : Int) (N : Int) (h1 : -N ≤ a) (h2 : a ≤ N) (h3 : -N ≤ b) (h4 : b ≤ N) : 0 ≤ (Int.gcd a b : Int) ∧ (Int.gcd a b : Int) ≤ N := by
  refine ⟨by omega, ?_⟩
  by_cases ha : a = 0
  · subst ha; simp [Int.gcd]; omega
  · have : Int.gcd a b ≤ a.natAbs := Nat.le_of_dvd (by omega) (Int.gcd_dvd_natAbs_left a b)
    omega
theorem dE_snoc (rules : List ByteArray) (k : Nat) (r : ByteArray) (h : rules[k]? = some r) : dE (rules.take (k + 1)) = gE (dE (rules.take k)) r := by
  obtain ⟨hk, rfl⟩ := List.getElem?_eq_some_iff.1 h
  unfold dE; rw [List.take_succ_eq_append_getElem hk, List.foldl_append]; rfl
theorem dD_snoc (rules : List ByteArray) (k : Nat) (r : ByteArray) (h : rules[k]? = some r) : dD rules (k + 1) = dDi (dD rules k) r (rules.take k) := by
  simp [dD, List.range_succ, h]
theorem dDi_snoc (a : Int) (r : ByteArray) (qs : List ByteArray) (k : Nat) (q : ByteArray) (h : qs[k]? = some q) : dDi a r (qs.take (k + 1)) = gD (dDi a r (qs.take k)) r q := by
  obtain ⟨hk, rfl⟩ := List.getElem?_eq_some_iff.1 h
  unfold dDi; rw [List.take_succ_eq_append_getElem hk, List.foldl_append]; rfl
theorem ex_small (r : ByteArray) (h : r.size ≤ 30) : (-30 ≤ exA r.data.toList ∧ exA r.data.toList ≤ 30) ∧ (-30 ≤ exB r.data.toList ∧ exB r.data.toList ≤ 30) := by
  have h1 := exA_le r.data.toList
  have h2 := exB_le r.data.toList
  have : r.data.toList.length ≤ 30 := by simpa using h
  omega
theorem mul_small (a b : Int) (h1 : -30 ≤ a) (h2 : a ≤ 30) (h3 : -30 ≤ b) (h4 : b ≤ 30) : -900 ≤ a * b ∧ a * b ≤ 900 := by
  have ha : a.natAbs ≤ 30 := by omega
  have hb : b.natAbs ≤ 30 := by omega
  have := Nat.mul_le_mul ha hb
  rw [← Int.natAbs_mul] at this
  omega
end Go.Proofs.Ytfaogfcbppojoaa
