/- All triples that are found by paths; what the kernel reckons of them. -/
import Derived.Test.YteffkcnlipdgaaaDoorWb
namespace Go.Proofs.YteffkcnlipdgaaaDoor
open Go.RowKit
set_option linter.unusedVariables false
set_option linter.unusedSimpArgs false

/-- All triples from 1 2 5 on with numbers of at most 10^9. -/
def allT : List Ed := [(1, 2, 5), (2, 5, 29), (1, 5, 13), (5, 29, 433), (2, 29, 169), (5, 13, 194), (1, 13, 34), (29, 433, 37666), (5, 433, 6466), (29, 169, 14701), (2, 169, 985), (13, 194, 7561), (5, 194, 2897), (13, 34, 1325), (1, 34, 89), (433, 37666, 48928105), (29, 37666, 3276509), (433, 6466, 8399329), (5, 6466, 96557), (169, 14701, 7453378), (29, 14701, 1278818), (169, 985, 499393), (2, 985, 5741), (194, 7561, 4400489), (13, 7561, 294685), (194, 2897, 1686049), (5, 2897, 43261), (34, 1325, 135137), (13, 1325, 51641), (34, 89, 9077), (1, 89, 233), (29, 3276509, 285018617), (5, 96557, 1441889), (29, 1278818, 111242465), (169, 499393, 253191266), (985, 5741, 16964653), (2, 5741, 33461), (13, 294685, 11485154), (194, 1686049, 981277621), (2897, 43261, 375981346), (5, 43261, 646018), (1325, 135137, 537169541), (34, 135137, 13782649), (1325, 51641, 205272962), (13, 51641, 2012674), (89, 9077, 2423525), (34, 9077, 925765), (89, 233, 62210), (1, 233, 610), (5, 1441889, 21531778), (5741, 33461, 576298801), (2, 33461, 195025), (13, 11485154, 447626321), (5, 646018, 9647009), (13, 2012674, 78442645), (89, 2423525, 647072098), (34, 925765, 94418953), (233, 62210, 43484701), (89, 62210, 16609837), (233, 610, 426389), (1, 610, 1597), (5, 21531778, 321534781), (2, 195025, 1136689), (5, 9647009, 144059117), (610, 426389, 780291637), (233, 426389, 298045301), (610, 1597, 2922509), (1, 1597, 4181), (2, 1136689, 6625109), (1597, 4181, 20031170), (1, 4181, 10946), (2, 6625109, 38613965), (4181, 10946, 137295677), (1, 10946, 28657), (2, 38613965, 225058681), (10946, 28657, 941038565), (1, 28657, 75025), (1, 75025, 196418), (1, 196418, 514229), (1, 514229, 1346269), (1, 1346269, 3524578), (1, 3524578, 9227465), (1, 9227465, 24157817), (1, 24157817, 63245986), (1, 63245986, 165580141), (1, 165580141, 433494437)]
def inT (e : Ed) : Bool := allT.any fun t => (t.2.2 == e.2.2) && ((t.2.1 == e.2.1) && (t.1 == e.1))
theorem inT_iff (e : Ed) : inT e = true ↔ e ∈ allT := by
  unfold inT
  rw [List.any_eq_true]
  constructor
  · rintro ⟨t, ht, h⟩
    simp only [Bool.and_eq_true, beq_iff_eq] at h
    have : t = e := Prod.ext h.2.2 (Prod.ext h.2.1 h.1)
    exact this ▸ ht
  · intro h
    exact ⟨e, h, by simp⟩
def stepOk (e : Ed) : Bool := (decide (1000000000 < (leftT e).2.2) || inT (leftT e)) && (decide (1000000000 < (rightT e).2.2) || inT (rightT e))
theorem closedT : allT.all stepOk = true := by decide +kernel
theorem fol_mem : ∀ (l : List UInt8) (e t : Ed), e ∈ allT → folF e l = some t → t ∈ allT := by
  intro l
  induction l with
  | nil => intro e t he h; cases h; exact he
  | cons c l ih =>
    intro e t he h
    rw [folF] at h
    split at h
    · rename_i hb
      refine ih _ _ ?_ h
      have hs := List.all_eq_true.1 closedT e he
      unfold stepOk at hs
      simp only [Bool.and_eq_true, Bool.or_eq_true, decide_eq_true_eq] at hs
      unfold nxtT at hb ⊢
      split at hb
      · rename_i hc
        rw [if_pos hc]
        rcases hs.2 with h9 | h9
        · omega
        · exact (inT_iff _).1 h9
      · rename_i hc
        rw [if_neg hc]
        rcases hs.1 with h9 | h9
        · omega
        · exact (inT_iff _).1 h9
    · cases h
theorem start_mem : ((1, 2, 5) : Ed) ∈ allT := (inT_iff _).1 (by decide +kernel)
/-- What CamberForms asks. -/
def okForm (e : Ed) : Bool := decide (100000000 < e.2.2) || ((decide (0 ≤ (formT e.1 e.2.1 e.2.2).2.1) && decide ((formT e.1 e.2.1 e.2.2).2.1 ≤ 3 * e.2.2)) && ((decide ((formT e.1 e.2.1 e.2.2).2.2 ≤ 0) && decide (-3 * e.2.2 ≤ (formT e.1 e.2.1 e.2.2).2.2)) && decide ((formT e.1 e.2.1 e.2.2).2.1 * (formT e.1 e.2.1 e.2.2).2.1 - 4 * e.2.2 * (formT e.1 e.2.1 e.2.2).2.2 = 9 * e.2.2 * e.2.2 - 4)))
theorem formsT : allT.all okForm = true := by decide +kernel
/-- What CamberRooted asks. -/
def okRoot (e : Ed) : Bool := decide ((rootN e.1 e.2.1 e.2.2 * rootN e.1 e.2.1 e.2.2 + 1) % e.2.2 = 0) && (decide (e.1 * rootN e.1 e.2.1 e.2.2 % e.2.2 = e.2.1 % e.2.2) || decide ((e.1 * rootN e.1 e.2.1 e.2.2 % e.2.2 + e.2.1) % e.2.2 = 0))
theorem rootsT : allT.all okRoot = true := by decide +kernel
def okTri (e : Ed) : Bool := trB e.1 e.2.1 e.2.2 && (decide (2 ≤ e.2.2) && decide (5 ≤ e.2.2))
theorem trisT : allT.all okTri = true := by decide +kernel
/-- No two numbers of a triple have a common divisor. -/
def okGcd (e : Ed) : Bool := (Int.gcd e.2.1 e.2.2 == 1) && ((Int.gcd e.1 e.2.1 == 1) && (Int.gcd e.1 e.2.2 == 1))
theorem gcdsT : allT.all okGcd = true := by decide +kernel
end Go.Proofs.YteffkcnlipdgaaaDoor
