/- Paths and children of all triples, reckoned in the kernel. -/
import Derived.Test.YteffkcnlipdgaaaDoorMb
namespace Go.Proofs.YteffkcnlipdgaaaDoor
open Go.RowKit
set_option linter.unusedVariables false
set_option linter.unusedSimpArgs false

/-- What CamberTree asks of a child, of n children the j-th. -/
def okCh (e : Ed) (acc : List UInt8) (n j : Nat) (c : Ed) : Bool := ((trB c.1 c.2.1 c.2.2 && decide (upT c = e)) && (decide (5 ≤ c.2.2) && decide ((pth c).length = acc.length + 1))) && (decide ((pth c).take acc.length = acc) && (decide (n ≠ 2) || decide ((pth c)[acc.length]? = some (if j = 0 then 76 else 82))))
def okTree (e : Ed) (acc : List UInt8) : Bool := decide (pth e = acc) && (match chl e with
  | [] => true
  | [c] => okCh e acc 1 0 c
  | [c, d] => (okCh e acc 2 0 c && okCh e acc 2 1 d) && decide (c ≠ d)
  | _ => false)
def chkP : Nat → Ed → List UInt8 → Bool
  | 0, _, _ => true
  | n + 1, e, acc => okTree e acc && ((if (leftT e).2.2 ≤ 1000000000 then chkP n (leftT e) (acc ++ [76]) else true) && (if (rightT e).2.2 ≤ 1000000000 then chkP n (rightT e) (acc ++ [82]) else true))
theorem chkP_fol : ∀ (l : List UInt8) (n : Nat) (e t : Ed) (acc : List UInt8), l.length < n → chkP n e acc = true → (l.all fun c => [76, 82].contains c) = true → folF e l = some t → okTree t (acc ++ l) = true := by
  intro l
  induction l with
  | nil =>
    intro n e t acc hn hc ha hf
    cases hf
    cases n with
    | zero => simp at hn
    | succ n => unfold chkP at hc; rw [Bool.and_eq_true] at hc; rw [List.append_nil]; exact hc.1
  | cons c l ih =>
    intro n e t acc hn hc ha hf
    cases n with
    | zero => simp at hn
    | succ n =>
      unfold chkP at hc
      rw [Bool.and_eq_true, Bool.and_eq_true] at hc
      rw [folF] at hf
      rw [List.all_cons, Bool.and_eq_true] at ha
      have h2 : c = 76 ∨ c = 82 := by simpa using ha.1
      split at hf
      · rename_i hb
        rcases h2 with rfl | rfl
        · have hx : nxtT e 76 = leftT e := rfl
          rw [hx] at hb hf
          have := hc.2.1
          rw [if_pos hb] at this
          have h9 := ih n _ t _ (by simp at hn; omega) this ha.2 hf
          rwa [List.append_assoc] at h9
        · have hx : nxtT e 82 = rightT e := rfl
          rw [hx] at hb hf
          have := hc.2.2
          rw [if_pos hb] at this
          have h9 := ih n _ t _ (by simp at hn; omega) this ha.2 hf
          rwa [List.append_assoc] at h9
      · cases hf
theorem treeT : chkP 62 (1, 2, 5) [] = true := by decide +kernel
theorem tree_fol (l : List UInt8) (t : Ed) (hl : l.length ≤ 60) (ha : (l.all fun c => [76, 82].contains c) = true) (hf : folF (1, 2, 5) l = some t) : okTree t l = true :=
  chkP_fol l 62 (1, 2, 5) t [] (by omega) treeT ha hf
end Go.Proofs.YteffkcnlipdgaaaDoor
