/- The matrices of the words of paths, reckoned in the kernel. -/
import Derived.Test.YteffkcnlipdgaabDoorMb
namespace Go.Proofs.YteffkcnlipdgaabDoor
open Go.RowKit
set_option linter.unusedVariables false
set_option linter.unusedSimpArgs false

/-- What CamberCohn asks of a triple and the words of its path. -/
def okCohn (e : Ed) (pr : List UInt8 × List UInt8) : Bool := (decide ((pr.1 ++ pr.2).length ≤ 40) && (pr.1 ++ pr.2).all fun c => [97, 98].contains c) && (match matF (1, 0, 0, 1) (pr.1 ++ pr.2) with
  | none => false
  | some m => (decide (m.2.1 = e.2.2) && decide (m.1 + m.2.2.2 = 3 * e.2.2)) && ((decide (0 ≤ m.1) && decide (m.1 < 1000000000000)) && (decide (0 ≤ m.2.2.2) && decide (m.2.2.2 < 1000000000000))))
def chkT : Nat → Ed → List UInt8 × List UInt8 → Bool
  | 0, _, _ => true
  | n + 1, e, pr => okCohn e pr && ((if (leftT e).2.2 ≤ 1000000000 then chkT n (leftT e) (stepW pr 76) else true) && (if (rightT e).2.2 ≤ 1000000000 then chkT n (rightT e) (stepW pr 82) else true))
theorem chkT_fol : ∀ (l : List UInt8) (n : Nat) (e t : Ed) (pr : List UInt8 × List UInt8), l.length < n → chkT n e pr = true → (l.all fun c => [76, 82].contains c) = true → folF e l = some t → okCohn t (l.foldl stepW pr) = true := by
  intro l
  induction l with
  | nil =>
    intro n e t pr hn hc ha hf
    cases hf
    cases n with
    | zero => simp at hn
    | succ n => unfold chkT at hc; rw [Bool.and_eq_true] at hc; exact hc.1
  | cons c l ih =>
    intro n e t pr hn hc ha hf
    cases n with
    | zero => simp at hn
    | succ n =>
      unfold chkT at hc
      rw [Bool.and_eq_true, Bool.and_eq_true] at hc
      rw [folF] at hf
      rw [List.all_cons, Bool.and_eq_true] at ha
      have h2 : c = 76 ∨ c = 82 := by simpa using ha.1
      split at hf
      · rename_i hb
        rcases h2 with rfl | rfl
        · have hx : nxtT e 76 = leftT e := rfl
          rw [hx] at hb hf
          have := hc.2.1
          rw [if_pos hb] at this
          exact ih n _ t _ (by simp at hn; omega) this ha.2 hf
        · have hx : nxtT e 82 = rightT e := rfl
          rw [hx] at hb hf
          have := hc.2.2
          rw [if_pos hb] at this
          exact ih n _ t _ (by simp at hn; omega) this ha.2 hf
      · cases hf
theorem cohnT : chkT 62 (1, 2, 5) ([97], [98]) = true := by decide +kernel
theorem cohn_fol (l : List UInt8) (t : Ed) (hl : l.length ≤ 60) (ha : (l.all fun c => [76, 82].contains c) = true) (hf : folF (1, 2, 5) l = some t) : okCohn t (wrdP l) = true :=
  chkT_fol l 62 (1, 2, 5) t ([97], [98]) (by omega) cohnT ha hf
end Go.Proofs.YteffkcnlipdgaabDoor
