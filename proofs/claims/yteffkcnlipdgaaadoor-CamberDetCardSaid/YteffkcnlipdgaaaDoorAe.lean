/- newTriple in all cases; the walks of IsTriple, isPath, isWord. -/
import Derived.Test.YteffkcnlipdgaaaDoorMa
import Derived.Test.YteffkcnlipdgaaaDoorTr
import Derived.Lib.SlTrimSet
namespace Go.Proofs.YteffkcnlipdgaaaDoor
open Go.RowKit Go.Shelf
set_option linter.unusedVariables false
set_option linter.unusedSimpArgs false

theorem newTriple_yes (x y z : Int) (h : trB x y z = true) (w : World) :
    Calls Tryd.prog 25 #[.agg #[.int .i64 x, .int .i64 y, .int .i64 z]] w fun e w' => e = .returned (.tuple #[.agg #[.int .i64 x, .int .i64 y, .int .i64 z], .bool true]) ∧ Keeps w w' := by
  have := newTriple_ord x y z ((trB_iff _ _ _).1 h).1 w
  rw [h] at this
  exact this
theorem newTriple_non (x y z : Int) (h : trB x y z = false) (w : World) :
    Calls Tryd.prog 25 #[.agg #[.int .i64 x, .int .i64 y, .int .i64 z]] w fun e w' => ∃ a b c : Int, e = .returned (.tuple #[.agg #[.int .i64 a, .int .i64 b, .int .i64 c], .bool false]) ∧ Keeps w w' := by
  by_cases ho : ord x y z
  · have := newTriple_ord x y z ho w
    rw [h] at this
    refine Calls.mono this ?_
    rintro e w' ⟨rfl, hk⟩
    exact ⟨_, _, _, rfl, hk⟩
  · refine Calls.mono (newTriple_no x y z ho w) ?_
    rintro e w' ⟨rfl, hk⟩
    exact ⟨_, _, _, rfl, hk⟩
set_option maxHeartbeats 1000000 in
theorem IsTriple_c (x y z : Int) (w : World) :
    Calls Tryd.prog 13 #[.agg #[.int .i64 x, .int .i64 y, .int .i64 z]] w fun e w' => e = .returned (.tuple #[.bool (trB x y z), .int .i64 0]) ∧ Keeps w w' := by
  have hk : Keeps w (w.alloc (.cells #[.int .i64 x, .int .i64 y, .int .i64 z] 22)) := Keeps.alloc (Below.refl _ _) _
  cases hb : trB x y z
  · have cN := newTriple_non x y z hb (w.alloc (.cells #[.int .i64 x, .int .i64 y, .int .i64 z] 22))
    have H := Lib.hid hb
    clear hb
    go_enter Tryd.func13, Tryd.ntmps13
    go_wp2_with (go_at_call 25; refine cN.mono ?_; rintro e w1 ⟨a, b, c, rfl, h1⟩)
    go_ret2
    exact ⟨rfl, Keeps.alloc (Keeps.next hk h1) _⟩
  · have cN := newTriple_yes x y z hb (w.alloc (.cells #[.int .i64 x, .int .i64 y, .int .i64 z] 22))
    have H := Lib.hid hb
    clear hb
    go_enter Tryd.func13, Tryd.ntmps13
    go_wp2_with (go_at_call 25; refine cN.mono ?_; rintro e w1 ⟨rfl, h1⟩)
    go_ret2
    exact ⟨rfl, Keeps.alloc (Keeps.next hk h1) _⟩
/-- Trimming leaves nothing exactly if all letters are those of the set. -/
theorem trim_nil (l cs : List UInt8) : Lib.trimS l cs = [] ↔ l.all (fun c => cs.contains c) = true := by
  unfold Lib.trimS Lib.trimLeftS Lib.trimRightS
  have hnil : ∀ (p : UInt8 → Bool) (l : List UInt8), l.dropWhile p = [] ↔ l.all p = true := by
    intro p l
    induction l with
    | nil => simp
    | cons a l ih =>
      rw [List.dropWhile_cons]
      cases h : p a <;> simp [h, ih]
  have hhead : ∀ (p : UInt8 → Bool) (l : List UInt8) (a : UInt8) (d : List UInt8), l.dropWhile p = a :: d → p a = false := by
    intro p l
    induction l with
    | nil => intro a d h; cases h
    | cons b l ih =>
      intro a d h
      rw [List.dropWhile_cons] at h
      cases hb : p b
      · rw [hb] at h; simp at h; rw [← h.1]; exact hb
      · rw [hb] at h; exact ih a d (by simpa using h)
  rw [hnil]
  constructor
  · intro h
    rcases hd : l.reverse.dropWhile (fun x => cs.contains x) with _ | ⟨a, d⟩
    · rw [hnil] at hd
      rw [List.all_eq_true] at hd ⊢
      intro c hc
      exact hd c (List.mem_reverse.2 hc)
    · rw [hd] at h
      rw [List.all_eq_true] at h
      have h1 := h a (by simp)
      rw [hhead _ _ _ _ hd] at h1
      cases h1
  · intro h
    have : l.reverse.dropWhile (fun x => cs.contains x) = [] := by
      rw [hnil, List.all_eq_true]
      intro c hc
      exact List.all_eq_true.1 h c (List.mem_reverse.1 hc)
    rw [this]
    rfl
def pathB (s : ByteArray) : Bool := decide (s.size ≤ 60) && s.data.toList.all fun c => [76, 82].contains c
def phraseB (s : ByteArray) : Bool := decide (s.size ≤ 40) && s.data.toList.all fun c => [97, 98].contains c
set_option maxHeartbeats 1000000 in
theorem isPath_c (s : ByteArray) (hs : s.size ≤ maxLen) (w : World) : Calls Tryd.prog 30 #[.string s] w fun e w' => e = .returned (.bool (pathB s)) ∧ Keeps w w' := by
  unfold pathB
  unfold maxLen at hs
  cases hd : decide (s.size ≤ 60)
  · have hd2 : ¬ ((s.size : Int) ≤ 60) := by have := of_decide_eq_false hd; omega
    go_enter Tryd.func30, Tryd.ntmps30
    go_wp2_with fail
    go_ret
    exact ⟨by simp, Below.refl _ _⟩
  · have hd2 : (s.size : Int) ≤ 60 := by have := of_decide_eq_true hd; omega
    have hcon := Any.strings_Trim_laid Tryd.lays160 (by kernel_rfl) s ⟨#[76, 82]⟩ w hs (by decide) (ascii_of_all (by decide))
    change Calls Tryd.prog 44 _ _ (fun e w' => e = .returned (.string ⟨(Lib.trimS s.data.toList [76, 82]).toArray⟩) ∧ Keeps w w') at hcon
    have hb : (Lib.trimS s.data.toList [76, 82]).isEmpty = (s.data.toList.all fun c => [76, 82].contains c) := by
      rw [Bool.eq_iff_iff, ← trim_nil, List.isEmpty_iff]
    generalize Lib.trimS s.data.toList [76, 82] = A at hcon hb
    rw [← hb, Bool.true_and]
    clear hb hd
    go_enter Tryd.func30, Tryd.ntmps30
    go_wp2_with (go_at_call 44; refine hcon.mono ?_; rintro e w1 ⟨rfl, h1⟩)
    go_ret
    exact ⟨rfl, h1⟩
set_option maxHeartbeats 1000000 in
theorem isWord_c (s : ByteArray) (hs : s.size ≤ maxLen) (w : World) : Calls Tryd.prog 38 #[.string s] w fun e w' => e = .returned (.bool (phraseB s)) ∧ Keeps w w' := by
  unfold phraseB
  unfold maxLen at hs
  cases hd : decide (s.size ≤ 40)
  · have hd2 : ¬ ((s.size : Int) ≤ 40) := by have := of_decide_eq_false hd; omega
    go_enter Tryd.func38, Tryd.ntmps38
    go_wp2_with fail
    go_ret
    exact ⟨by simp, Below.refl _ _⟩
  · have hd2 : (s.size : Int) ≤ 40 := by have := of_decide_eq_true hd; omega
    have hcon := Any.strings_Trim_laid Tryd.lays160 (by kernel_rfl) s ⟨#[97, 98]⟩ w hs (by decide) (ascii_of_all (by decide))
    change Calls Tryd.prog 44 _ _ (fun e w' => e = .returned (.string ⟨(Lib.trimS s.data.toList [97, 98]).toArray⟩) ∧ Keeps w w') at hcon
    have hb : (Lib.trimS s.data.toList [97, 98]).isEmpty = (s.data.toList.all fun c => [97, 98].contains c) := by
      rw [Bool.eq_iff_iff, ← trim_nil, List.isEmpty_iff]
    generalize Lib.trimS s.data.toList [97, 98] = A at hcon hb
    rw [← hb, Bool.true_and]
    clear hb hd
    go_enter Tryd.func38, Tryd.ntmps38
    go_wp2_with (go_at_call 44; refine hcon.mono ?_; rintro e w1 ⟨rfl, h1⟩)
    go_ret
    exact ⟨rfl, h1⟩
end Go.Proofs.YteffkcnlipdgaaaDoor
