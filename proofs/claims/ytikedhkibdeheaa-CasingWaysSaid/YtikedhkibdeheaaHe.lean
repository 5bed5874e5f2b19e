/- The walk of Reduce. -/
import Derived.Test.YtikedhkibdeheaaGb
import Derived.Test.YtikedhkibdeheaaCa
namespace Go.Proofs.Ytikedhkibdeheaa
open Go.RowKit

theorem one_rd (w : World) (a : ByteArray) : RdS (w.alloc (.cells #[.string a] 9)) (.slice (some ⟨w.heap.size, 0, none⟩) 1 1) [a] := by
  refine ⟨some ⟨w.heap.size, 0, none⟩, 1, rfl, by unfold maxLen; simp, fun k hk => ?_⟩
  have hk1 : k < 1 := hk
  have hc := (At.new w 9 #[.string a]).cell (0 + k)
  obtain rfl : k = 0 := by omega
  exact ⟨w.heap.size, 0, .string a, rfl, hc, a, rfl, rfl⟩
def redB (g : Int) (s : ByteArray) : Bool := lettersB g && wordB g s.data.toList

set_option maxHeartbeats 1000000 in
theorem reduce_yes (g : Int) (s : ByteArray) (h : redB g s = true) (w : World) :
    Calls Try.prog 33 #[.int .i64 g, .string s] w fun e w' => e = .returned (.tuple #[.string ⟨(red s.data.toList).toArray⟩, .int .i64 0]) ∧ Keeps w w' := by
  simp only [redB, Bool.and_eq_true] at h
  obtain ⟨hg, hw⟩ := h
  have hg' : g = 1 ∨ g = 2 := by simpa [lettersB] using hg
  have h30 : s.data.toList.length ≤ 30 := by simp only [wordB, Bool.and_eq_true, decide_eq_true_eq] at hw; exact hw.1
  have hsm : s.size ≤ maxLen := by have : s.data.toList.length = s.size := Array.length_toList
                                   unfold maxLen; omega
  have hlet := fun x => isLetters_c g x
  have hwrd := fun x => isWord_c g hg' s x hsm
  rw [hg] at hlet
  rw [hw] at hwrd
  have hjo : joined [s] = s.data.toList := by simp [joined]
  have hall : s.data.toList.all (okL 2) = true := by
    simp only [wordB, Bool.and_eq_true] at hw
    have := hw.2
    rw [List.all_eq_true] at this ⊢
    exact fun x hx => okL_two g x (this x hx)
  have hred := fun x v hx => reduced_c v [s] (fun t ht => by simp at ht; rw [ht]; exact hall) (by rw [hjo]; omega) x hx
  rw [hjo] at hred
  clear hjo h30 hall hg hw
  go_enter Try.func33, Try.ntmps33
  go_wp2_with (
    first
    | (go_at_call 60; refine (hlet _).mono ?_; rintro e w1 ⟨rfl, rfl⟩)
    | (go_at_call 58; refine (hwrd _).mono ?_; rintro e w2 ⟨rfl, hb2⟩)
    | (go_at_call 51; refine (hred _ _ (one_rd w2 s)).mono ?_; rintro e w3 ⟨rfl, hb3⟩))
  refine bodyPost_ret (results_tmp2 (t := 4) (u := 5) (by rfl) _ _ _) rfl ⟨rfl, Keeps.next (Keeps.alloc hb2 _) hb3⟩
set_option maxHeartbeats 1000000 in
theorem reduce_no (g : Int) (s : ByteArray) (hsm : s.size ≤ maxLen) (h : redB g s = false) (w : World) :
    Calls Try.prog 33 #[.int .i64 g, .string s] w fun e w' => e = .returned (.tuple #[.string ByteArray.empty, .int .i64 2]) ∧ Keeps w w' := by
  have hlet := fun x => isLetters_c g x
  by_cases hg : lettersB g = true
  · have hg' : g = 1 ∨ g = 2 := by simpa [lettersB] using hg
    have hw : wordB g s.data.toList = false := by simpa [redB, hg] using h
    have hwrd := fun x => isWord_c g hg' s x hsm
    rw [hg] at hlet
    rw [hw] at hwrd
    go_enter Try.func33, Try.ntmps33
    go_wp2_with (
      first
      | (go_at_call 60; refine (hlet _).mono ?_; rintro e w1 ⟨rfl, rfl⟩)
      | (go_at_call 58; refine (hwrd _).mono ?_; rintro e w2 ⟨rfl, hb2⟩))
    refine bodyPost_ret (results_tmp2 (t := 4) (u := 5) (by rfl) _ _ _) rfl ⟨rfl, hb2⟩
  · have hg' : lettersB g = false := by simpa using hg
    rw [hg'] at hlet
    go_enter Try.func33, Try.ntmps33
    go_wp2_with (
      first
      | (go_at_call 60; refine (hlet _).mono ?_; rintro e w1 ⟨rfl, rfl⟩))
    refine bodyPost_ret (results_tmp2 (t := 4) (u := 5) (by rfl) _ _ _) rfl ⟨rfl, Below.refl _ _⟩
end Go.Proofs.Ytikedhkibdeheaa
