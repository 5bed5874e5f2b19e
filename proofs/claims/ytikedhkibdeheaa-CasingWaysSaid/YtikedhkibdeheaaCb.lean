/- The walks of the small functions of casing. -/
import Derived.Test.YtikedhkibdeheaaCa
import Derived.Test.YtikedhkibdeheaaRows
import Derived.Test.YtikedhkibdeheaaShelf
import Derived.WalkKit
import Derived.WalkSpells
import Derived.WalkLawsBesides
import Derived.Deep.QuietTactic
import Derived.BigQuiet
import Derived.Lib.Hide
namespace Go.Proofs.Ytikedhkibdeheaa
open Go.RowKit

set_option maxHeartbeats 400000 in
theorem step_c (W : List Int) (hW : W.length = 22) (s l : Int) (hs : 0 ≤ s) (hs' : s < 5) (hl : 0 ≤ l) (hl' : l < 4) (w : World) :
    Calls Try.prog 50 #[.agg (ic W), .int .i64 s, .int .i64 l] w fun e w' => e = .returned (.int .i64 (nth W (2 + l.toNat * 5 + s.toNat))) ∧ Below w.heap.size w w' := by
  obtain ⟨s, rfl⟩ := Int.eq_ofNat_of_zero_le hs
  obtain ⟨l, rfl⟩ := Int.eq_ofNat_of_zero_le hl
  have hc := cell_ic_new w 78 W (2 + l * 5 + s) (by omega)
  go_enter Try.func50, Try.ntmps50
  go_wp2
  go_ret
  exact ⟨rfl, (Below.refl _ _).alloc (Nat.le_refl _) _⟩

set_option maxHeartbeats 400000 in
theorem isLetters_c (n : Int) (w : World) :
    Calls Try.prog 60 #[.int .i64 n] w fun e w' => e = .returned (.bool (lettersB n)) ∧ w = w' := by
  go_enter Try.func60, Try.ntmps60
  go_wp2
  all_goals go_ret
  all_goals exact ⟨ret_bool (by rw [Bool.eq_iff_iff]; simp [lettersB]; try omega), rfl⟩

set_option maxHeartbeats 400000 in
theorem isSheets_c (n : Int) (w : World) :
    Calls Try.prog 36 #[.int .i64 n] w fun e w' => e = .returned (.bool (sheetsB n)) ∧ w = w' := by
  go_enter Try.func36, Try.ntmps36
  go_wp2
  all_goals go_ret
  all_goals exact ⟨ret_bool (by rw [Bool.eq_iff_iff]; simp [sheetsB]; try omega), rfl⟩

set_option maxHeartbeats 400000 in
theorem has_c (W : List Int) (hW : W.length = 22) (s : Int) (w : World) :
    Calls Try.prog 57 #[.agg (ic W), .int .i64 s] w fun e w' => e = .returned (.bool (hasB (nth W 1) s)) ∧ Below w.heap.size w w' := by
  have hc := cell_ic_new w 78 W 1 (by omega)
  go_enter Try.func57, Try.ntmps57
  go_wp2
  all_goals go_ret
  all_goals exact ⟨ret_bool (by rw [Bool.eq_iff_iff]; simp [hasB]; try omega), (Below.refl _ _).alloc (Nat.le_refl _) _⟩

set_option maxHeartbeats 1000000 in
theorem isWord_c1 (s : ByteArray) (w : World) (h30 : s.size ≤ 30) :
    Calls Try.prog 58 #[.int .i64 1, .string s] w fun e w' => e = .returned (.bool (wordB 1 s.data.toList)) ∧ Below w.heap.size w w' := by
  have h30' : decide ((30 : Int) < s.size) = false := by simp; omega
  go_enter Try.func58, Try.ntmps58
  go_wp2_with fail
  go_loopw [11] (fun i wr => ∃ k : Nat, k ≤ s.size ∧ i = .int .i64 k ∧ (s.data.toList.take k).all (okL 1) = true ∧ Below w.heap.size w wr) (fun i _ => s.size - (intOf i).toNat)
  case atStart => exact ⟨0, Nat.zero_le _, rfl, rfl, Below.refl _ _⟩
  case round =>
    obtain ⟨k, hk, rfl, hall, hb⟩ := hrel
    by_cases hlt : k < s.size
    · have HA := Lib.hid hall
      clear hall
      go_wp2_with fail
      go_quiet ((go_at_call 74; exact Calls.quiet_of_same (Try.strings_IndexByte _ _ _)))
      go_wp2
      · have h1 := (okL_1 s[k]).1 (by assumption)
        go_ret
        exact ⟨ret_bool (wordB_bad 1 s k hlt h1).symm, ⟨hb.os, hb.tape, hb.output, hb.size, hb.block⟩⟩
      · have h1 := (okL_1 s[k]).2 (by assumption)
        go_roundw
        case rel => exact ⟨k + 1, by omega, by go_num, all_snoc s k hlt HA.out h1, ⟨hb.os, hb.tape, hb.output, hb.size, hb.block⟩⟩
        case measure => simp [intOf]; omega
    · go_wp2
      go_ret
      exact ⟨ret_bool (wordB_ok 1 s h30 (by rwa [List.take_of_length_le (by simp; omega)] at hall)).symm, hb⟩

set_option maxHeartbeats 1000000 in
theorem isWord_c2 (s : ByteArray) (w : World) (h30 : s.size ≤ 30) :
    Calls Try.prog 58 #[.int .i64 2, .string s] w fun e w' => e = .returned (.bool (wordB 2 s.data.toList)) ∧ Below w.heap.size w w' := by
  have h30' : decide ((30 : Int) < s.size) = false := by simp; omega
  go_enter Try.func58, Try.ntmps58
  go_wp2_with fail
  go_loopw [11] (fun i wr => ∃ k : Nat, k ≤ s.size ∧ i = .int .i64 k ∧ (s.data.toList.take k).all (okL 2) = true ∧ Below w.heap.size w wr) (fun i _ => s.size - (intOf i).toNat)
  case atStart => exact ⟨0, Nat.zero_le _, rfl, rfl, Below.refl _ _⟩
  case round =>
    obtain ⟨k, hk, rfl, hall, hb⟩ := hrel
    by_cases hlt : k < s.size
    · have HA := Lib.hid hall
      clear hall
      go_wp2_with fail
      go_quiet ((go_at_call 74; exact Calls.quiet_of_same (Try.strings_IndexByte _ _ _)))
      go_wp2
      · have h1 := (okL_2 s[k]).1 (by assumption)
        go_ret
        exact ⟨ret_bool (wordB_bad 2 s k hlt h1).symm, ⟨hb.os, hb.tape, hb.output, hb.size, hb.block⟩⟩
      · have h1 := (okL_2 s[k]).2 (by assumption)
        go_roundw
        case rel => exact ⟨k + 1, by omega, by go_num, all_snoc s k hlt HA.out h1, ⟨hb.os, hb.tape, hb.output, hb.size, hb.block⟩⟩
        case measure => simp [intOf]; omega
    · go_wp2
      go_ret
      exact ⟨ret_bool (wordB_ok 2 s h30 (by rwa [List.take_of_length_le (by simp; omega)] at hall)).symm, hb⟩

set_option maxHeartbeats 400000 in
theorem isWord_c (g : Int) (hg : g = 1 ∨ g = 2) (s : ByteArray) (w : World) (hs : s.size ≤ maxLen) :
    Calls Try.prog 58 #[.int .i64 g, .string s] w fun e w' => e = .returned (.bool (wordB g s.data.toList)) ∧ Below w.heap.size w w' := by
  by_cases h30 : s.size ≤ 30
  · rcases hg with rfl | rfl
    · exact isWord_c1 s w h30
    · exact isWord_c2 s w h30
  · unfold maxLen at hs
    go_enter Try.func58, Try.ntmps58
    go_wp2
    go_ret
    exact ⟨ret_bool (by simp [wordB]; omega), Below.refl _ _⟩
end Go.Proofs.Ytikedhkibdeheaa
