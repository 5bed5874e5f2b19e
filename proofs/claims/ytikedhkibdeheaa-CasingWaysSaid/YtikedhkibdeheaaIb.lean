/- The reference's Word, the law's brief. -/
import Derived.Test.YtikedhkibdeheaaIa
import Derived.Test.YtikedhkibdeheaaHe
namespace Go.Proofs.Ytikedhkibdeheaa
open Go.RowKit

theorem letter_c' (c : UInt8) (g : Int) (b : Bool) (hb : okL g c = b) (w : World) :
    Calls Try.prog 40 #[.int .u8 c.toNat, .int .i64 g] w fun e w' => ∃ n q, e = .returned (.tuple #[.int .i64 n, .bool q, .bool b]) ∧ w' = w := by
  subst hb; exact letter_c c g w

set_option maxHeartbeats 1000000 in
theorem rword_c (g : Int) (s : ByteArray) (hm : s.size ≤ maxLen) (w : World) :
    Calls Try.prog 43 #[.int .i64 g, .string s] w fun e w' => e = .returned (.bool (redB g s)) ∧ w' = w := by
  unfold maxLen at hm
  have Hred := Lib.hid (show redB g s = (lettersB g && wordB g s.data.toList) from rfl)
  go_enter Try.func43, Try.ntmps43
  go_wp2_with fail
  go_loopw [5] (fun i wr => ∃ k : Nat, k ≤ s.size ∧ i = .int .i64 k ∧ (s.data.toList.take k).all (okL g) = true ∧ wr = w) (fun i _ => s.size - (intOf i).toNat)
  case atStart => exact ⟨0, Nat.zero_le _, rfl, rfl, rfl⟩
  case round =>
    obtain ⟨k, hk, rfl, hall, rfl⟩ := hrel
    have HA := Lib.hid hall
    clear hall
    by_cases hlt : k < s.size
    · by_cases hok : okL g s[k] = true
      · have Hok := Lib.hid hok
        clear hok
        go_wp2_with (go_at_call 40; refine (letter_c' _ g true Hok.out _).mono ?_; rintro e w1 ⟨n, q, rfl, rfl⟩)
        go_roundw
        case rel => exact ⟨k + 1, by omega, by go_num, all_snoc s k hlt HA.out Hok.out, by trivial⟩
        case measure => simp [intOf]; omega
      · have hok' : okL g s[k] = false := by simpa using hok
        have Hok := Lib.hid hok'
        clear hok hok'
        go_wp2_with (go_at_call 40; refine (letter_c' _ g false Hok.out _).mono ?_; rintro e w1 ⟨n, q, rfl, rfl⟩)
        go_ret
        exact ⟨ret_bool (by rw [Hred.out, wordB_bad g s k hlt Hok.out, Bool.and_false]), rfl⟩
    · have hkl : k = s.size := by omega
      have Hall := Lib.hid (show s.data.toList.all (okL g) = true from by have := HA.out; rwa [List.take_of_length_le (by rw [hkl]; exact Nat.le_of_eq Array.length_toList)] at this)
      by_cases h1 : g = 1 ∨ g = 2
      · have Hl := Lib.hid (show lettersB g = true from by simpa [lettersB] using h1)
        by_cases h30 : s.size ≤ 30
        · have hd : decide ((s.size : Int) ≤ 30) = true := by simp; omega
          have Hw := Lib.hid (show redB g s = true from by rw [Hred.out, Hl.out, wordB_ok g s h30 Hall.out]; rfl)
          rcases h1 with rfl | rfl
          all_goals
            go_wp2_with fail
            go_ret
            exact ⟨ret_bool Hw.out.symm, rfl⟩
        · have hd : decide ((s.size : Int) ≤ 30) = false := by simp; omega
          have Hw := Lib.hid (show redB g s = false from by
            rw [Hred.out, wordB, show decide (s.data.toList.length ≤ 30) = false by rw [decide_eq_false_iff_not, Array.length_toList]; exact h30]; simp)
          rcases h1 with rfl | rfl
          all_goals
            go_wp2_with fail
            go_ret
            exact ⟨ret_bool Hw.out.symm, rfl⟩
      · have Hw := Lib.hid (show redB g s = false from by rw [Hred.out, show lettersB g = false by simpa [lettersB] using h1]; rfl)
        have e1 : (g == 1) = false := by simp; omega
        have e2 : (g == 2) = false := by simp; omega
        clear h1
        go_wp2_with fail
        go_ret
        exact ⟨ret_bool Hw.out.symm, rfl⟩
def briefS (s : ByteArray) : ByteArray := s.extract 0 (min (s.size : Int) 31).toNat

set_option maxHeartbeats 400000 in
theorem brief_c (s : ByteArray) (hm : s.size ≤ maxLen) (w : World) :
    Calls Try.prog 41 #[.string s] w fun e w' => e = .returned (.string (briefS s)) ∧ w' = w := by
  unfold maxLen at hm
  go_enter Try.func41, Try.ntmps41
  go_wp2_with fail
  go_ret
  exact ⟨rfl, rfl⟩
end Go.Proofs.Ytikedhkibdeheaa
