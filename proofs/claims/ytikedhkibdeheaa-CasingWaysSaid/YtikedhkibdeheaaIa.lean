/- The reference's letters and inverses. -/
import Derived.Test.YtikedhkibdeheaaGa
import Derived.Test.YtikedhkibdeheaaCa
namespace Go.Proofs.Ytikedhkibdeheaa
open Go.RowKit

theorem okL_yes_a (g : Int) : okL g 97 = true := by simp [okL]
theorem okL_yes_A (g : Int) : okL g 65 = true := by simp [okL]

set_option maxHeartbeats 1000000 in
theorem letter_c (c : UInt8) (g : Int) (w : World) :
    Calls Try.prog 40 #[.int .u8 c.toNat, .int .i64 g] w fun e w' => ∃ n b, e = .returned (.tuple #[.int .i64 n, .bool b, .bool (okL g c)]) ∧ w' = w := by
  by_cases e97 : c = 97
  · subst e97
    rw [okL_yes_a]
    go_enter Try.func40, Try.ntmps40
    go_wp2
    exact bodyPost_ret (results_tmp3 (t := 4) (u := 5) (v := 6) (by rfl) _ _ _) rfl ⟨_, _, rfl, rfl⟩
  · by_cases e65 : c = 65
    · subst e65
      rw [okL_yes_A]
      go_enter Try.func40, Try.ntmps40
      go_wp2
      exact bodyPost_ret (results_tmp3 (t := 4) (u := 5) (v := 6) (by rfl) _ _ _) rfl ⟨_, _, rfl, rfl⟩
    · by_cases e98 : c = 98
      · subst e98
        by_cases h2 : g = 2
        · subst h2
          go_enter Try.func40, Try.ntmps40
          go_wp2
          exact bodyPost_ret (results_tmp3 (t := 4) (u := 5) (v := 6) (by rfl) _ _ _) rfl ⟨_, _, rfl, rfl⟩
        · have hk : okL g 98 = false := by simp [okL, h2]
          have h2' : (g == 2) = false := by simpa using h2
          rw [hk]
          go_enter Try.func40, Try.ntmps40
          go_wp2
          exact bodyPost_ret (results_tmp3 (t := 4) (u := 5) (v := 6) (by rfl) _ _ _) rfl ⟨_, _, rfl, rfl⟩
      · by_cases e66 : c = 66
        · subst e66
          by_cases h2 : g = 2
          · subst h2
            go_enter Try.func40, Try.ntmps40
            go_wp2
            exact bodyPost_ret (results_tmp3 (t := 4) (u := 5) (v := 6) (by rfl) _ _ _) rfl ⟨_, _, rfl, rfl⟩
          · have hk : okL g 66 = false := by simp [okL, h2]
            have h2' : (g == 2) = false := by simpa using h2
            rw [hk]
            go_enter Try.func40, Try.ntmps40
            go_wp2
            exact bodyPost_ret (results_tmp3 (t := 4) (u := 5) (v := 6) (by rfl) _ _ _) rfl ⟨_, _, rfl, rfl⟩
        · have hk : okL g c = false := by simp [okL, e97, e65, e98, e66]
          rw [hk]
          have b97 : ((c.toNat : Int) == 97) = false := byte_ne _ 97 _ rfl e97
          have b65 : ((c.toNat : Int) == 65) = false := byte_ne _ 65 _ rfl e65
          have b98 : ((c.toNat : Int) == 98) = false := byte_ne _ 98 _ rfl e98
          have b66 : ((c.toNat : Int) == 66) = false := byte_ne _ 66 _ rfl e66
          clear hk e97 e65 e98 e66
          go_enter Try.func40, Try.ntmps40
          go_wp2
          exact bodyPost_ret (results_tmp3 (t := 4) (u := 5) (v := 6) (by rfl) _ _ _) rfl ⟨_, _, rfl, rfl⟩

set_option maxHeartbeats 400000 in
theorem rinverse_c (c : UInt8) (hc : okL 2 c = true) (w : World) :
    Calls Try.prog 34 #[.int .u8 c.toNat] w fun e w' => e = .returned (.int .u8 (opp c).toNat) ∧ w' = w := by
  rcases okL_four c hc with rfl | rfl | rfl | rfl
  all_goals
    go_enter Try.func34, Try.ntmps34
    go_wp2
    go_ret
    exact ⟨rfl, rfl⟩
end Go.Proofs.Ytikedhkibdeheaa
