/- awake answers true. -/
import Derived.Test.YtfekggmdhmkemaaDoorGp
import Derived.Test.YtfekggmdhmkemaaDoorGf
import Derived.Test.YtfekggmdhmkemaaDoorGh
namespace Go.Proofs.YtfekggmdhmkemaaDoor
open Go.RowKit
set_option linter.unusedVariables false
set_option linter.unusedSimpArgs false

set_option maxRecDepth 100000 in
theorem ev_text : textG (3, 0) = [49, 48, 48, 46, 48, 49] ∧ 0 ≤ sgn 3 0 := by decide +kernel
set_option maxRecDepth 100000 in
theorem ev_plain : valG (digL [49, 49] []) = (1, 1) := by decide +kernel
set_option maxRecDepth 100000 in
theorem ev_plain2 : textG (1, 1) = [49, 48, 48] := by decide +kernel
set_option maxRecDepth 100000 in
theorem ev_gaps : gapsL 5 = [76, 83, 76, 76, 83] := by decide +kernel
set_option maxRecDepth 100000 in
theorem ev_div : divQ (5, 0) (2, 0) = (2, 0) ∧ divR (5, 0) (2, 0) = (1, 0) ∧ normG (2, 0) ≠ 0 := by decide +kernel
set_option maxHeartbeats 2000000 in
set_option maxRecDepth 100000 in
theorem awake_c (w : World) : Calls Tryd.prog 12 #[] w fun e w' => e = .returned (.bool true) ∧ Keeps w w' := by
  have t1 : ∀ z, Calls Tryd.prog 26 #[.agg #[.int .i64 3, .int .i64 0]] z fun e w' => e = .returned (.tuple #[.string ⟨#[49, 48, 48, 46, 48, 49]⟩, .int .i64 0]) ∧ Keeps z w' := fun z => by
    have := Text_yes (3, 0) (by decide) ev_text.2 z
    rwa [ev_text.1] at this
  have t2 : ∀ z, Calls Tryd.prog 10 #[.string ⟨#[49, 49]⟩] z fun e w' => e = .returned (.tuple #[.string ⟨#[49, 48, 48]⟩, .int .i64 0]) ∧ Keeps z w' := fun z => by
    have := Plain_one [49, 49] (fun c hc => by simp at hc; exact .inr (.inl hc)) (by decide) (by decide) (by rw [ev_plain]; decide) z
    rwa [ev_plain, ev_plain2] at this
  have t3 : ∀ z, Calls Tryd.prog 27 #[.int .i64 5] z fun e w' => e = .returned (.tuple #[.string ⟨#[76, 83, 76, 76, 83]⟩, .int .i64 0]) ∧ Keeps z w' := fun z => by
    have := gaps_yes 5 (by decide) z
    rwa [ev_gaps] at this
  have t4 : ∀ z, Calls Tryd.prog 28 #[.agg #[.int .i64 5, .int .i64 0], .agg #[.int .i64 2, .int .i64 0]] z fun e w' => e = .returned (.tuple #[.agg #[.int .i64 2, .int .i64 0], .agg #[.int .i64 1, .int .i64 0], .int .i64 0]) ∧ Keeps z w' := fun z => by
    have := divide_ok (5, 0) (2, 0) (by decide) (by decide) (by decide) ev_div.2.2 (by rw [ev_div.1]; decide) (by rw [ev_div.2.1]; decide) z
    rwa [ev_div.1, ev_div.2.1] at this
  go_enter Tryd.func12, Tryd.ntmps12
  go_wp2_with (first
    | (go_at_call 26; refine (t1 _).mono ?_; rintro e w1 ⟨rfl, b1⟩)
    | (go_at_call 10; refine (t2 _).mono ?_; rintro e w2 ⟨rfl, b2⟩)
    | (go_at_call 27; refine (t3 _).mono ?_; rintro e w3 ⟨rfl, b3⟩)
    | (go_at_call 28; refine (t4 _).mono ?_; rintro e w4 ⟨rfl, b4⟩))
  go_ret
  exact ⟨rfl, Keeps.alloc (Keeps.alloc (Keeps.next (Keeps.next (Keeps.next b1 b2) b3) b4) _) _⟩
end Go.Proofs.YtfekggmdhmkemaaDoor
