/- The law of Reduce. -/
import Derived.Test.YtfaogfcbppojoaaIc
import Derived.Test.YtfaogfcbppojoaaHd
namespace Go.Proofs.Ytfaogfcbppojoaa
open Go.RowKit

theorem brief_size (s : ByteArray) : (briefS s).size ≤ 31 := by
  unfold briefS
  rw [ByteArray.size_extract]
  omega
set_option maxHeartbeats 1000000 in
theorem law_reduces (g : Int) (s : ByteArray) (hm : s.size ≤ maxLen) (w : World) :
    Calls Try.prog 3 #[.int .i64 g, .string s] w fun e w' => e = .returned (.bool true) ∧ Keeps w w' := by
  have hbr := fun x => brief_c s hm x
  have hb31 := brief_size s
  generalize briefS s = b at *
  have hbm : b.size ≤ maxLen := by unfold maxLen; omega
  by_cases h : redB g b = true
  · have hwd := fun x => rword_c g b hbm x
    have hrd := fun x => reduce_yes g b h x
    rw [h] at hwd
    have hok : b.data.toList.all (okL 2) = true := by
      simp only [redB, wordB, Bool.and_eq_true] at h
      have := h.2.2
      rw [List.all_eq_true] at this ⊢
      exact fun x hx => okL_two g x (this x hx)
    have hrr := fun x => rreduce_c b hok (by omega) x
    clear h hok
    go_enter Try.func3, Try.ntmps3
    go_wp2_with (
      first
      | (go_at_call 7; refine (hbr _).mono ?_; rintro e w1 ⟨rfl, rfl⟩)
      | (go_at_call 8; refine (hrd _).mono ?_; rintro e w2 ⟨rfl, hb2⟩)
      | (go_at_call 9; refine (hwd _).mono ?_; rintro e w3 ⟨rfl, rfl⟩)
      | (go_at_call 11; refine (hrr _).mono ?_; rintro e w4 ⟨rfl, hb4⟩)
      | (go_at_call 10; refine (awake_c _).mono ?_; rintro e w5 ⟨rfl, hb5⟩))
    go_ret
    exact ⟨rfl, Keeps.next (Keeps.next hb2 hb4) hb5⟩
  · have h' : redB g b = false := by simpa using h
    have hwd := fun x => rword_c g b hbm x
    have hrd := fun x => reduce_no g b hbm h' x
    rw [h'] at hwd
    clear h h'
    go_enter Try.func3, Try.ntmps3
    go_wp2_with (
      first
      | (go_at_call 7; refine (hbr _).mono ?_; rintro e w1 ⟨rfl, rfl⟩)
      | (go_at_call 8; refine (hrd _).mono ?_; rintro e w2 ⟨rfl, hb2⟩)
      | (go_at_call 9; refine (hwd _).mono ?_; rintro e w3 ⟨rfl, rfl⟩)
      | (go_at_call 10; refine (awake_c _).mono ?_; rintro e w5 ⟨rfl, hb5⟩))
    go_ret
    exact ⟨rfl, Keeps.next hb2 hb5⟩
end Go.Proofs.Ytfaogfcbppojoaa
