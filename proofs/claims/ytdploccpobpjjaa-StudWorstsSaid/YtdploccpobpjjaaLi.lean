/- The comparison of the law: ints. -/
import Derived.Test.YtdploccpobpjjaaSa
import Derived.Deep.QuietTactic
import Derived.BigQuiet
namespace Go.Proofs.Ytdploccpobpjjaa
open Go.RowKit

theorem nth_ext' (l l' : List Int) (h : l.length = l'.length) (hn : ∀ k, k < l.length → nth l k = nth l' k) : l = l' := by
  apply List.ext_getElem h
  intro k h1 h2
  have := hn k h1
  simpa [nth, List.getElem?_eq_getElem h1, List.getElem?_eq_getElem h2] using this

set_option maxHeartbeats 1000000 in
theorem ints_c (v v' : Value) (a b : List Int) (w : World) (ha : RdI w v a) (hb : RdI w v' b) :
    Calls Try.prog 15 #[v, v'] w fun e w' => e = .returned (.bool (decide (a = b))) ∧ ∃ m, w' = w.drewN m := by
  obtain ⟨A, c, rfl, hm, hcs⟩ := id ha
  obtain ⟨A', c', rfl, hm', hcs'⟩ := id hb
  unfold maxLen at hm hm'
  by_cases hl : a.length = b.length
  · have hne : ((a.length : Int) != (b.length : Int)) = false := by simp [hl]
    have Hl := Lib.hid hl
    clear hl
    go_enter Try.func15, Try.ntmps15
    go_wp2_with fail
    go_loopw [5] (fun i wr => ∃ k : Nat, k ≤ a.length ∧ i = .int .i64 k ∧ (∀ j, j < k → nth a j = nth b j) ∧ ∃ m, wr = w.drewN m) (fun i _ => a.length - (intOf i).toNat)
    case atStart => exact ⟨0, Nat.zero_le _, rfl, fun j hj => by omega, 0, rfl⟩
    case round =>
      obtain ⟨k, hk, rfl, hall, m, rfl⟩ := hrel
      by_cases hlt : k < a.length
      · obtain ⟨b0, off, u, rfl, hcell, rfl⟩ := hcs k hlt
        obtain ⟨b1, off1, u1, rfl, hcell1, rfl⟩ := hcs' k (by rw [← Hl.out]; exact hlt)
        have hlt' : k < b.length := by rw [← Hl.out]; exact hlt
        clear hcs hcs' ha hb
        have Hall := Lib.hid hall
        clear hall
        by_cases hx : nth a k = nth b k
        · have hxn : (nth a k != nth b k) = false := by simp [hx]
          have Hx := Lib.hid hx
          clear hx
          go_wp2_with fail
          go_quiet (fail)
          go_wp2_with fail
          go_roundw
          case rel => exact ⟨k + 1, by omega, by go_num, fun j hj => (by
            by_cases h : j < k
            · exact Hall.out j h
            · rw [show j = k by omega]; exact Hx.out), m + nq, rfl⟩
          case measure => simp [intOf]; omega
        · have hxn : (nth a k != nth b k) = true := by simpa using hx
          have Hx := Lib.hid hx
          clear hx
          go_wp2_with fail
          go_quiet (fail)
          go_wp2_with fail
          go_ret
          exact ⟨ret_bool (by symm; rw [decide_eq_false_iff_not]; intro e; exact Hx.out (by rw [e])), m + nq, World.drewN_drewN _ _ _⟩
      · have hkl : k = a.length := by omega
        have Hk := Lib.hid hkl
        have Hall := Lib.hid hall
        clear hkl hall
        go_wp2_with fail
        go_ret
        exact ⟨ret_bool (by symm; rw [decide_eq_true_iff]; exact nth_ext' a b Hl.out (fun j hj => Hall.out j (by rw [Hk.out]; exact hj))), m, rfl⟩
  · have hne : ((a.length : Int) != (b.length : Int)) = true := by simp; omega
    have Hl := Lib.hid hl
    clear hl
    go_enter Try.func15, Try.ntmps15
    go_wp2_with fail
    go_ret
    exact ⟨ret_bool (by symm; rw [decide_eq_false_iff_not]; intro e; exact Hl.out (by rw [e])), 0, rfl⟩
end Go.Proofs.Ytdploccpobpjjaa
