/- The walks of slices.Compare and of the reference's Before. -/
import Derived.Test.YtodopdfjjgpdeaaWa
import Derived.Test.YtodopdfjjgpdeaaLi
namespace Go.Proofs.Ytodopdfjjgpdeaa
open Go.RowKit
set_option linter.unusedVariables false
set_option linter.unusedSimpArgs false

def cmpI (x y : Int) : Int := if x < y then -1 else if y < x then 1 else 0
set_option maxHeartbeats 400000 in
theorem isNaN_c (x : Int) (w : World) : Calls Try.prog 51 #[.int .i64 x] w fun e w' => e = .returned (.bool false) ∧ w = w' := by
  have hx : (x != x) = false := by simp
  clear hx
  go_enter Try.func51, Try.ntmps51
  go_wp2_with fail
  go_ret
  exact ⟨rfl, rfl⟩
set_option maxHeartbeats 400000 in
theorem cmpI_c (x y : Int) (w : World) : Calls Try.prog 43 #[.int .i64 x, .int .i64 y] w fun e w' => e = .returned (.int .i64 (cmpI x y)) ∧ w = w' := by
  by_cases h1 : x < y
  · have hc : cmpI x y = -1 := by unfold cmpI; rw [if_pos h1]
    rw [hc]
    clear hc
    go_enter Try.func43, Try.ntmps43
    go_wp2_with (go_at_call 51; refine (isNaN_c _ _).mono ?_; rintro e w1 ⟨rfl, rfl⟩)
    go_ret
    exact ⟨rfl, rfl⟩
  · have d1 : decide (x < y) = false := decide_eq_false h1
    by_cases h2 : y < x
    · have hc : cmpI x y = 1 := by unfold cmpI; rw [if_neg h1, if_pos h2]
      rw [hc]
      clear hc h1
      go_enter Try.func43, Try.ntmps43
      go_wp2_with (go_at_call 51; refine (isNaN_c _ _).mono ?_; rintro e w1 ⟨rfl, rfl⟩)
      go_ret
      exact ⟨rfl, rfl⟩
    · have hc : cmpI x y = 0 := by unfold cmpI; rw [if_neg h1, if_neg h2]
      have d2 : decide (y < x) = false := decide_eq_false h2
      rw [hc]
      clear hc h1 h2
      go_enter Try.func43, Try.ntmps43
      go_wp2_with (go_at_call 51; refine (isNaN_c _ _).mono ?_; rintro e w1 ⟨rfl, rfl⟩)
      go_ret
      exact ⟨rfl, rfl⟩
set_option maxHeartbeats 1000000 in
theorem compare_c (v v' : Value) (a b : List Int) (n : Nat) (hla : a.length = n) (hlb : b.length = n) (w : World) (ha : RdI w v a) (hb : RdI w v' b) :
    Calls Try.prog 24 #[v, v'] w fun e w' => e = .returned (.int .i64 (cmpL a b)) ∧ w = w' := by
  obtain ⟨A, c, rfl, hm, hcs⟩ := id ha
  obtain ⟨A', c', rfl, hm', hcs'⟩ := id hb
  rw [hla] at hm hcs ⊢
  rw [hlb] at hm' hcs' ⊢
  unfold maxLen at hm hm'
  have Hla := Lib.hid hla
  have Hlb := Lib.hid hlb
  clear hla hlb ha hb
  go_enter Try.func24, Try.ntmps24
  go_wp2_with fail
  go_loopw [11] (fun i wr => ∃ k : Nat, k ≤ n ∧ i = .int .i64 k ∧ (∀ j, j < k → nth a j = nth b j) ∧ wr = w) (fun i _ => n - (intOf i).toNat)
  case atStart => exact ⟨0, Nat.zero_le _, rfl, fun j hj => by omega, rfl⟩
  case round =>
    obtain ⟨k, hk, rfl, hall, rfl⟩ := hrel
    have Hall := Lib.hid hall
    clear hall
    by_cases hlt : k < n
    · obtain ⟨b0, off, u, rfl, hcell, rfl⟩ := hcs k hlt
      obtain ⟨b1, off1, u1, rfl, hcell1, rfl⟩ := hcs' k hlt
      clear hcs hcs'
      have d1 : decide (n ≤ k) = false := by simp; omega
      have dI : decide ((n : Int) ≤ k) = false := by simp; omega
      by_cases hx : nth a k = nth b k
      · have hc : cmpI (nth a k) (nth b k) = 0 := by unfold cmpI; rw [hx, if_neg (by omega), if_neg (by omega)]
        have hcc := fun x => cmpI_c (nth a k) (nth b k) x
        rw [hc] at hcc
        have Hx := Lib.hid hx
        clear hx hc
        go_wp2_with (go_at_call 43; refine (hcc _).mono ?_; rintro e w1 ⟨rfl, rfl⟩)
        go_roundw
        case rel => exact ⟨k + 1, by omega, by go_num, fun j hj => (by
          by_cases h : j < k
          · exact Hall.out j h
          · rw [show j = k by omega]; exact Hx.out), by first | trivial | rfl⟩
        case measure => simp [intOf]; omega
      · have hq := cmpL_at k a b (by rw [Hla.out]; exact hlt) (by rw [Hlb.out]; exact hlt) Hall.out hx
        have hcc := fun x => cmpI_c (nth a k) (nth b k) x
        by_cases hy : nth a k < nth b k
        · rw [if_pos hy] at hq
          unfold cmpI at hcc
          rw [if_pos hy] at hcc
          have Hq := Lib.hid hq
          clear hq hx hy
          go_wp2_with (go_at_call 43; refine (hcc _).mono ?_; rintro e w1 ⟨rfl, rfl⟩)
          go_ret
          exact ⟨by rw [Hq.out]; rfl, rfl⟩
        · rw [if_neg hy] at hq
          unfold cmpI at hcc
          rw [if_neg hy, if_pos (by omega)] at hcc
          have Hq := Lib.hid hq
          clear hq hx hy
          go_wp2_with (go_at_call 43; refine (hcc _).mono ?_; rintro e w1 ⟨rfl, rfl⟩)
          go_ret
          exact ⟨by rw [Hq.out]; rfl, rfl⟩
    · obtain rfl : k = n := by omega
      have hq := cmpL_same a b (by rw [Hla.out, Hlb.out]) (fun j hj => Hall.out j (by rw [Hla.out] at hj; exact hj))
      have Hq := Lib.hid hq
      clear hq hcs hcs'
      go_wp2_with fail
      go_ret
      exact ⟨by rw [Hq.out]; rfl, rfl⟩
set_option maxHeartbeats 1000000 in
theorem before_c (v v' : Value) (a b : List Int) (n : Nat) (hla : a.length = n) (hlb : b.length = n) (w : World) (ha : RdI w v a) (hb : RdI w v' b) :
    Calls Try.prog 11 #[v, v'] w fun e w' => e = .returned (.bool (lowB a b)) ∧ ∃ m, w' = w.drewN m := by
  obtain ⟨A, c, rfl, hm, hcs⟩ := id ha
  obtain ⟨A', c', rfl, hm', hcs'⟩ := id hb
  rw [hla] at hm hcs ⊢
  rw [hlb] at hm' hcs' ⊢
  unfold maxLen at hm hm'
  have Hla := Lib.hid hla
  have Hlb := Lib.hid hlb
  clear hla hlb ha hb
  go_enter Try.func11, Try.ntmps11
  go_wp2_with fail
  go_loopw [5] (fun i wr => ∃ k : Nat, k ≤ n ∧ i = .int .i64 k ∧ (∀ j, j < k → nth a j = nth b j) ∧ ∃ m, wr = w.drewN m) (fun i _ => n - (intOf i).toNat)
  case atStart => exact ⟨0, Nat.zero_le _, rfl, fun j hj => by omega, 0, rfl⟩
  case round =>
    obtain ⟨k, hk, rfl, hall, m, rfl⟩ := hrel
    have Hall := Lib.hid hall
    clear hall
    by_cases hlt : k < n
    · obtain ⟨b0, off, u, rfl, hcell, rfl⟩ := hcs k hlt
      obtain ⟨b1, off1, u1, rfl, hcell1, rfl⟩ := hcs' k hlt
      clear hcs hcs'
      by_cases hx : nth a k = nth b k
      · have hxn : (nth a k != nth b k) = false := by simp [hx]
        have Hx := Lib.hid hx
        clear hx
        go_wp2_with fail
        go_quiet (fail)
        go_wp2_with fail
        go_roundw
        case rel => exact ⟨k + 1, by omega, by go_num, fun j hj => (by
          by_cases h : j < k
          · exact Hall.out j h
          · rw [show j = k by omega]; exact Hx.out), m + nq, by first | rfl | exact World.drewN_drewN _ _ _⟩
        case measure => simp [intOf]; omega
      · have hq := cmpL_at k a b (by rw [Hla.out]; exact hlt) (by rw [Hlb.out]; exact hlt) Hall.out hx
        have hxn : (nth a k != nth b k) = true := by simpa using hx
        have hF : lowB a b = decide (nth a k < nth b k) := by
          unfold lowB
          rw [hq]
          by_cases hy : nth a k < nth b k
          · rw [if_pos hy, decide_eq_true hy]; rfl
          · rw [if_neg hy, decide_eq_false hy]; rfl
        have HF := Lib.hid hF
        clear hq hx hF
        go_wp2_with fail
        go_quiet (fail)
        go_wp2_with fail
        obtain ⟨W, hW⟩ : ∃ W, (w.drewN m).drewN nq = W := ⟨_, rfl⟩
        rw [hW]
        have g1 : W.cell? ⟨b0, off + k, none⟩ = some (.int .i64 (nth a k)) := by rw [← hW]; simpa using hcell
        have g2 : W.cell? ⟨b1, off1 + k, none⟩ = some (.int .i64 (nth b k)) := by rw [← hW]; simpa using hcell1
        have HW : ∃ m', w.drewN m' = W := ⟨m + nq, by rw [← hW, World.drewN_drewN]⟩
        clear hW hxn hcell hcell1
        go_quiet (fail)
        go_wp2_with fail
        go_ret
        obtain ⟨m', hm'⟩ := HW
        exact ⟨by rw [HF.out]; rfl, m' + nq, by rw [← hm', World.drewN_drewN]⟩
    · obtain rfl : k = n := by omega
      have hq := cmpL_same a b (by rw [Hla.out, Hlb.out]) (fun j hj => Hall.out j (by rw [Hla.out] at hj; exact hj))
      have hF : lowB a b = false := by unfold lowB; rw [hq]; rfl
      have HF := Lib.hid hF
      clear hq hF hcs hcs'
      go_wp2_with fail
      go_ret
      exact ⟨by rw [HF.out]; rfl, m, rfl⟩
end Go.Proofs.Ytodopdfjjgpdeaa
