/- The walks of sort.Search, Floor and of the reference's root and floor. -/
import Derived.Test.YtahkoihlpkaohaaDoorVd
namespace Go.Proofs.YtahkoihlpkaohaaDoor
open Go.RowKit
set_option linter.unusedVariables false
set_option linter.unusedSimpArgs false

/-- sort.Search over a function that may draw and make memory. -/
theorem search_c (g : Nat) (cb : Array Value) (n c : Nat) (hn : n ≤ 6000000) (hc : c ≤ n) (w : World) (eg : ∀ args w, (callFunc g args).run Tryd.prog w = .ok (.enter g args) w)
    (hf : ∀ (i : Nat) (W : World), i < n → Keeps w W → Calls Tryd.prog g (#[.int .i64 i] ++ cb) W fun e w' => e = .returned (.bool (decide (c ≤ i))) ∧ Keeps W w') :
    Calls Tryd.prog 36 #[.int .i64 n, .func (.func g) #[] cb] w fun e w' => e = .returned (.int .i64 c) ∧ Keeps w w' := by
  have HF := Lib.hid hf
  clear hf
  go_enter Tryd.func36, Tryd.ntmps36
  go_wp2_with fail
  go_loopw [5, 6] (fun s5 s6 wr => ∃ lo hi : Nat, s5 = .int .i64 lo ∧ s6 = .int .i64 hi ∧ lo ≤ c ∧ c ≤ hi ∧ hi ≤ n ∧ Keeps w wr) (fun s5 s6 _ => (intOf s6).toNat - (intOf s5).toNat)
  case atStart => exact ⟨0, n, rfl, rfl, Nat.zero_le _, hc, Nat.le_refl _, Below.refl _ _⟩
  case round =>
    obtain ⟨lo, hi, rfl, rfl, h1, h2, h3, hk⟩ := hrel
    by_cases hlt : lo < hi
    · have hc' := HF.out ((lo + hi) / 2) wr (by omega) hk
      rw [show (((lo + hi) / 2 : Nat) : Int) = ((lo : Int) + (hi : Int)) / 2 by omega] at hc'
      by_cases hp : c ≤ (lo + hi) / 2
      · rw [decide_eq_true hp] at hc'
        have HP := Lib.hid hp
        clear hp
        go_wp2_with (go_at_fn g; refine hc'.mono ?_; rintro e w1 ⟨rfl, b1⟩)
        have hp := HP.out
        go_roundw
        case rel => exact ⟨lo, (lo + hi) / 2, rfl, by rw [show ((lo : Int) + (hi : Int)) / 2 = (((lo + hi) / 2 : Nat) : Int) by omega], h1, hp, by omega, Keeps.next hk b1⟩
        case measure => simp [intOf]; omega
      · rw [decide_eq_false hp] at hc'
        have HP := Lib.hid hp
        clear hp
        go_wp2_with (go_at_fn g; refine hc'.mono ?_; rintro e w1 ⟨rfl, b1⟩)
        have hp := HP.out
        go_roundw
        case rel => exact ⟨(lo + hi) / 2 + 1, hi, by rw [show ((lo : Int) + (hi : Int)) / 2 + 1 = (((lo + hi) / 2 + 1 : Nat) : Int) by omega], rfl, by omega, h2, h3, Keeps.next hk b1⟩
        case measure => simp [intOf]; omega
    · obtain rfl : lo = c := by omega
      go_wp2_with fail
      go_ret
      exact ⟨rfl, hk⟩

theorem closure_c (x : Int × Int) (b : Nat) (i : Nat) (W : World) (hx : sm2 1000000 x) (hi : i < 6000000) (hb : At W b 23 (gv x)) :
    Calls Tryd.prog 37 #[.int .i64 i, .pointer (some ⟨b, 0, none⟩)] W fun e w' => e = .returned (.bool (decide (sgn (x.1 - ((i : Int) - 3000000)) x.2 < 0))) ∧ Keeps W w' := by
  have s3 : sm2 3000000 ((i : Int) - 3000000, 0) := by unfold sm2 sm; simp only; omega
  have m1 := fun z => minus_v x ((i : Int) - 3000000, 0) (sm2_mono hx (by decide)) (sm2_mono s3 (by decide)) z
  have s1 := fun z => sign_v (minusG x ((i : Int) - 3000000, 0)) (sm2_mono (sm2_minus (sm2_mono hx (by decide)) s3) (by decide)) z
  have e1 : (minusG x ((i : Int) - 3000000, 0)).1 = x.1 - ((i : Int) - 3000000) := rfl
  have e2 : (minusG x ((i : Int) - 3000000, 0)).2 = x.2 := by unfold minusG; simp
  rw [e1, e2] at s1
  have q1 : IntKind.i64.wrap ((i : Int) - 3000000) = (i : Int) - 3000000 := IntWalk.i64_in _ (by omega)
  clear e1 e2 s3 hx
  generalize sgn (x.1 - ((i : Int) - 3000000)) x.2 = r at *
  generalize minusG x ((i : Int) - 3000000, 0) = m at *
  go_enter Tryd.func37, Tryd.ntmps37
  go_wp2_with (first
    | (refine load_row_w rfl 23 _ rfl b rfl 23 (gv x) _ _ hb Tryd.underlying23 rfl (sizeV _) ?_)
    | (go_at_call 28; refine (m1 _).mono ?_; rintro e w1 ⟨rfl, b1⟩)
    | (go_at_call 35; refine (s1 _).mono ?_; rintro e w2 ⟨rfl, b2⟩))
  go_ret
  exact ⟨rfl, Keeps.next b1 b2⟩

theorem root_ex (n : Nat) : ∃ r : Nat, r * r ≤ n ∧ n < (r + 1) * (r + 1) := by
  induction n with
  | zero => exact ⟨0, by decide, by decide⟩
  | succ n ih =>
    obtain ⟨r, h1, h2⟩ := ih
    by_cases h : n + 1 < (r + 1) * (r + 1)
    · exact ⟨r, by omega, h⟩
    · refine ⟨r + 1, by omega, ?_⟩
      have : (r + 1 + 1) * (r + 1 + 1) = (r + 1) * (r + 1) + (r + 1) + (r + 1) + 1 := by grind
      omega
/-- The floor of a + b w, by the root r of 5 b b. -/
def flr (a b : Int) (r : Nat) : Int := if b < 0 then a - (-b + r) / 2 - 1 else a + (b + r) / 2
theorem flr_sgn (a b j : Int) (r : Nat) (h1 : (r : Int) * r ≤ 5 * b * b) (h2 : 5 * b * b < ((r : Int) + 1) * (r + 1)) : sgn (a - j) b < 0 ↔ flr a b r < j := by
  rw [← refSgn_eq]
  have f5 := five_ne r b
  have hp : ∀ p : Int, (0 ≤ p → p ≤ r → p * p ≤ r * r) ∧ (p ≤ 0 → -p ≤ r → p * p ≤ r * r) ∧ (0 ≤ p → r + 1 ≤ p → ((r : Int) + 1) * (r + 1) ≤ p * p) ∧ (p ≤ 0 → r + 1 ≤ -p → ((r : Int) + 1) * (r + 1) ≤ p * p) := fun p =>
    ⟨fun h h' => Int.mul_le_mul h' h' h (by omega), fun h h' => by rw [← Int.neg_mul_neg p p]; exact Int.mul_le_mul h' h' (by omega) (by omega),
      fun h h' => Int.mul_le_mul h' h' (by omega) h, fun h h' => by rw [← Int.neg_mul_neg p p]; exact Int.mul_le_mul h' h' (by omega) (by omega)⟩
  have hp := hp (2 * (a - j) + b)
  unfold refSgn flr
  have zb : b = 0 → 5 * b * b = 0 := by rintro rfl; rfl
  have r0 : r = 0 ∨ 0 < (r : Int) * r := by
    rcases Nat.eq_zero_or_pos r with h | h
    · exact .inl h
    · exact .inr (Int.mul_pos (by omega) (by omega))
  have r1 : (r : Int) * r + r + r + 1 = ((r : Int) + 1) * (r + 1) := by grind
  generalize 5 * b * b = t at *
  generalize (r : Int) * r = s at *
  generalize ((r : Int) + 1) * (r + 1) = s1 at *
  generalize hpp : 2 * (a - j) + b = p at *
  generalize p * p = q at *
  (repeat' split) <;> omega
end Go.Proofs.YtahkoihlpkaohaaDoor
