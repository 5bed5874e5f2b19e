/- The reference's Prime, Power, Root, Roots, Powers, Logs. -/
import Derived.Test.YtodopdfjjgpdeaaSi
namespace Go.Proofs.Ytodopdfjjgpdeaa
open Go.RowKit Go.Shelf
set_option linter.unusedVariables false

set_option maxHeartbeats 1000000 in
set_option maxRecDepth 100000 in
theorem rpower_c (p g n : Nat) (hp3 : 3 ≤ p) (hp : p ≤ 17) (hg : g < p) (hn : n ≤ 100) (w : World) :
    Calls Try.prog 54 #[.int .i64 p, .int .i64 g, .int .i64 n] w fun e w' => e = .returned (.int .i64 (pwr p g n)) ∧ w = w' := by
  go_enter Try.func54, Try.ntmps54
  go_wp2_with fail
  go_loop [7, 8] (fun x i => ∃ k : Nat, k ≤ n ∧ i = .int .i64 k ∧ x = .int .i64 (pwr p g k)) (fun _ i => n - (intOf i).toNat)
  case atStart => exact ⟨0, Nat.zero_le _, rfl, rfl⟩
  case round =>
    obtain ⟨k, hk, rfl, rfl⟩ := hrel
    by_cases hlt : k < n
    · have hpl := pwr_lt p g (by omega) k
      have hstep := Lib.hid (show ((pwr p g (k + 1) : Nat) : Int) = (pwr p g k : Int) * (g : Int) % (p : Int) by rw [pwr]; simp)
      have hmul : pwr p g k * g ≤ 17 * 17 := Nat.mul_le_mul (by omega) (by omega)
      generalize pwr p g k = x at *
      have hmi : (x : Int) * (g : Int) ≤ 289 := by
        have : ((x * g : Nat) : Int) ≤ 289 := by exact_mod_cast hmul
        rwa [Int.natCast_mul] at this
      have hm0 : 0 ≤ (x : Int) * (g : Int) := by
        have : (0 : Int) ≤ ((x * g : Nat) : Int) := by omega
        rwa [Int.natCast_mul] at this
      clear hmul
      go_wp2_with fail
      go_round
      case rel => exact ⟨k + 1, by omega, by go_num, by rw [hstep.out]⟩
      case measure => simp [intOf]; omega
    · have hke : k = n := by omega
      have Hke := Lib.hid hke
      clear hke
      go_wp2_with fail
      go_ret
      exact ⟨by rw [Hke.out]; rfl, rfl⟩

/-- The first power that leaves 1. -/
theorem ord_ev : ((List.range 18).all fun p => !primeB p || (List.range p).all fun g => decide (g = 0) || (List.range p).any fun m => decide (1 ≤ m) && (decide (pwr p g m = 1) && (((List.range m).all fun j => decide (j = 0) || decide (pwr p g j ≠ 1)) && (decide (m = p - 1) == rootB p g)))) = true := by decide +kernel
theorem ord_of (p g : Nat) (hp : primeB p = true) (h1 : 1 ≤ g) (hg : g < p) : ∃ m, 1 ≤ m ∧ m < p ∧ pwr p g m = 1 ∧ (∀ j, 1 ≤ j → j < m → pwr p g j ≠ 1) ∧ decide (m = p - 1) = rootB p g := by
  have hp17 : 3 ≤ p ∧ p ≤ 17 := by simp [primeB] at hp; omega
  have h2 := List.all_eq_true.1 ord_ev p (List.mem_range.2 (by omega))
  rw [hp, Bool.not_true, Bool.false_or] at h2
  have h3 := List.all_eq_true.1 h2 g (List.mem_range.2 hg)
  simp only [Bool.or_eq_true, decide_eq_true_eq] at h3
  obtain ⟨m, hm, hc⟩ := List.any_eq_true.1 (h3.resolve_left (by omega))
  simp only [Bool.and_eq_true, decide_eq_true_eq, beq_iff_eq] at hc
  refine ⟨m, hc.1, List.mem_range.1 hm, hc.2.1, fun j hj hjm => ?_, hc.2.2.2⟩
  have := List.all_eq_true.1 hc.2.2.1 j (List.mem_range.2 hjm)
  simp only [Bool.or_eq_true, decide_eq_true_eq] at this
  exact this.resolve_left (by omega)
set_option maxHeartbeats 1000000 in
theorem rroot_c (p : Nat) (g : Int) (hp : primeB p = true) (w : World) :
    Calls Try.prog 48 #[.int .i64 p, .int .i64 g] w fun e w' => e = .returned (.bool (rootB p g)) ∧ w = w' := by
  have hp17 : 3 ≤ p ∧ p ≤ 17 := by simp [primeB] at hp; omega
  by_cases h : 1 ≤ g ∧ g < p
  · obtain ⟨n, rfl⟩ := Int.eq_ofNat_of_zero_le (show 0 ≤ g by omega)
    obtain ⟨m, m1, m2, m3, m4, m5⟩ := ord_of p n hp (by omega) (by omega)
    rw [← m5]
    have hpo := fun k hk x => rpower_c p n k hp17.1 hp17.2 (by omega) hk x
    have M3 := Lib.hid m3
    have M4 := Lib.hid m4
    obtain ⟨p3, p17⟩ := hp17
    obtain ⟨n1, n2⟩ := h
    have d1 : decide ((n : Int) < 1) = false := by simp; omega
    have d2 : decide ((p : Int) ≤ n) = false := by simp; omega
    have d3 : decide (p ≤ n) = false := by simp; omega
    clear hp m3 m4 m5
    go_enter Try.func48, Try.ntmps48
    go_wp2_with fail
    go_loop [5] (fun i => ∃ k : Nat, 1 ≤ k ∧ k ≤ m ∧ i = .int .i64 k) (fun i => m - (intOf i).toNat)
    case atStart => exact ⟨1, by omega, by omega, rfl⟩
    case round =>
      obtain ⟨k, hk1, hk, rfl⟩ := hrel
      have hpk := fun x => hpo k (by omega) x
      by_cases hlt : k < m
      · have hne := M4.out k hk1 hlt
        have hne2 : ((pwr p n k : Int) != 1) = true := by simp; omega
        generalize pwr p n k = y at *
        clear hne
        go_wp2_with (go_at_call 54; refine (hpk _).mono ?_; rintro e w1 ⟨rfl, rfl⟩)
        go_round
        case rel => exact ⟨k + 1, by omega, by omega, by go_num⟩
        case measure => simp [intOf]; omega
      · have hke : k = m := by omega
        have hy : ((pwr p n k : Int) != 1) = false := by rw [hke, M3.out]; rfl
        have Hke := Lib.hid hke
        generalize pwr p n k = y at *
        clear hke
        go_wp2_with (go_at_call 54; refine (hpk _).mono ?_; rintro e w1 ⟨rfl, rfl⟩)
        go_ret
        refine ⟨ret_bool ?_, rfl⟩
        rw [Hke.out, Bool.eq_iff_iff]
        simp
        omega
  · have hr : rootB p g = false := by rw [rootB, decide_eq_false h]; rfl
    rw [hr]
    clear hr
    by_cases h1 : g < 1
    · clear h
      go_enter Try.func48, Try.ntmps48
      go_wp2_with fail
      go_ret
      exact ⟨rfl, rfl⟩
    · have h2 : (p : Int) ≤ g := by omega
      have hd : decide (g < 1) = false := by simpa using h1
      clear h
      go_enter Try.func48, Try.ntmps48
      go_wp2_with fail
      go_ret
      exact ⟨rfl, rfl⟩
end Go.Proofs.Ytodopdfjjgpdeaa
