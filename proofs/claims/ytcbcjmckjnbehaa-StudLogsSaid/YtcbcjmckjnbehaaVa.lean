/- The laws StudRoots, StudPowers, StudLogs. -/
import Derived.Test.YtcbcjmckjnbehaaRb
import Derived.Test.YtcbcjmckjnbehaaSl
namespace Go.Proofs.Ytcbcjmckjnbehaa
open Go.RowKit
set_option linter.unusedVariables false

theorem pow_ev : ((List.range 18).all fun p => !primeB p || (List.range p).all fun g => !rootB p g || (List.range (p - 1)).all fun s => decide (rpowL p g s = powL p g s)) = true := by decide +kernel
theorem pow_eq (p g s : Nat) (hp : primeB p = true) (hr : rootB p g = true) (hs : s + 2 ≤ p) : rpowL p g s = powL p g s := by
  have hp17 : 3 ≤ p ∧ p ≤ 17 := by simp [primeB] at hp; omega
  have hg : 1 ≤ g ∧ g < p := by simp [rootB] at hr; omega
  have h2 := List.all_eq_true.1 pow_ev p (List.mem_range.2 (by omega))
  rw [hp, Bool.not_true, Bool.false_or] at h2
  have h3 := List.all_eq_true.1 h2 g (List.mem_range.2 hg.2)
  rw [hr, Bool.not_true, Bool.false_or] at h3
  simpa using List.all_eq_true.1 h3 s (List.mem_range.2 (by omega))
theorem log_ev : ((List.range 18).all fun p => !primeB p || (List.range p).all fun g => !rootB p g || (List.range p).all fun h => !rootB p h || decide (rlogL p g h = logL p g h)) = true := by decide +kernel
theorem log_eq (p g h : Nat) (hp : primeB p = true) (hr : rootB p g = true) (hrh : rootB p h = true) : rlogL p g h = logL p g h := by
  have hp17 : 3 ≤ p ∧ p ≤ 17 := by simp [primeB] at hp; omega
  have hg : 1 ≤ g ∧ g < p := by simp [rootB] at hr; omega
  have hh : 1 ≤ h ∧ h < p := by simp [rootB] at hrh; omega
  have h2 := List.all_eq_true.1 log_ev p (List.mem_range.2 (by omega))
  rw [hp, Bool.not_true, Bool.false_or] at h2
  have h3 := List.all_eq_true.1 h2 g (List.mem_range.2 hg.2)
  rw [hr, Bool.not_true, Bool.false_or] at h3
  have h4 := List.all_eq_true.1 h3 h (List.mem_range.2 hh.2)
  rw [hrh, Bool.not_true, Bool.false_or] at h4
  simpa using h4

set_option maxHeartbeats 1000000 in
theorem law_roots (p : Int) (w : World) (hwf : (Lit.int .i64 p).wf = true) :
    Calls Try.prog 3 #[.int .i64 p] w fun e w' => e = .returned (.bool true) ∧ Keeps w w' := by
  have hpr := fun x => rprime_c p x
  by_cases hp : primeB p = true
  · obtain ⟨n, rfl⟩ : ∃ n : Nat, p = n := ⟨p.toNat, by simp [primeB] at hp; omega⟩
    have hro := fun x => roots_yes n hp x
    have hrr := fun x => rroots_c n hp x
    rw [hp] at hpr
    generalize rts n n = L at *
    clear hp hwf
    go_enter Try.func3, Try.ntmps3
    go_wp2_with (first
      | (go_at_call 9; refine (hro _).mono ?_; rintro e w1 ⟨u, rfl, hu, hb1⟩; obtain ⟨Au, cu, rfl, -⟩ := id hu)
      | (go_at_call 10; refine (hpr _).mono ?_; rintro e w2 ⟨rfl, rfl⟩)
      | (go_at_call 13; refine (hrr _).mono ?_; rintro e w3 ⟨u3, rfl, hu3, hb3⟩; have hu1 := RdI.below hu hb3; have hk3 := Keeps.next hb1 hb3)
      | (go_at_call 12; refine (ints_yes _ _ L _ hu1 hu3).mono ?_; rintro e w4 ⟨rfl, hb4⟩; have hk4 := Keeps.next hk3 hb4)
      | (go_at_call 11; refine (awake_c _).mono ?_; rintro e w5 ⟨rfl, hb5⟩; have hk5 := Keeps.next hk4 hb5))
    go_ret
    exact ⟨rfl, hk5⟩
  · have hp' : primeB p = false := by simpa using hp
    have hro := fun x => roots_no p hp' x
    rw [hp'] at hpr
    clear hp hp' hwf
    go_enter Try.func3, Try.ntmps3
    go_wp2_with (first
      | (go_at_call 9; refine (hro _).mono ?_; rintro e w1 ⟨rfl, rfl⟩)
      | (go_at_call 10; refine (hpr _).mono ?_; rintro e w2 ⟨rfl, rfl⟩)
      | (go_at_call 11; refine (awake_c _).mono ?_; rintro e w5 ⟨rfl, hb5⟩))
    go_ret
    exact ⟨rfl, hb5⟩

set_option maxHeartbeats 1000000 in
theorem law_powers (p g s : Int) (w : World) (hp0 : (Lit.int .i64 p).wf = true) (hg0 : (Lit.int .i64 g).wf = true) (hs0 : (Lit.int .i64 s).wf = true) :
    Calls Try.prog 4 #[.int .i64 p, .int .i64 g, .int .i64 s] w fun e w' => e = .returned (.bool true) ∧ Keeps w w' := by
  have hpr := fun x => rprime_c p x
  by_cases hp : primeB p = true
  · obtain ⟨n, rfl⟩ : ∃ n : Nat, p = n := ⟨p.toNat, by simp [primeB] at hp; omega⟩
    have hn17 : 3 ≤ n ∧ n ≤ 17 := by simp [primeB] at hp; omega
    have hrr := fun x => rroot_c n g hp x
    rw [hp] at hpr
    obtain ⟨n3, n17⟩ := hn17
    by_cases hr : rootB n g = true
    · obtain ⟨m, rfl⟩ : ∃ m : Nat, g = m := ⟨g.toNat, by simp [rootB] at hr; omega⟩
      have hm : 1 ≤ m ∧ m < n := by simp [rootB] at hr; omega
      by_cases hs : 0 ≤ s ∧ s ≤ n - 2
      · obtain ⟨t, rfl⟩ := Int.eq_ofNat_of_zero_le hs.1
        have ht : t + 2 ≤ n := by omega
        have hpw := fun x => powers_yes n m t hp hr ht x
        have hrp := fun x => rpowers_c n m t n3 n17 hm.2 ht x
        rw [pow_eq n m t hp hr ht] at hrp
        rw [hr] at hrr
        have hll : (powL n m t).length = n - 1 := by simp [powL]
        have Hll := Lib.hid hll
        generalize powL n m t = L at *
        have d1 : decide ((t : Int) < 0) = false := by simp
        have d2 : decide ((n : Int) - 2 < t) = false := by simp; omega
        clear hp hr hs hm hp0 hg0 hs0 hll
        go_enter Try.func4, Try.ntmps4
        go_wp2_with (first
          | (go_at_call 14; refine (hpw _).mono ?_; rintro e w1 ⟨b, rfl, -, hu, hb1⟩)
          | (go_at_call 10; refine (hpr _).mono ?_; rintro e w2 ⟨rfl, rfl⟩)
          | (go_at_call 15; refine (hrr _).mono ?_; rintro e w2 ⟨rfl, rfl⟩)
          | (go_at_call 16; refine (hrp _).mono ?_; rintro e w3 ⟨u3, rfl, hu3, hb3⟩; have hu1 := RdI_of_at (m := n - 1) (c := n - 1) (hu.later hb3) (by rw [Hll.out]; omega) (by rw [Hll.out]; unfold maxLen; omega); rw [List.take_of_length_le (by rw [Hll.out]; omega)] at hu1; have hk3 := Keeps.next hb1 hb3)
          | (go_at_call 12; refine (ints_yes _ _ L _ hu1 hu3).mono ?_; rintro e w4 ⟨rfl, hb4⟩; have hk4 := Keeps.next hk3 hb4)
          | (go_at_call 11; refine (awake_c _).mono ?_; rintro e w5 ⟨rfl, hb5⟩; have hk5 := Keeps.next hk4 hb5))
        go_ret
        exact ⟨rfl, hk5⟩
      · have hpw := fun x => powers_no n m s (by simp [goodP, hs]) x
        rw [hr] at hrr
        clear hp hr hm hp0 hg0
        by_cases hsn : s < 0
        · clear hs hs0
          go_enter Try.func4, Try.ntmps4
          go_wp2_with (first
            | (go_at_call 14; refine (hpw _).mono ?_; rintro e w1 ⟨rfl, hb1⟩)
            | (go_at_call 10; refine (hpr _).mono ?_; rintro e w2 ⟨rfl, rfl⟩)
            | (go_at_call 15; refine (hrr _).mono ?_; rintro e w2 ⟨rfl, rfl⟩)
            | (go_at_call 11; refine (awake_c _).mono ?_; rintro e w5 ⟨rfl, hb5⟩; have hk5 := Keeps.next hb1 hb5))
          go_ret
          exact ⟨rfl, hk5⟩
        · have h2 : (n : Int) - 2 < s := by omega
          have d1 : decide (s < 0) = false := by simpa using hsn
          clear hs hs0
          go_enter Try.func4, Try.ntmps4
          go_wp2_with (first
            | (go_at_call 14; refine (hpw _).mono ?_; rintro e w1 ⟨rfl, hb1⟩)
            | (go_at_call 10; refine (hpr _).mono ?_; rintro e w2 ⟨rfl, rfl⟩)
            | (go_at_call 15; refine (hrr _).mono ?_; rintro e w2 ⟨rfl, rfl⟩)
            | (go_at_call 11; refine (awake_c _).mono ?_; rintro e w5 ⟨rfl, hb5⟩; have hk5 := Keeps.next hb1 hb5))
          go_ret
          exact ⟨rfl, hk5⟩
    · have hr' : rootB n g = false := by simpa using hr
      have hpw := fun x => powers_no n g s (by simp [goodP, hr']) x
      rw [hr'] at hrr
      clear hp hr hr' hp0 hg0 hs0
      go_enter Try.func4, Try.ntmps4
      go_wp2_with (first
        | (go_at_call 14; refine (hpw _).mono ?_; rintro e w1 ⟨rfl, hb1⟩)
        | (go_at_call 10; refine (hpr _).mono ?_; rintro e w2 ⟨rfl, rfl⟩)
        | (go_at_call 15; refine (hrr _).mono ?_; rintro e w2 ⟨rfl, rfl⟩)
        | (go_at_call 11; refine (awake_c _).mono ?_; rintro e w5 ⟨rfl, hb5⟩; have hk5 := Keeps.next hb1 hb5))
      go_ret
      exact ⟨rfl, hk5⟩
  · have hp' : primeB p = false := by simpa using hp
    have hpw := fun x => powers_no p g s (by simp [goodP, hp']) x
    rw [hp'] at hpr
    clear hp hp' hp0 hg0 hs0
    go_enter Try.func4, Try.ntmps4
    go_wp2_with (first
      | (go_at_call 14; refine (hpw _).mono ?_; rintro e w1 ⟨rfl, hb1⟩)
      | (go_at_call 10; refine (hpr _).mono ?_; rintro e w2 ⟨rfl, rfl⟩)
      | (go_at_call 11; refine (awake_c _).mono ?_; rintro e w5 ⟨rfl, hb5⟩; have hk5 := Keeps.next hb1 hb5))
    go_ret
    exact ⟨rfl, hk5⟩

theorem goodL_no (p g h : Int) (H : ¬ (primeB p = true ∧ rootB p g = true ∧ rootB p h = true)) : goodL p g h = false := by
  cases h1 : primeB p <;> cases h2 : rootB p g <;> cases h3 : rootB p h <;> simp_all [goodL]
set_option maxHeartbeats 1000000 in
theorem law_logs (p g h : Int) (w : World) (hp0 : (Lit.int .i64 p).wf = true) (hg0 : (Lit.int .i64 g).wf = true) (hh0 : (Lit.int .i64 h).wf = true) :
    Calls Try.prog 5 #[.int .i64 p, .int .i64 g, .int .i64 h] w fun e w' => e = .returned (.bool true) ∧ Keeps w w' := by
  have hpr := fun x => rprime_c p x
  by_cases hp : primeB p = true
  · obtain ⟨n, rfl⟩ : ∃ n : Nat, p = n := ⟨p.toNat, by simp [primeB] at hp; omega⟩
    have hn17 : 3 ≤ n ∧ n ≤ 17 := by simp [primeB] at hp; omega
    have hrr := fun x => rroot_c n g hp x
    have hrs := fun x => rroot_c n h hp x
    rw [hp] at hpr
    obtain ⟨n3, n17⟩ := hn17
    by_cases hr : rootB n g = true
    · rw [hr] at hrr
      by_cases hs : rootB n h = true
      · rw [hs] at hrs
        obtain ⟨m, rfl⟩ : ∃ m : Nat, g = m := ⟨g.toNat, by simp [rootB] at hr; omega⟩
        have hm : 1 ≤ m ∧ m < n := by simp [rootB] at hr; omega
        obtain ⟨t, rfl⟩ : ∃ t : Nat, h = t := ⟨h.toNat, by simp [rootB] at hs; omega⟩
        have ht : 1 ≤ t ∧ t < n := by simp [rootB] at hs; omega
        have hpw := fun x => logs_yes n m t hp hr hs x
        have hrp := fun x => rlogs_c n m t n3 n17 hm.2 ht.2 x
        rw [log_eq n m t hp hr hs] at hrp
        have hll : (logL n m t).length = n - 2 := by simp [logL]
        have Hll := Lib.hid hll
        generalize logL n m t = L at *
        clear hp hr hs hm hp0 hg0 hh0 hll ht
        go_enter Try.func5, Try.ntmps5
        go_wp2_with (first
          | (go_at_call 17; refine (hpw _).mono ?_; rintro e w1 ⟨b, rfl, -, hu, hb1⟩)
          | (go_at_call 10; refine (hpr _).mono ?_; rintro e w2 ⟨rfl, rfl⟩)
          | (go_at_call 15; have tok := hpr; clear hpr; refine (hrr _).mono ?_; rintro e w2 ⟨rfl, rfl⟩)
          | (go_at_call 15; refine (hrs _).mono ?_; rintro e w2 ⟨rfl, rfl⟩)
          | (go_at_call 18; refine (hrp _).mono ?_; rintro e w3 ⟨u3, rfl, hu3, hb3⟩; have hu1 := RdI_of_at (m := n - 2) (c := n - 2) (hu.later hb3) (by rw [Hll.out]; omega) (by rw [Hll.out]; unfold maxLen; omega); rw [List.take_of_length_le (by rw [Hll.out]; omega)] at hu1; have hk3 := Keeps.next hb1 hb3)
          | (go_at_call 12; refine (ints_yes _ _ L _ hu1 hu3).mono ?_; rintro e w4 ⟨rfl, hb4⟩; have hk4 := Keeps.next hk3 hb4)
          | (go_at_call 11; refine (awake_c _).mono ?_; rintro e w5 ⟨rfl, hb5⟩; have hk5 := Keeps.next hk4 hb5))
        go_ret
        exact ⟨rfl, hk5⟩
      · have hs' : rootB n h = false := by simpa using hs
        have hpw := fun x => logs_no n g h (goodL_no _ _ _ (fun H => hs H.2.2)) x
        rw [hs'] at hrs
        clear hp hr hs hs' hp0 hg0 hh0
        go_enter Try.func5, Try.ntmps5
        go_wp2_with (first
          | (go_at_call 17; refine (hpw _).mono ?_; rintro e w1 ⟨rfl, hb1⟩)
          | (go_at_call 10; refine (hpr _).mono ?_; rintro e w2 ⟨rfl, rfl⟩)
          | (go_at_call 15; have tok := hpr; clear hpr; refine (hrr _).mono ?_; rintro e w2 ⟨rfl, rfl⟩)
          | (go_at_call 15; refine (hrs _).mono ?_; rintro e w2 ⟨rfl, rfl⟩)
          | (go_at_call 11; refine (awake_c _).mono ?_; rintro e w5 ⟨rfl, hb5⟩; have hk5 := Keeps.next hb1 hb5))
        go_ret
        exact ⟨rfl, hk5⟩
    · have hr' : rootB n g = false := by simpa using hr
      have hpw := fun x => logs_no n g h (goodL_no _ _ _ (fun H => hr H.2.1)) x
      rw [hr'] at hrr
      clear hp hr hr' hp0 hg0 hh0 hrs
      go_enter Try.func5, Try.ntmps5
      go_wp2_with (first
        | (go_at_call 17; refine (hpw _).mono ?_; rintro e w1 ⟨rfl, hb1⟩)
        | (go_at_call 10; refine (hpr _).mono ?_; rintro e w2 ⟨rfl, rfl⟩)
        | (go_at_call 15; refine (hrr _).mono ?_; rintro e w2 ⟨rfl, rfl⟩)
        | (go_at_call 11; refine (awake_c _).mono ?_; rintro e w5 ⟨rfl, hb5⟩; have hk5 := Keeps.next hb1 hb5))
      go_ret
      exact ⟨rfl, hk5⟩
  · have hp' : primeB p = false := by simpa using hp
    have hpw := fun x => logs_no p g h (goodL_no _ _ _ (fun H => hp H.1)) x
    rw [hp'] at hpr
    clear hp hp' hp0 hg0 hh0
    go_enter Try.func5, Try.ntmps5
    go_wp2_with (first
      | (go_at_call 17; refine (hpw _).mono ?_; rintro e w1 ⟨rfl, hb1⟩)
      | (go_at_call 10; refine (hpr _).mono ?_; rintro e w2 ⟨rfl, rfl⟩)
      | (go_at_call 11; refine (awake_c _).mono ?_; rintro e w5 ⟨rfl, hb5⟩; have hk5 := Keeps.next hb1 hb5))
    go_ret
    exact ⟨rfl, hk5⟩
end Go.Proofs.Ytcbcjmckjnbehaa
