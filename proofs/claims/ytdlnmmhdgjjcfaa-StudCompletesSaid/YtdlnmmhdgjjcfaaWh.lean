/- The law Items. -/
import Derived.Test.YtdlnmmhdgjjcfaaWg
namespace Go.Proofs.Ytdlnmmhdgjjcfaa
open Go.RowKit Go.Shelf
set_option linter.unusedVariables false
set_option linter.unusedSimpArgs false

theorem item_none (d : Nat) (d1 : 1 ≤ d) (d5 : d ≤ 7) (k : Int) (h : ¬ (0 ≤ k ∧ k < (clrs [] d).length)) (w : World) :
    Calls Try.prog 17 #[.int .i64 d, .int .i64 k] w fun e w' => e = .returned (.tuple #[.slice none 0 0, .int .i64 2]) ∧ Keeps w w' := by
  refine (item_yes d d1 d5 k w).mono ?_
  rintro e w' ⟨(⟨h0, rfl⟩ | ⟨x, b, c, h0, hx, _⟩), hb⟩
  · exact ⟨rfl, hb⟩
  · have := (List.getElem?_eq_some_iff.1 hx).1
    exact absurd ⟨h0, by omega⟩ h
theorem item_some (d : Nat) (d1 : 1 ≤ d) (d5 : d ≤ 7) (k : Nat) (x : List Int) (h : (clrs [] d)[k]? = some x) (w : World) :
    Calls Try.prog 17 #[.int .i64 d, .int .i64 k] w fun e w' => ∃ b c, e = .returned (.tuple #[.slice (some ⟨b, 0, none⟩) d c, .int .i64 0]) ∧ RdI w' (.slice (some ⟨b, 0, none⟩) d c) x ∧ Keeps w w' := by
  refine (item_yes d d1 d5 k w).mono ?_
  rintro e w' ⟨(⟨h0, rfl⟩ | ⟨y, b, c, h0, hy, _, rfl, _, hr⟩), hb⟩
  · exact absurd ⟨Int.natCast_nonneg k, by have := (List.getElem?_eq_some_iff.1 h).1; omega⟩ h0
  · rw [Int.toNat_natCast, h] at hy
    cases hy
    exact ⟨b, c, rfl, hr, hb⟩
theorem ints_eq (v v' : Value) (a : List Int) (w : World) (ha : RdI w v a) (hb : RdI w v' a) :
    Calls Try.prog 12 #[v, v'] w fun e w' => e = .returned (.bool true) ∧ Keeps w w' := by
  refine (ints_c v v' a a w ha hb).mono ?_
  rintro e w' ⟨h, m, rfl⟩
  rw [decide_eq_true rfl] at h
  exact ⟨h, below_drewN (Below.refl _ _)⟩
set_option maxHeartbeats 2000000 in
set_option maxRecDepth 100000 in
theorem law_items (n k : Int) (w : World) (hn : (Lit.int .i64 n).wf = true) (hk : (Lit.int .i64 k).wf = true) :
    Calls Try.prog 5 #[.int .i64 n, .int .i64 k] w fun e w' => e = .returned (.bool true) ∧ Keeps w w' := by
  have hco := fun x => count_c n x
  cases hB : cntB n with
  | false =>
    have hit := fun x => item_no n k hB x
    rw [hB] at hco
    unfold cntN codeE at hco
    rw [hB, if_neg (by simp), if_neg (by simp)] at hco
    have hor : n < 1 ∨ (¬ n < 1 ∧ 7 < n) := by
      unfold cntB at hB
      have := of_decide_eq_false hB
      omega
    clear hB hn hk
    rcases hor with h | ⟨h1, h2⟩
    · go_enter Try.func5, Try.ntmps5
      go_wp2_with (first
        | (go_at_call 16; refine (hco _).mono ?_; rintro e w1 ⟨rfl, hb1⟩)
        | (go_at_call 17; refine (hit _).mono ?_; rintro e w2 ⟨rfl, hb2⟩)
        | (go_at_call 10; refine (awake_c _).mono ?_; rintro e w3 ⟨rfl, hb3⟩))
      go_ret
      exact ⟨rfl, (hb1.next hb2).next hb3⟩
    · have d1 : decide (n < 1) = false := decide_eq_false h1
      clear h1
      go_enter Try.func5, Try.ntmps5
      go_wp2_with (first
        | (go_at_call 16; refine (hco _).mono ?_; rintro e w1 ⟨rfl, hb1⟩)
        | (go_at_call 17; refine (hit _).mono ?_; rintro e w2 ⟨rfl, hb2⟩)
        | (go_at_call 10; refine (awake_c _).mono ?_; rintro e w3 ⟨rfl, hb3⟩))
      go_ret
      exact ⟨rfl, (hb1.next hb2).next hb3⟩
  | true =>
    have hnn : 1 ≤ n ∧ n ≤ 7 := by unfold cntB at hB; exact of_decide_eq_true hB
    obtain ⟨d, rfl⟩ := Int.eq_ofNat_of_zero_le (show 0 ≤ n by omega)
    have d1 : 1 ≤ d := by omega
    have d7 : d ≤ 7 := by omega
    unfold cntN codeE at hco
    rw [hB, if_pos rfl, if_pos rfl, Int.toNat_natCast] at hco
    have hal := fun x => all_lvl d d7 x
    rw [lvl_all d] at hal
    have hin := fun h x => item_none d d1 d7 k h x
    have his := fun q y h x => item_some d d1 d7 q y h x
    have hxl := Lib.hid (fun x (h : x ∈ clrs [] d) => clrs_len (Nat.zero_le _) h)
    have hlen := clrs_length [] d d7
    generalize clrs [] d = xs at *
    have q1 : decide ((d : Int) < 1) = false := by simp; omega
    have q2 : decide ((7 : Int) < d) = false := by simp; omega
    have hlenI : (xs.length : Int) ≤ 823543 := by omega
    clear hn hk hB hnn
    by_cases hr : 0 ≤ k ∧ k < xs.length
    · obtain ⟨q, rfl⟩ := Int.eq_ofNat_of_zero_le hr.1
      have hq : q < xs.length := by omega
      have hit := fun x => his q _ (List.getElem?_eq_getElem hq) x
      have e1 : decide ((q : Int) < 0) = false := by simp
      have e2 : decide ((xs.length : Int) ≤ q) = false := by simp; omega
      have e3 : decide (xs.length ≤ q) = false := by simp; omega
      have Hx : Hid (xs[q]? = some xs[q]) := Lib.hid (List.getElem?_eq_getElem hq)
      generalize xs[q] = x at *
      clear hr hin his
      go_enter Try.func5, Try.ntmps5
      go_upto_region 5 with (first
        | (go_at_call 16; refine (hco _).mono ?_; rintro e w1 ⟨rfl, hb1⟩)
        | (go_at_call 17; refine (hit _).mono ?_; rintro e w2 ⟨b, c, rfl, hri, hb2⟩))
      go_upto_region 10 with (go_at_call 18; refine (hal _).mono ?_; rintro e w3 ⟨v, rfl, hrd, hb3⟩; obtain ⟨A1, c1, rfl, hm1, hcs⟩ := id hrd)
      obtain ⟨b5, o5, u, rfl, hc5, y, hy, hru⟩ := hcs q hq
      rw [Hx.out] at hy
      cases hy
      have hin := fun X h => ints_eq (.slice (some ⟨b, 0, none⟩) d c) u x X (hri.below (hb3.next h)) (hru.below h)
      clear hcs
      go_wp2_with (first
        | (go_at_call 12; refine (hin _ (Below.refl _ _)).mono ?_; rintro e w4 ⟨rfl, hb4⟩)
        | (go_at_call 10; refine (awake_c _).mono ?_; rintro e w5 ⟨rfl, hb5⟩))
      go_ret
      exact ⟨rfl, (((hb1.next hb2).next hb3).next hb4).next hb5⟩
    · have hit := fun x => hin hr x
      clear hin his
      by_cases h0 : k < 0
      · clear hr
        go_enter Try.func5, Try.ntmps5
        go_wp2_with (first
          | (go_at_call 16; refine (hco _).mono ?_; rintro e w1 ⟨rfl, hb1⟩)
          | (go_at_call 17; refine (hit _).mono ?_; rintro e w2 ⟨rfl, hb2⟩)
          | (go_at_call 18; refine (hal _).mono ?_; rintro e w3 ⟨v, rfl, hrd, hb3⟩; obtain ⟨A1, c1, rfl, hm1, hcs⟩ := id hrd; clear hcs hrd)
          | (go_at_call 10; refine (awake_c _).mono ?_; rintro e w5 ⟨rfl, hb5⟩))
        go_ret
        exact ⟨rfl, ((hb1.next hb2).next hb3).next hb5⟩
      · have e1 : decide (k < 0) = false := decide_eq_false h0
        have e2 : (xs.length : Int) ≤ k := by omega
        clear hr h0
        go_enter Try.func5, Try.ntmps5
        go_wp2_with (first
          | (go_at_call 16; refine (hco _).mono ?_; rintro e w1 ⟨rfl, hb1⟩)
          | (go_at_call 17; refine (hit _).mono ?_; rintro e w2 ⟨rfl, hb2⟩)
          | (go_at_call 18; refine (hal _).mono ?_; rintro e w3 ⟨v, rfl, hrd, hb3⟩; obtain ⟨A1, c1, rfl, hm1, hcs⟩ := id hrd; clear hcs hrd)
          | (go_at_call 10; refine (awake_c _).mono ?_; rintro e w5 ⟨rfl, hb5⟩))
        go_ret
        exact ⟨rfl, ((hb1.next hb2).next hb3).next hb5⟩
end Go.Proofs.Ytdlnmmhdgjjcfaa
