/- The law Mirrored. -/
import Derived.Test.YtodopdfjjgpdeaaTe
import Derived.Test.YtodopdfjjgpdeaaVc
import Derived.Test.YtodopdfjjgpdeaaVb
namespace Go.Proofs.Ytodopdfjjgpdeaa
open Go.RowKit Go.Shelf
set_option linter.unusedVariables false
set_option linter.unusedSimpArgs false

theorem mir_ev : ((List.range 18).all fun p => !primeB p || (List.range p).all fun g => !rootB p g || (List.range p).all fun h => !rootB p h || decide (exL (logL p g h) = logL p h g)) = true := by decide +kernel
theorem log_mir (p g h : Nat) (hp : primeB p = true) (hr : rootB p g = true) (hrh : rootB p h = true) : exL (logL p g h) = logL p h g := by
  have hp17 : 3 ≤ p ∧ p ≤ 17 := by simp [primeB] at hp; omega
  have hg : 1 ≤ g ∧ g < p := by simp [rootB] at hr; omega
  have hh : 1 ≤ h ∧ h < p := by simp [rootB] at hrh; omega
  have h2 := List.all_eq_true.1 mir_ev p (List.mem_range.2 (by omega))
  rw [hp, Bool.not_true, Bool.false_or] at h2
  have h3 := List.all_eq_true.1 h2 g (List.mem_range.2 hg.2)
  rw [hr, Bool.not_true, Bool.false_or] at h3
  have h4 := List.all_eq_true.1 h3 h (List.mem_range.2 hh.2)
  rw [hrh, Bool.not_true, Bool.false_or] at h4
  exact of_decide_eq_true h4
theorem logs_rd (P G H d : Nat) (hd : P - 2 = d) (hP : primeB P = true) (hG : rootB P G = true) (hH : rootB P H = true) (w : World) :
    Calls Try.prog 20 #[.int .i64 P, .int .i64 G, .int .i64 H] w fun e w' => ∃ b, e = .returned (.tuple #[.slice (some ⟨b, 0, none⟩) d d, .int .i64 0]) ∧ RdI w' (.slice (some ⟨b, 0, none⟩) d d) (logL P G H) ∧ Keeps w w' := by
  subst hd
  have hP17 : 3 ≤ P ∧ P ≤ 17 := by simp [primeB] at hP; omega
  refine (logs_yes P G H hP hG hH w).mono ?_
  rintro e w' ⟨b, rfl, -, hv, hb⟩
  have hl : (logL P G H).length = P - 2 := by simp [logL]
  have := RdI_of_at (m := P - 2) (c := P - 2) hv (by omega) (by unfold maxLen; omega)
  rw [List.take_of_length_le (by omega)] at this
  exact ⟨b, rfl, this, hb⟩
set_option maxHeartbeats 4000000 in
set_option maxRecDepth 100000 in
theorem law_mirrored (p g h : Int) (w : World) (hp0 : (Lit.int .i64 p).wf = true) (hg0 : (Lit.int .i64 g).wf = true) (hh0 : (Lit.int .i64 h).wf = true) :
    Calls Try.prog 6 #[.int .i64 p, .int .i64 g, .int .i64 h] w fun e w' => e = .returned (.bool true) ∧ Keeps w w' := by
  have hpr := fun x => prime_c p g h hp0 hg0 hh0 x
  clear hp0 hg0 hh0
  go_enter Try.func6, Try.ntmps6
  go_wp2_with fail
  refine (hpr _).mono ?_
  rintro e w1 ⟨P, G, H, rfl, hP, hG, hH, hb1⟩
  clear hpr
  obtain ⟨d, hd⟩ : ∃ d, P - 2 = d := ⟨_, rfl⟩
  have hl1 := fun X => logs_rd P G H d hd hP hG hH X
  have hl2 := fun X => logs_rd P H G d hd hP hH hG X
  have o1 := (log_known P G H hP hG hH).1
  have o2 := (log_known P H G hP hH hG).1
  have hmi := log_mir P G H hP hG hH
  have hsame : G = H → logL P G H = logL P H G := fun e => by rw [e]
  have hln : (logL P G H).length = d := by rw [← hd]; simp [logL]
  generalize logL P G H = L at *
  generalize logL P H G = M at *
  have hr1 := fun v X h => rorder_c v L X h
  have hr2 := fun v X h => rorder_c v M X h
  rw [o1] at hr1
  rw [o2] at hr2
  have Hmi := Lib.hid (show tn3 L 4 = M from hmi)
  have Hs := Lib.hid hsame
  clear hP hG hH hd hmi hsame o2
  go_upto_region 3 with (go_at_call 20; with_reducible refine (hl1 _).mono ?_; rintro e w2 ⟨b2, rfl, ha2, hb2⟩)
  go_upto_region 4 with (go_at_call 20; with_reducible refine (hl2 _).mono ?_; rintro e w3 ⟨b3, rfl, hc3, hb3⟩)
  have ha3 := ha2.below hb3
  clear ha2 hl1 hl2
  go_upto_region 6 with (first
    | (go_at_call 10; with_reducible refine (hr1 _ _ ha3).mono ?_; rintro e w4 ⟨rfl, hb4⟩)
    | (go_at_call 10; with_reducible refine (hr2 _ _ (hc3.below hb4)).mono ?_; rintro e w5 ⟨rfl, hb5⟩))
  have ha5 := ha3.below (hb4.next hb5)
  have hc5 := hc3.below (hb4.next hb5)
  go_upto_region 7 with (go_at_call 17; refine (turn_rd _ L d 4 hln (by omega) o1 _ ha5).mono ?_; rintro e w6 ⟨g6, c6, rfl, hx6, hb6⟩; rw [Hmi.out] at hx6)
  have ha6 := ha5.below hb6
  have hc6 := hc5.below hb6
  have hkw := (((hb1.next hb2).next hb3).next (hb4.next hb5)).next hb6
  by_cases e : G = H
  · have hLM : L = M := Hs.out e
    rw [hLM] at ha6
    have q : ((G : Int) != (H : Int)) = false := by simp [e]
    clear hLM e ha3 ha5 hc3 hc5 hr1 hr2
    go_wp2_with (first
      | (go_at_call 15; with_reducible refine (ints_same _ _ M _ hx6 hc6).mono ?_; rintro e w7 ⟨rfl, hb7⟩)
      | (go_at_call 15; with_reducible refine (ints_same _ _ M _ (ha6.below hb7) (hc6.below hb7)).mono ?_; rintro e w9 ⟨rfl, hb9⟩)
      | (go_at_call 9; refine (awake_c _).mono ?_; rintro e w8 ⟨rfl, hb8⟩))
    go_ret
    exact ⟨rfl, hkw.next ((hb7.next hb9).next hb8)⟩
  · have q : ((G : Int) != (H : Int)) = true := by simp; omega
    clear e
    go_wp2_with (first
      | (go_at_call 15; refine (ints_same _ _ M _ hx6 hc6).mono ?_; rintro e w7 ⟨rfl, hb7⟩)
      | (go_at_call 9; refine (awake_c _).mono ?_; rintro e w8 ⟨rfl, hb8⟩))
    go_ret
    exact ⟨rfl, hkw.next (hb7.next hb8)⟩
end Go.Proofs.Ytodopdfjjgpdeaa
