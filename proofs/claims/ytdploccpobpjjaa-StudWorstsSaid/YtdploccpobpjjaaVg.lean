/- The walks of Meeting and the reference's Meeting; the law StudMeetings. -/
import Derived.Test.YtdploccpobpjjaaVf
import Derived.Test.YtdploccpobpjjaaVo
namespace Go.Proofs.Ytdploccpobpjjaa
open Go.RowKit
set_option linter.unusedVariables false

set_option maxHeartbeats 4000000 in
set_option maxRecDepth 100000 in
theorem rmeeting_c (A : Option Addr) (c : Nat) (l : List Int) (ho : ordB l = true) (u v : Int) (w : World) (hv : RdI w (.slice A l.length c) l) :
    Calls Try.prog 18 #[.slice A l.length c, .int .i64 u, .int .i64 v] w fun e w' => e = .returned (.int .i64 (rmeetN l u v)) ∧ Keeps w w' := by
  obtain ⟨_, _, hA, hm, hcs⟩ := id hv
  cases hA
  obtain ⟨ho1, ho2, ho3, -⟩ := ordB_parts l ho
  have hin : ∀ i, i < l.length → 0 ≤ nth l i ∧ nth l i < l.length := fun i hi => (hasB_iff _ _).1 (List.all_eq_true.1 ho3 _ (nth_mem l i hi))
  have Hin := Lib.hid hin
  clear ho ho3 hm hin
  by_cases h1 : u ≤ -(l.length : Int)
  · have hr : rmeetN l u v = 0 := by rw [rmeetN, show farB l.length u v = true by simp [farB, h1], if_pos rfl]
    rw [hr]
    clear hr hcs
    go_enter Try.func18, Try.ntmps18
    go_wp2_with fail
    go_ret
    exact ⟨rfl, Below.refl _ _⟩
  have d1 : decide (u ≤ -(l.length : Int)) = false := decide_eq_false h1
  by_cases h2 : (l.length : Int) ≤ u
  · have hr : rmeetN l u v = 0 := by rw [rmeetN, show farB l.length u v = true by simp [farB, h2], if_pos rfl]
    rw [hr]
    clear hr hcs h1
    go_enter Try.func18, Try.ntmps18
    go_wp2_with fail
    go_ret
    exact ⟨rfl, Below.refl _ _⟩
  have d2 : decide ((l.length : Int) ≤ u) = false := decide_eq_false h2
  by_cases h3 : v ≤ -(l.length : Int)
  · have hr : rmeetN l u v = 0 := by rw [rmeetN, show farB l.length u v = true by simp [farB, h3], if_pos rfl]
    rw [hr]
    clear hr hcs h1 h2
    go_enter Try.func18, Try.ntmps18
    go_wp2_with fail
    go_ret
    exact ⟨rfl, Below.refl _ _⟩
  have d3 : decide (v ≤ -(l.length : Int)) = false := decide_eq_false h3
  by_cases h4 : (l.length : Int) ≤ v
  · have hr : rmeetN l u v = 0 := by rw [rmeetN, show farB l.length u v = true by simp [farB, h4], if_pos rfl]
    rw [hr]
    clear hr hcs h1 h2 h3
    go_enter Try.func18, Try.ntmps18
    go_wp2_with fail
    go_ret
    exact ⟨rfl, Below.refl _ _⟩
  have d4 : decide ((l.length : Int) ≤ v) = false := decide_eq_false h4
  have hr : rmeetN l u v = rmI l u v l.length := by rw [rmeetN, show farB l.length u v = false by simp only [farB, decide_eq_false_iff_not]; omega]; rfl
  rw [hr]
  have u1 : -(l.length : Int) < u := by omega
  have u2 : u < (l.length : Int) := by omega
  have v1 : -(l.length : Int) < v := by omega
  have v2 : v < (l.length : Int) := by omega
  clear hr h1 h2 h3 h4
  go_enter Try.func18, Try.ntmps18
  go_wp2_with fail
  go_loopw [8, 9] (fun x i wr => ∃ k : Nat, k ≤ l.length ∧ i = .int .i64 k ∧ x = .int .i64 (rmI l u v k) ∧ ∃ m, wr = w.drewN m) (fun _ i _ => l.length - (intOf i).toNat)
  case atStart => exact ⟨0, Nat.zero_le _, rfl, rfl, 0, rfl⟩
  case round =>
    obtain ⟨k, hk, rfl, rfl, m0, rfl⟩ := hrel
    have hle := rmI_le l u v k
    by_cases hlt : k < l.length
    · by_cases g1 : 0 ≤ (k : Int) + u
      · obtain ⟨m, hm⟩ := Int.eq_ofNat_of_zero_le g1
        have r1 : IntKind.i64.wrap ((k : Int) + u) = (m : Int) := by rw [← hm]; exact IntWalk.i64_in _ (by omega)
        by_cases g2 : m < l.length
        · obtain ⟨b1, o1, x1, hA1, c1, rfl⟩ := hcs k hlt
          obtain ⟨b2, o2, x2, hA2, c2, rfl⟩ := hcs m g2
          subst hA1
          cases hA2
          have i1 := Hin.out k hlt
          have i2 := Hin.out m g2
          have r2 : IntKind.i64.wrap (nth l k + v) = nth l k + v := IntWalk.i64_in _ (by omega)
          have hmI : (m : Int) < l.length := by omega
          by_cases e : nth l m = nth l k + v
          · have q1 : (nth l m == nth l k + v) = true := by simp [e]
            have Hy := Lib.hid (rmI_yes l u v k (by simp only [rmB, Bool.and_eq_true, decide_eq_true_eq]; exact ⟨⟨g1, by omega⟩, by rw [hm]; exact e⟩))
            generalize rmI l u v k = x at *
            generalize nth l m = y at *
            generalize nth l k = z at *
            clear hcs e hm g1
            go_wp2_with fail
            refine wp_region_quiet_lit (by kernel_rfl) (by kernel_rfl) ?_
            iterate 26 go_big_quiet_step (fail)
            refine wpQuiet_nil ?_
            intro _ hw'
            obtain ⟨nq, hw''⟩ := hw'
            subst hw''
            clear r1 r2 c1 c2 q1
            go_wp2_with fail
            go_roundw
            case rel => exact ⟨k + 1, by omega, by go_num, by rw [Hy.out]; go_num, m0 + nq, by first | rfl | exact World.drewN_drewN _ _ _⟩
            case measure => simp [intOf]; omega
          · have q1 : (nth l m == nth l k + v) = false := by simp [e]
            have Hy := Lib.hid (rmI_no l u v k (by rw [Bool.eq_false_iff]; intro h; simp only [rmB, Bool.and_eq_true, decide_eq_true_eq] at h; rw [hm] at h; exact e h.2))
            generalize rmI l u v k = x at *
            generalize nth l m = y at *
            generalize nth l k = z at *
            clear hcs e hm g1
            go_wp2_with fail
            refine wp_region_quiet_lit (by kernel_rfl) (by kernel_rfl) ?_
            iterate 26 go_big_quiet_step (fail)
            refine wpQuiet_nil ?_
            intro _ hw'
            obtain ⟨nq, hw''⟩ := hw'
            subst hw''
            clear r1 r2 c1 c2 q1
            go_wp2_with fail
            go_roundw
            case rel => exact ⟨k + 1, by omega, by go_num, by rw [Hy.out], m0 + nq, by first | rfl | exact World.drewN_drewN _ _ _⟩
            case measure => simp [intOf]; omega
        · have g3 : decide (m < l.length) = false := decide_eq_false g2
          have g4 : decide ((m : Int) < l.length) = false := decide_eq_false (by omega)
          have Hy := Lib.hid (rmI_no l u v k (by rw [Bool.eq_false_iff]; intro h; simp only [rmB, Bool.and_eq_true, decide_eq_true_eq] at h; omega))
          generalize rmI l u v k = x at *
          clear hcs hm g1 g2
          go_wp2_with fail
          refine wp_region_quiet_lit (by kernel_rfl) (by kernel_rfl) ?_
          iterate 26 go_big_quiet_step (fail)
          refine wpQuiet_nil ?_
          intro _ hw'
          obtain ⟨nq, hw''⟩ := hw'
          subst hw''
          clear r1
          go_wp2_with fail
          go_roundw
          case rel => exact ⟨k + 1, by omega, by go_num, by rw [Hy.out], m0 + nq, by first | rfl | exact World.drewN_drewN _ _ _⟩
          case measure => simp [intOf]; omega
      · have r1 : IntKind.i64.wrap ((k : Int) + u) = (k : Int) + u := IntWalk.i64_in _ (by omega)
        have g2 : decide (0 ≤ (k : Int) + u) = false := decide_eq_false g1
        have Hy := Lib.hid (rmI_no l u v k (by rw [Bool.eq_false_iff]; intro h; simp only [rmB, Bool.and_eq_true, decide_eq_true_eq] at h; omega))
        generalize rmI l u v k = x at *
        clear hcs g1
        go_wp2_with fail
        refine wp_region_quiet_lit (by kernel_rfl) (by kernel_rfl) ?_
        iterate 26 go_big_quiet_step (fail)
        refine wpQuiet_nil ?_
        intro _ hw'
        obtain ⟨nq, hw''⟩ := hw'
        subst hw''
        clear r1
        go_wp2_with fail
        go_roundw
        case rel => exact ⟨k + 1, by omega, by go_num, by rw [Hy.out], m0 + nq, by first | rfl | exact World.drewN_drewN _ _ _⟩
        case measure => simp [intOf]; omega
    · have hke : k = l.length := by omega
      have Hke := Lib.hid hke
      clear hke hcs
      go_wp2_with fail
      go_ret
      exact ⟨by rw [Hke.out]; rfl, below_drewN (Below.refl _ _)⟩
end Go.Proofs.Ytdploccpobpjjaa
