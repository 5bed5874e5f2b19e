/- The walks of Meeting and the reference's Meeting; the law StudMeetings. -/
import Derived.Test.YtjakpneoodlmcaaVf
import Derived.Test.YtjakpneoodlmcaaVo
namespace Go.Proofs.Ytjakpneoodlmcaa
open Go.RowKit
set_option linter.unusedVariables false

set_option maxHeartbeats 4000000 in
set_option maxRecDepth 100000 in
theorem meeting_yes (A : Option Addr) (c : Nat) (l : List Int) (ho : ordB l = true) (u v : Int) (w : World) (hv : RdI w (.slice A l.length c) l) :
    Calls Try.prog 9 #[.slice A l.length c, .int .i64 u, .int .i64 v] w fun e w' => e = .returned (.tuple #[.int .i64 (meetN l u v), .int .i64 0]) ∧ Keeps w w' := by
  have hor := isOrder_c (.slice A l.length c) l w hv
  obtain ⟨ho1, ho2, ho3, -⟩ := ordB_parts l ho
  have hlow := low_all l l.length (by omega) ho3
  rw [ho] at hor
  clear ho ho3
  go_enter Try.func9, Try.ntmps9
  go_wp2_with (go_at_call 24; refine hor.mono ?_; rintro e w1 ⟨rfl, hb1⟩)
  go_loopw [8, 16] (fun x i wr => ∃ k : Nat, k ≤ l.length ∧ i = .int .i64 k ∧ x = .int .i64 (metI l u v l.length k) ∧ Keeps w wr) (fun _ i _ => l.length - (intOf i).toNat)
  case atStart => exact ⟨0, Nat.zero_le _, rfl, rfl, hb1⟩
  case round =>
    obtain ⟨k, hk, rfl, rfl, hb⟩ := hrel
    have hle := metI_le l u v l.length k
    have hle2 : k * l.length ≤ 16 * 16 := Nat.mul_le_mul (by omega) (by omega)
    by_cases hlt : k < l.length
    · have HI : Hid (metI l u v l.length (k + 1) = metI l u v l.length k + metJ l u v k l.length) := Lib.hid rfl
      generalize metI l u v l.length k = a at *
      go_wp2_with fail
      generalize wr = w4 at *
      go_loopw [8, 21] (fun x i wr => ∃ j : Nat, j ≤ l.length ∧ i = .int .i64 j ∧ x = .int .i64 (a + metJ l u v k j : Nat) ∧ Keeps w wr) (fun _ i _ => l.length - (intOf i).toNat)
      case atStart => exact ⟨0, Nat.zero_le _, rfl, by simp [metJ], hb⟩
      case round =>
        obtain ⟨j, hj, rfl, rfl, hb2⟩ := hrel
        have hlj := metJ_le l u v k j
        by_cases hjt : j < l.length
        · have hst := stepOf_c (.slice A l.length c) l hlow k j hlt hjt wr (hv.below hb2)
          cases hB : metB l u v k j with
          | true =>
            have Hy := Lib.hid (metJ_yes l u v k j hB)
            have hb3 : stp1 l k j = u ∧ stp2 l k j = v := of_decide_eq_true hB
            have q1 : (stp1 l k j == u) = true := by simp [hb3.1]
            have q2 : (stp2 l k j == v) = true := by simp [hb3.2]
            generalize metJ l u v k j = x at *
            clear hB hb3
            go_wp2_with (go_at_call 25; refine hst.mono ?_; rintro e w5 ⟨rfl, hb5⟩)
            go_roundw
            case rel => exact ⟨j + 1, by omega, by go_num, by rw [Hy.out]; go_num, Keeps.next hb2 hb5⟩
            case measure => simp [intOf]; omega
          | false =>
            have Hy := Lib.hid (metJ_no l u v k j hB)
            have hb3 : ¬ (stp1 l k j = u ∧ stp2 l k j = v) := of_decide_eq_false hB
            generalize metJ l u v k j = x at *
            by_cases e1 : stp1 l k j = u
            · have q1 : (stp1 l k j == u) = true := by simp [e1]
              have q2 : (stp2 l k j == v) = false := by simp; exact fun e2 => hb3 ⟨e1, e2⟩
              clear hB hb3 e1
              go_wp2_with (go_at_call 25; refine hst.mono ?_; rintro e w5 ⟨rfl, hb5⟩)
              go_roundw
              case rel => exact ⟨j + 1, by omega, by go_num, by rw [Hy.out]; go_num, Keeps.next hb2 hb5⟩
              case measure => simp [intOf]; omega
            · have q1 : (stp1 l k j == u) = false := by simp [e1]
              clear hB hb3 e1
              go_wp2_with (go_at_call 25; refine hst.mono ?_; rintro e w5 ⟨rfl, hb5⟩)
              go_roundw
              case rel => exact ⟨j + 1, by omega, by go_num, by rw [Hy.out]; go_num, Keeps.next hb2 hb5⟩
              case measure => simp [intOf]; omega
        · have hje : j = l.length := by omega
          have Hje := Lib.hid hje
          clear hje
          go_wp2_with fail
          go_roundw
          case rel => exact ⟨k + 1, by omega, by go_num, by rw [HI.out, Hje.out], hb2⟩
          case measure => simp [intOf]; omega
    · have hke : k = l.length := by omega
      have Hke := Lib.hid hke
      clear hke
      go_wp2_with fail
      go_ret2
      exact ⟨by rw [Hke.out]; rfl, hb⟩
set_option maxHeartbeats 1000000 in
theorem meeting_no (A : Option Addr) (c : Nat) (l : List Int) (ho : ordB l = false) (u v : Int) (w : World) (hv : RdI w (.slice A l.length c) l) :
    Calls Try.prog 9 #[.slice A l.length c, .int .i64 u, .int .i64 v] w fun e w' => e = .returned (.tuple #[.int .i64 0, .int .i64 2]) ∧ Keeps w w' := by
  have hor := isOrder_c (.slice A l.length c) l w hv
  rw [ho] at hor
  clear ho
  go_enter Try.func9, Try.ntmps9
  go_wp2_with (go_at_call 24; refine hor.mono ?_; rintro e w1 ⟨rfl, hb1⟩)
  go_ret2
  exact ⟨rfl, hb1⟩
set_option maxHeartbeats 4000000 in
set_option maxRecDepth 100000 in
theorem rmeeting_c (A : Option Addr) (c : Nat) (l : List Int) (ho : ordB l = true) (u v : Int) (w : World) (hv : RdI w (.slice A l.length c) l) :
    Calls Try.prog 12 #[.slice A l.length c, .int .i64 u, .int .i64 v] w fun e w' => e = .returned (.int .i64 (rmeetN l u v)) ∧ Keeps w w' := by
  obtain ⟨_, _, hA, hm, hcs⟩ := id hv
  cases hA
  obtain ⟨ho1, ho2, ho3, -⟩ := ordB_parts l ho
  have hin : ∀ i, i < l.length → 0 ≤ nth l i ∧ nth l i < l.length := fun i hi => (hasB_iff _ _).1 (List.all_eq_true.1 ho3 _ (nth_mem l i hi))
  have Hin := Lib.hid hin
  clear ho ho3 hm hin
  by_cases h1 : u ≤ -(l.length : Int)
  · have hr : rmeetN l u v = 0 := by rw [rmeetN, show farB l.length u v = true by simp [farB, h1], if_pos rfl]
    rw [hr]
    clear hr hcs
    go_enter Try.func12, Try.ntmps12
    go_wp2_with fail
    go_ret
    exact ⟨rfl, Below.refl _ _⟩
  have d1 : decide (u ≤ -(l.length : Int)) = false := decide_eq_false h1
  by_cases h2 : (l.length : Int) ≤ u
  · have hr : rmeetN l u v = 0 := by rw [rmeetN, show farB l.length u v = true by simp [farB, h2], if_pos rfl]
    rw [hr]
    clear hr hcs h1
    go_enter Try.func12, Try.ntmps12
    go_wp2_with fail
    go_ret
    exact ⟨rfl, Below.refl _ _⟩
  have d2 : decide ((l.length : Int) ≤ u) = false := decide_eq_false h2
  by_cases h3 : v ≤ -(l.length : Int)
  · have hr : rmeetN l u v = 0 := by rw [rmeetN, show farB l.length u v = true by simp [farB, h3], if_pos rfl]
    rw [hr]
    clear hr hcs h1 h2
    go_enter Try.func12, Try.ntmps12
    go_wp2_with fail
    go_ret
    exact ⟨rfl, Below.refl _ _⟩
  have d3 : decide (v ≤ -(l.length : Int)) = false := decide_eq_false h3
  by_cases h4 : (l.length : Int) ≤ v
  · have hr : rmeetN l u v = 0 := by rw [rmeetN, show farB l.length u v = true by simp [farB, h4], if_pos rfl]
    rw [hr]
    clear hr hcs h1 h2 h3
    go_enter Try.func12, Try.ntmps12
    go_wp2_with fail
    go_ret
    exact ⟨rfl, Below.refl _ _⟩
  have d4 : decide ((l.length : Int) ≤ v) = false := decide_eq_false h4
  have hr : rmeetN l u v = rmI l u v l.length := by rw [rmeetN, show farB l.length u v = false by simp only [farB, decide_eq_false_iff_not]; omega]; rfl
  rw [hr]
  have u1 : -(l.length : Int) < u := by omega
  have u2 : u < (l.length : Int) := by omega
  have v1 : -(l.length : Int) < v := by omega
  have v2 : v < (l.length : Int) := by omega
  clear hr h1 h2 h3 h4
  go_enter Try.func12, Try.ntmps12
  go_wp2_with fail
  go_loopw [8, 9] (fun x i wr => ∃ k : Nat, k ≤ l.length ∧ i = .int .i64 k ∧ x = .int .i64 (rmI l u v k) ∧ ∃ m, wr = w.drewN m) (fun _ i _ => l.length - (intOf i).toNat)
  case atStart => exact ⟨0, Nat.zero_le _, rfl, rfl, 0, rfl⟩
  case round =>
    obtain ⟨k, hk, rfl, rfl, m0, rfl⟩ := hrel
    have hle := rmI_le l u v k
    by_cases hlt : k < l.length
    · by_cases g1 : 0 ≤ (k : Int) + u
      · obtain ⟨m, hm⟩ := Int.eq_ofNat_of_zero_le g1
        have r1 : IntKind.i64.wrap ((k : Int) + u) = (m : Int) := by rw [← hm]; exact IntWalk.i64_in _ (by omega)
        by_cases g2 : m < l.length
        · obtain ⟨b1, o1, x1, hA1, c1, rfl⟩ := hcs k hlt
          obtain ⟨b2, o2, x2, hA2, c2, rfl⟩ := hcs m g2
          subst hA1
          cases hA2
          have i1 := Hin.out k hlt
          have i2 := Hin.out m g2
          have r2 : IntKind.i64.wrap (nth l k + v) = nth l k + v := IntWalk.i64_in _ (by omega)
          have hmI : (m : Int) < l.length := by omega
          by_cases e : nth l m = nth l k + v
          · have q1 : (nth l m == nth l k + v) = true := by simp [e]
            have Hy := Lib.hid (rmI_yes l u v k (by simp only [rmB, Bool.and_eq_true, decide_eq_true_eq]; exact ⟨⟨g1, by omega⟩, by rw [hm]; exact e⟩))
            generalize rmI l u v k = x at *
            generalize nth l m = y at *
            generalize nth l k = z at *
            clear hcs e hm g1
            go_wp2_with fail
            refine wp_region_quiet_lit (by kernel_rfl) (by kernel_rfl) ?_
            iterate 26 go_big_quiet_step (fail)
            refine wpQuiet_nil ?_
            intro _ hw'
            obtain ⟨nq, hw''⟩ := hw'
            subst hw''
            clear r1 r2 c1 c2 q1
            go_wp2_with fail
            go_roundw
            case rel => exact ⟨k + 1, by omega, by go_num, by rw [Hy.out]; go_num, m0 + nq, by first | rfl | exact World.drewN_drewN _ _ _⟩
            case measure => simp [intOf]; omega
          · have q1 : (nth l m == nth l k + v) = false := by simp [e]
            have Hy := Lib.hid (rmI_no l u v k (by rw [Bool.eq_false_iff]; intro h; simp only [rmB, Bool.and_eq_true, decide_eq_true_eq] at h; rw [hm] at h; exact e h.2))
            generalize rmI l u v k = x at *
            generalize nth l m = y at *
            generalize nth l k = z at *
            clear hcs e hm g1
            go_wp2_with fail
            refine wp_region_quiet_lit (by kernel_rfl) (by kernel_rfl) ?_
            iterate 26 go_big_quiet_step (fail)
            refine wpQuiet_nil ?_
            intro _ hw'
            obtain ⟨nq, hw''⟩ := hw'
            subst hw''
            clear r1 r2 c1 c2 q1
            go_wp2_with fail
            go_roundw
            case rel => exact ⟨k + 1, by omega, by go_num, by rw [Hy.out], m0 + nq, by first | rfl | exact World.drewN_drewN _ _ _⟩
            case measure => simp [intOf]; omega
        · have g3 : decide (m < l.length) = false := decide_eq_false g2
          have g4 : decide ((m : Int) < l.length) = false := decide_eq_false (by omega)
          have Hy := Lib.hid (rmI_no l u v k (by rw [Bool.eq_false_iff]; intro h; simp only [rmB, Bool.and_eq_true, decide_eq_true_eq] at h; omega))
          generalize rmI l u v k = x at *
          clear hcs hm g1 g2
          go_wp2_with fail
          refine wp_region_quiet_lit (by kernel_rfl) (by kernel_rfl) ?_
          iterate 26 go_big_quiet_step (fail)
          refine wpQuiet_nil ?_
          intro _ hw'
          obtain ⟨nq, hw''⟩ := hw'
          subst hw''
          clear r1
          go_wp2_with fail
          go_roundw
          case rel => exact ⟨k + 1, by omega, by go_num, by rw [Hy.out], m0 + nq, by first | rfl | exact World.drewN_drewN _ _ _⟩
          case measure => simp [intOf]; omega
      · have r1 : IntKind.i64.wrap ((k : Int) + u) = (k : Int) + u := IntWalk.i64_in _ (by omega)
        have g2 : decide (0 ≤ (k : Int) + u) = false := decide_eq_false g1
        have Hy := Lib.hid (rmI_no l u v k (by rw [Bool.eq_false_iff]; intro h; simp only [rmB, Bool.and_eq_true, decide_eq_true_eq] at h; omega))
        generalize rmI l u v k = x at *
        clear hcs g1
        go_wp2_with fail
        refine wp_region_quiet_lit (by kernel_rfl) (by kernel_rfl) ?_
        iterate 26 go_big_quiet_step (fail)
        refine wpQuiet_nil ?_
        intro _ hw'
        obtain ⟨nq, hw''⟩ := hw'
        subst hw''
        clear r1
        go_wp2_with fail
        go_roundw
        case rel => exact ⟨k + 1, by omega, by go_num, by rw [Hy.out], m0 + nq, by first | rfl | exact World.drewN_drewN _ _ _⟩
        case measure => simp [intOf]; omega
    · have hke : k = l.length := by omega
      have Hke := Lib.hid hke
      clear hke hcs
      go_wp2_with fail
      go_ret
      exact ⟨by rw [Hke.out]; rfl, below_drewN (Below.refl _ _)⟩
set_option maxHeartbeats 1000000 in
theorem law_meetings (v0 : Value) (l0 : List Int) (u v : Int) (w : World) (hv : RdI w v0 l0) (hf : fits l0) (hcap : Cap v0) (hu : (Lit.int .i64 u).wf = true) (hv0 : (Lit.int .i64 v).wf = true) :
    Calls Try.prog 3 #[v0, .int .i64 u, .int .i64 v] w fun e w' => e = .returned (.bool true) ∧ Keeps w w' := by
  have hli := list_c v0 l0 w hv hcap
  generalize l0.take 17 = l at *
  have hro := fun x A c hx => rorder_c (.slice A l.length c) l x hx
  by_cases ho : ordB l = true
  · have hme := fun x A c hx => meeting_yes A c l ho u v x hx
    have hrm := fun x A c hx => rmeeting_c A c l ho u v x hx
    obtain ⟨ho1, ho2, ho3, -⟩ := ordB_parts l ho
    have heq := meet_eq l u v (fun i hi => (hasB_iff _ _).1 (List.all_eq_true.1 ho3 _ (nth_mem l i hi)))
    rw [← heq] at hrm
    rw [ho] at hro
    generalize meetN l u v = N at *
    clear ho ho3 heq hv hf hcap hu hv0
    go_enter Try.func3, Try.ntmps3
    go_wp2_with (first
      | (go_at_call 8; refine hli.mono ?_; rintro e w1 ⟨A, c, rfl, hl1, hb1⟩)
      | (go_at_call 9; refine (hme _ _ _ hl1).mono ?_; rintro e w2 ⟨rfl, hb2⟩; have hl2 := RdI.below hl1 hb2; have hk2 := Keeps.next hb1 hb2)
      | (go_at_call 10; refine (hro _ _ _ hl2).mono ?_; rintro e w3 ⟨rfl, hb3⟩; have hl3 := RdI.below hl2 hb3; have hk3 := Keeps.next hk2 hb3)
      | (go_at_call 12; refine (hrm _ _ _ hl3).mono ?_; rintro e w4 ⟨rfl, hb4⟩; have hk4 := Keeps.next hk3 hb4)
      | (go_at_call 11; refine (awake_c _).mono ?_; rintro e w5 ⟨rfl, hb5⟩; have hk5 := Keeps.next hk4 hb5))
    go_ret
    exact ⟨rfl, hk5⟩
  · have ho' : ordB l = false := by simpa using ho
    have hme := fun x A c hx => meeting_no A c l ho' u v x hx
    rw [ho'] at hro
    clear ho ho' hv hf hcap hu hv0
    go_enter Try.func3, Try.ntmps3
    go_wp2_with (first
      | (go_at_call 8; refine hli.mono ?_; rintro e w1 ⟨A, c, rfl, hl1, hb1⟩)
      | (go_at_call 9; refine (hme _ _ _ hl1).mono ?_; rintro e w2 ⟨rfl, hb2⟩; have hl2 := RdI.below hl1 hb2; have hk2 := Keeps.next hb1 hb2)
      | (go_at_call 10; refine (hro _ _ _ hl2).mono ?_; rintro e w3 ⟨rfl, hb3⟩; have hk3 := Keeps.next hk2 hb3)
      | (go_at_call 11; refine (awake_c _).mono ?_; rintro e w5 ⟨rfl, hb5⟩; have hk5 := Keeps.next hk3 hb5))
    go_ret
    exact ⟨rfl, hk5⟩
end Go.Proofs.Ytjakpneoodlmcaa
