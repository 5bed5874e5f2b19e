/- The law of Send. -/
import Derived.Test.YtfaogfcbppojoaaKe
import Derived.Test.YtfaogfcbppojoaaJc
namespace Go.Proofs.Ytfaogfcbppojoaa
open Go.RowKit
set_option linter.unusedVariables false

theorem rdT_head {w : World} {u : Value} {T : List (List Int)} (hB : windB T = true) (hu : RdT w u T) : ∃ b off c A c0, u = .slice (some ⟨b, off, none⟩) T.length c ∧ w.cell? ⟨b, off, none⟩ = some (.slice A (shN T) c0) := by
  obtain ⟨h12, _⟩ := windB_parts T hB
  obtain ⟨A, c, rfl, _, hcs⟩ := hu
  obtain ⟨b, off, x, rfl, hc, l, hl, hr⟩ := hcs 0 (by omega)
  obtain ⟨A0, c0, rfl, _, _⟩ := hr
  exact ⟨b, off, c, A0, c0, rfl, by rw [Nat.add_zero] at hc; rw [hc, (col_of T hB 0 l hl).1]⟩
theorem rdT_form {w : World} {u : Value} {T : List (List Int)} (hu : RdT w u T) : ∃ A c, u = .slice A T.length c := by
  obtain ⟨A, c, rfl, _⟩ := hu
  exact ⟨A, c, rfl⟩
theorem rtable_k (v : Value) (t : List (List Int)) (w : World) (hv : RdT w v t) :
    Calls Try.prog 19 #[v] w fun e w' => e = .returned (.bool (windB t)) ∧ Keeps w w' :=
  (rtable_c v t w hv).mono fun _ _ ⟨h, m, hm⟩ => ⟨h, by rw [hm]; exact keeps_drewN _ _⟩
theorem cut_small (t : List (List Int)) : (cut t).length ≤ maxLen := by rw [cut_length]; unfold maxLen; omega

set_option maxHeartbeats 2000000 in
set_option maxRecDepth 100000 in
theorem law_sends (v : Value) (t : List (List Int)) (s : Int) (b : ByteArray) (w : World) (hv : RdTC w v t) (_ : ∀ l ∈ t, fits l) (_ : Cap v) (_ : (Lit.int .i64 s).wf = true) (hm : b.size ≤ maxLen) :
    Calls Try.prog 5 #[v, .int .i64 s, .string b] w fun e w' => e = .returned (.bool true) ∧ Keeps w w' := by
  have htab := table_c v t w hv
  have hbr := fun x => brief_c b hm x
  have hbz := brief_size b
  have hbm : (briefS b).size ≤ maxLen := by unfold maxLen; omega
  have hTl := cut_small t
  unfold maxLen at hTl
  generalize briefS b = bb at *
  generalize cut t = T at *
  have hrt := fun x u (hx : RdT x u T) => rtable_k u T x hx
  by_cases hB : windB T = true
  · rw [hB] at hrt
    have hd5 : (shN T : Int) ≤ 5 := by have := (windB_parts T hB).2.2.1; omega
    have hT0 : 0 < T.length := by have := (windB_parts T hB).1; omega
    have hrw := fun x => rword_c T.length bb hbm x
    rw [redB_eq T.length bb (by have := (windB_parts T hB).1; omega)] at hrw
    by_cases hs : hasB (shN T) s = true
    · obtain ⟨s0, s1⟩ := (hasB_iff _ _).1 hs
      have e0 : decide (s < 0) = false := by simp; omega
      have e1 : decide ((shN T : Int) ≤ s) = false := by simp; omega
      by_cases hW : wordB T.length bb.data.toList = true
      · have hsend := fun x u (hx : RdT x u T) => csend_yes u T hB s hs bb hbm hW x hx
        have hrs := fun x u (hx : RdT x u T) => rsend_c u T hB x hx s ⟨s0, s1⟩ bb hbm (by simp only [wordB, Bool.and_eq_true] at hW; exact hW.2)
        rw [hW] at hrw
        generalize snd (windW T) s bb.data.toList = r at *
        have hrr : (r == r) = true := by simp
        clear hW hs hv
        go_enter Try.func5, Try.ntmps5
        go_wp2_with (
          first
          | (go_at_call 17; refine htab.mono ?_; rintro e w1 ⟨u, rfl, hu1, hb1⟩; obtain ⟨bu, ou, cu, Au, cu0, rfl, hcu⟩ := rdT_head hB hu1; clear htab)
          | (go_at_call 7; refine (hbr _).mono ?_; rintro e w2 ⟨rfl, hh⟩; obtain rfl := hh.symm)
          | (go_at_call 18; refine (hsend _ _ hu1).mono ?_; rintro e w3 ⟨rfl, hb3⟩; have hu3 := hu1.below hb3; have hk3 := Keeps.next hb1 hb3; have hcu3 := cell_keep hcu hb3; clear hcu)
          | (go_at_call 19; refine (hrt _ _ hu3).mono ?_; rintro e w4 ⟨rfl, hb4⟩; have hu4 := hu3.below hb4; have hk4 := Keeps.next hk3 hb4; have hcu4 := cell_keep hcu3 hb4; clear hcu3)
          | (go_at_call 9; refine (hrw _).mono ?_; rintro e w5 ⟨rfl, hh⟩; obtain rfl := hh.symm)
          | (go_at_call 20; refine (hrs _ _ hu4).mono ?_; rintro e w6 ⟨rfl, hh⟩; obtain rfl := hh.symm)
          | (go_at_call 10; refine (awake_c _).mono ?_; rintro e w7 ⟨rfl, hb7⟩; have hk7 := Keeps.next hk4 hb7))
        go_ret
        exact ⟨rfl, hk7⟩
      · have hW' : wordB T.length bb.data.toList = false := by simpa using hW
        have hsend := fun x u (hx : RdT x u T) => csend_no u T s bb hbm (by simp [sendB, hW']) x hx
        rw [hW'] at hrw
        clear hW hW' hs hv
        go_enter Try.func5, Try.ntmps5
        go_wp2_with (
          first
          | (go_at_call 17; refine htab.mono ?_; rintro e w1 ⟨u, rfl, hu1, hb1⟩; obtain ⟨bu, ou, cu, Au, cu0, rfl, hcu⟩ := rdT_head hB hu1; clear htab)
          | (go_at_call 7; refine (hbr _).mono ?_; rintro e w2 ⟨rfl, hh⟩; obtain rfl := hh.symm)
          | (go_at_call 18; refine (hsend _ _ hu1).mono ?_; rintro e w3 ⟨rfl, hb3⟩; have hu3 := hu1.below hb3; have hk3 := Keeps.next hb1 hb3; have hcu3 := cell_keep hcu hb3; clear hcu)
          | (go_at_call 19; refine (hrt _ _ hu3).mono ?_; rintro e w4 ⟨rfl, hb4⟩; have hu4 := hu3.below hb4; have hk4 := Keeps.next hk3 hb4; have hcu4 := cell_keep hcu3 hb4; clear hcu3)
          | (go_at_call 9; refine (hrw _).mono ?_; rintro e w5 ⟨rfl, hh⟩; obtain rfl := hh.symm)
          | (go_at_call 10; refine (awake_c _).mono ?_; rintro e w7 ⟨rfl, hb7⟩; have hk7 := Keeps.next hk4 hb7))
        go_ret
        exact ⟨rfl, hk7⟩
    · have hs' : hasB (shN T) s = false := by simpa using hs
      have hsend := fun x u (hx : RdT x u T) => csend_no u T s bb hbm (by simp [sendB, hs']) x hx
      have hcase : s < 0 ∨ (0 ≤ s ∧ (shN T : Int) ≤ s) := by
        by_cases h : s < 0
        · exact .inl h
        · refine .inr ⟨by omega, ?_⟩
          by_cases h2 : s < shN T
          · exact absurd ((hasB_iff _ _).2 ⟨by omega, h2⟩) hs
          · omega
      clear hs hs' hv hrw
      rcases hcase with h1 | ⟨h1, h2⟩
      · skip
        go_enter Try.func5, Try.ntmps5
        go_wp2_with (
          first
          | (go_at_call 17; refine htab.mono ?_; rintro e w1 ⟨u, rfl, hu1, hb1⟩; obtain ⟨bu, ou, cu, Au, cu0, rfl, hcu⟩ := rdT_head hB hu1; clear htab)
          | (go_at_call 7; refine (hbr _).mono ?_; rintro e w2 ⟨rfl, hh⟩; obtain rfl := hh.symm)
          | (go_at_call 18; refine (hsend _ _ hu1).mono ?_; rintro e w3 ⟨rfl, hb3⟩; have hu3 := hu1.below hb3; have hk3 := Keeps.next hb1 hb3; have hcu3 := cell_keep hcu hb3; clear hcu)
          | (go_at_call 19; refine (hrt _ _ hu3).mono ?_; rintro e w4 ⟨rfl, hb4⟩; have hu4 := hu3.below hb4; have hk4 := Keeps.next hk3 hb4; have hcu4 := cell_keep hcu3 hb4; clear hcu3)
          | (go_at_call 10; refine (awake_c _).mono ?_; rintro e w7 ⟨rfl, hb7⟩; have hk7 := Keeps.next hk4 hb7))
        go_ret
        exact ⟨rfl, hk7⟩
      · skip
        go_enter Try.func5, Try.ntmps5
        go_wp2_with (
          first
          | (go_at_call 17; refine htab.mono ?_; rintro e w1 ⟨u, rfl, hu1, hb1⟩; obtain ⟨bu, ou, cu, Au, cu0, rfl, hcu⟩ := rdT_head hB hu1; clear htab)
          | (go_at_call 7; refine (hbr _).mono ?_; rintro e w2 ⟨rfl, hh⟩; obtain rfl := hh.symm)
          | (go_at_call 18; refine (hsend _ _ hu1).mono ?_; rintro e w3 ⟨rfl, hb3⟩; have hu3 := hu1.below hb3; have hk3 := Keeps.next hb1 hb3; have hcu3 := cell_keep hcu hb3; clear hcu)
          | (go_at_call 19; refine (hrt _ _ hu3).mono ?_; rintro e w4 ⟨rfl, hb4⟩; have hu4 := hu3.below hb4; have hk4 := Keeps.next hk3 hb4; have hcu4 := cell_keep hcu3 hb4; clear hcu3)
          | (go_at_call 10; refine (awake_c _).mono ?_; rintro e w7 ⟨rfl, hb7⟩; have hk7 := Keeps.next hk4 hb7))
        go_ret
        exact ⟨rfl, hk7⟩
  · have hB' : windB T = false := by simpa using hB
    have hsend := fun x u (hx : RdT x u T) => csend_no u T s bb hbm (by simp [sendB, hB']) x hx
    rw [hB'] at hrt
    clear hB hB' hv
    go_enter Try.func5, Try.ntmps5
    go_wp2_with (
      first
      | (go_at_call 17; refine htab.mono ?_; rintro e w1 ⟨u, rfl, hu1, hb1⟩; obtain ⟨Au, cu, rfl⟩ := rdT_form hu1; clear htab)
      | (go_at_call 7; refine (hbr _).mono ?_; rintro e w2 ⟨rfl, hh⟩; obtain rfl := hh.symm)
      | (go_at_call 18; refine (hsend _ _ hu1).mono ?_; rintro e w3 ⟨rfl, hb3⟩; have hu3 := hu1.below hb3; have hk3 := Keeps.next hb1 hb3; skip)
      | (go_at_call 19; refine (hrt _ _ hu3).mono ?_; rintro e w4 ⟨rfl, hb4⟩; have hu4 := hu3.below hb4; have hk4 := Keeps.next hk3 hb4)
      | (go_at_call 10; refine (awake_c _).mono ?_; rintro e w7 ⟨rfl, hb7⟩; have hk7 := Keeps.next hk4 hb7))
    go_ret
    exact ⟨rfl, hk7⟩
end Go.Proofs.Ytfaogfcbppojoaa
