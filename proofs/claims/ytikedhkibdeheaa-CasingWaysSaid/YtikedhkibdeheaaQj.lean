/- The law CasingWays. -/
import Derived.Test.YtikedhkibdeheaaQi
import Derived.Test.YtikedhkibdeheaaHd
import Derived.Test.YtikedhkibdeheaaKb
namespace Go.Proofs.Ytikedhkibdeheaa
open Go.RowKit
set_option linter.unusedVariables false

set_option maxHeartbeats 4000000 in
set_option maxRecDepth 100000 in
theorem law_ways (v : Value) (t : List (List Int)) (w : World) (hv : RdTC w v t) :
    Calls Try.prog 7 #[v] w fun e w' => e = .returned (.bool true) ∧ Keeps w w' := by
  have htab := table_c v t w hv
  generalize cut t = T at *
  have hrt := fun x u (h : RdT x u T) => rtable_c u T x h
  by_cases hB : windB T = true
  · have hst := fun x u (h : RdT x u T) => rstandard_c u T hB x h
    rw [hB] at hrt
    by_cases hS : stdB (windW T) = true
    · rw [← stan_eq T hB, hS] at hst
      have hpw := fun x u (h : RdT x u T) => pways_yes u T hB hS x h
      have hpg := fun x u (h : RdT x u T) => generators_yes u T hB hS x h
      have hrw := fun x u (h : RdT x u T) => rways_c u T hB x h
      have hrg := fun x u (h : RdT x u T) => rgens_c u T hB hS x h
      have htw := fun x u u' (h : RdS x u (waysT T)) (h' : RdS x u' (waysT T)) => texts_c u u' (waysT T) (waysT T) x h h'
      rw [decide_eq_true (rfl : waysT T = waysT T)] at htw
      generalize waysT T = Y at *
      generalize ((gensT T).map fun l => (⟨l.toArray⟩ : ByteArray)) = Z at *
      have htz := fun x u u' (h : RdS x u Z) (h' : RdS x u' Z) => texts_c u u' Z Z x h h'
      rw [decide_eq_true (rfl : Z = Z)] at htz
      clear hB hS hv
      go_enter Try.func7, Try.ntmps7
      go_wp2_with (
        first
        | (go_at_call 23; refine htab.mono ?_; rintro e w1 ⟨u, rfl, hu1, hb1⟩)
        | (go_at_call 24; refine (hpw _ _ hu1).mono ?_; rintro e w2 ⟨uw, rfl, hw2, hb2⟩; have hu2 := hu1.below hb2; have hk2 := Keeps.next hb1 hb2)
        | (go_at_call 25; refine (hpg _ _ hu2).mono ?_; rintro e w3 ⟨ug, rfl, hgg, hb3⟩; have hg3 := RdB.rd hgg (fun _ _ h => h); have hu3 := hu2.below hb3; have hw3 := hw2.below hb3; have hk3 := Keeps.next hk2 hb3)
        | (go_at_call 26; refine (hrt _ _ hu3).mono ?_; rintro e w4 ⟨rfl, m4, e4⟩; have hb4 : Keeps w3 w4 := e4 ▸ keeps_drewN w3 m4; clear e4; have hu4 := hu3.below hb4; have hw4 := hw3.below hb4; have hg4 := RdS.below hg3 hb4; have hk4 := Keeps.next hk3 hb4)
        | (go_at_call 27; refine (hst _ _ hu4).mono ?_; rintro e w5 ⟨rfl, hb5⟩; have hu5 := hu4.below hb5; have hw5 := hw4.below hb5; have hg5 := RdS.below hg4 hb5; have hk5 := Keeps.next hk4 hb5)
        | (go_at_call 29; refine (hrw _ _ hu5).mono ?_; rintro e w6 ⟨y, rfl, hy6, hb6⟩; have hu6 := hu5.below hb6; have hw6 := hw5.below hb6; have hg6 := RdS.below hg5 hb6; have hk6 := Keeps.next hk5 hb6)
        | (go_at_call 30; refine (hrg _ _ hu7).mono ?_; rintro e w8 ⟨y8, rfl, hy8, hb8⟩; have hg8 := RdS.below hg7 hb8; have hk8 := Keeps.next hk7 hb8)
        | (go_at_call 28; refine (htw _ _ _ hw6 hy6).mono ?_; rintro e w7 ⟨rfl, m7, e7⟩; have hb7 : Keeps w6 w7 := e7 ▸ keeps_drewN w6 m7; clear e7 htw; have hu7 := hu6.below hb7; have hg7 := RdS.below hg6 hb7; have hk7 := Keeps.next hk6 hb7)
        | (go_at_call 28; refine (htz _ _ _ hg8 hy8).mono ?_; rintro e w9 ⟨rfl, m9, e9⟩; have hb9 : Keeps w8 w9 := e9 ▸ keeps_drewN w8 m9; clear e9; have hk9 := Keeps.next hk8 hb9)
        | (go_at_call 13; refine (awake_c _).mono ?_; rintro e w10 ⟨rfl, hb10⟩; have hk10 := Keeps.next hk9 hb10))
      go_ret
      exact ⟨rfl, hk10⟩
    · have hS' : stdB (windW T) = false := by simpa using hS
      rw [← stan_eq T hB, hS'] at hst
      have hpw := fun x u (h : RdT x u T) => pways_no2 u T hB hS' x h
      have hpg := fun x u (h : RdT x u T) => generators_no2 u T hB hS' x h
      clear hB hS hS' hv
      go_enter Try.func7, Try.ntmps7
      go_wp2_with (
        first
        | (go_at_call 23; refine htab.mono ?_; rintro e w1 ⟨u, rfl, hu1, hb1⟩)
        | (go_at_call 24; refine (hpw _ _ hu1).mono ?_; rintro e w2 ⟨rfl, hb2⟩; have hu2 := hu1.below hb2; have hk2 := Keeps.next hb1 hb2)
        | (go_at_call 25; refine (hpg _ _ hu2).mono ?_; rintro e w3 ⟨rfl, hb3⟩; have hu3 := hu2.below hb3; have hk3 := Keeps.next hk2 hb3)
        | (go_at_call 26; refine (hrt _ _ hu3).mono ?_; rintro e w4 ⟨rfl, m4, e4⟩; have hb4 : Keeps w3 w4 := e4 ▸ keeps_drewN w3 m4; clear e4; have hu4 := hu3.below hb4; have hk4 := Keeps.next hk3 hb4)
        | (go_at_call 27; refine (hst _ _ hu4).mono ?_; rintro e w5 ⟨rfl, hb5⟩; have hk5 := Keeps.next hk4 hb5)
        | (go_at_call 13; refine (awake_c _).mono ?_; rintro e w10 ⟨rfl, hb10⟩; have hk10 := Keeps.next hk5 hb10))
      go_ret
      exact ⟨rfl, hk10⟩
  · have hB' : windB T = false := by simpa using hB
    rw [hB'] at hrt
    have hpw := fun x u (h : RdT x u T) => pways_no1 u T hB' x h
    have hpg := fun x u (h : RdT x u T) => generators_no1 u T hB' x h
    clear hB hB' hv
    go_enter Try.func7, Try.ntmps7
    go_wp2_with (
      first
      | (go_at_call 23; refine htab.mono ?_; rintro e w1 ⟨u, rfl, hu1, hb1⟩)
      | (go_at_call 24; refine (hpw _ _ hu1).mono ?_; rintro e w2 ⟨rfl, hb2⟩; have hu2 := hu1.below hb2; have hk2 := Keeps.next hb1 hb2)
      | (go_at_call 25; refine (hpg _ _ hu2).mono ?_; rintro e w3 ⟨rfl, hb3⟩; have hu3 := hu2.below hb3; have hk3 := Keeps.next hk2 hb3)
      | (go_at_call 26; refine (hrt _ _ hu3).mono ?_; rintro e w4 ⟨rfl, m4, e4⟩; have hb4 : Keeps w3 w4 := e4 ▸ keeps_drewN w3 m4; clear e4; have hk4 := Keeps.next hk3 hb4)
      | (go_at_call 13; refine (awake_c _).mono ?_; rintro e w10 ⟨rfl, hb10⟩; have hk10 := Keeps.next hk4 hb10))
    go_ret
    exact ⟨rfl, hk10⟩
end Go.Proofs.Ytikedhkibdeheaa
