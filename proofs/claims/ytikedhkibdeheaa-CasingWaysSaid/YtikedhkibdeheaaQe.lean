/- The reference's Standard and Ways. -/
import Derived.Test.YtikedhkibdeheaaQd
import Derived.Test.YtikedhkibdeheaaHa
namespace Go.Proofs.Ytikedhkibdeheaa
open Go.RowKit Go.Deep
set_option linter.unusedVariables false

def stanB (t : List (List Int)) : Bool := connB t && decide (renT t 0 = t)
set_option maxHeartbeats 2000000 in
set_option maxRecDepth 100000 in
theorem rstandard_c (v : Value) (t : List (List Int)) (hB : windB t = true) (w : World) (hv : RdT w v t) :
    Calls Try.prog 27 #[v] w fun e w' => e = .returned (.bool (stanB t)) ∧ Keeps w w' := by
  obtain ⟨h12, d1, d5, _⟩ := windB_parts t hB
  have hco := rconnected_c v t hB w hv
  by_cases hc : (numT t 0).length = shN t
  · have hb : connB t = true := by simp [connB, hc]
    have hs : stanB t = decide (renT t 0 = t) := by simp [stanB, hb]
    have hre := fun w1 (h : RdT w1 v t) => rrenumber_c v t hB w1 h 0 ⟨by omega, by omega⟩ hc
    rw [hb] at hco
    rw [hs]
    have hsm := fun x u w1 hx hu => same_c x u (renT t 0) t w1 hx hu
    generalize decide (renT t 0 = t) = D at *
    clear hb hs hc
    go_enter Try.func27, Try.ntmps27
    go_wp2_with (first
      | (go_at_call 45; refine hco.mono ?_; rintro e w1 ⟨rfl, hb1⟩; have hv1 := RdT.below hv hb1)
      | (go_at_call 53; refine (hre _ hv1).mono ?_; rintro e w2 ⟨u, rfl, hu, hb2⟩; have hv2 := RdT.below hv1 hb2)
      | (go_at_call 22; refine (hsm _ _ _ hu hv2).mono ?_; rintro e w3 ⟨rfl, m, rfl⟩))
    go_ret
    exact ⟨rfl, (hb1.next hb2).next (keeps_drewN w2 m)⟩
  · have hb : connB t = false := by simp [connB, hc]
    have hs : stanB t = false := by simp [stanB, hb]
    rw [hb] at hco
    rw [hs]
    clear hb hs hc
    go_enter Try.func27, Try.ntmps27
    go_wp2_with (go_at_call 45; refine hco.mono ?_; rintro e w1 ⟨rfl, hb1⟩)
    go_ret
    exact ⟨rfl, hb1⟩

def waysT (t : List (List Int)) : List ByteArray := (wayL (numT t 0) ((numT t 0).length - 1)).map fun l => (⟨l.toArray⟩ : ByteArray)
set_option maxHeartbeats 1000000 in
set_option maxRecDepth 100000 in
theorem rways_c (v : Value) (t : List (List Int)) (hB : windB t = true) (w : World) (hv : RdT w v t) :
    Calls Try.prog 29 #[v] w fun e w' => ∃ y, e = .returned y ∧ RdS w' y (waysT t) ∧ Keeps w w' := by
  obtain ⟨b, off, c, A, c0, rfl, _⟩ := rdT_first hB hv
  obtain ⟨h12, d1, d5, _⟩ := windB_parts t hB
  have hnum := rnumbering_c b off c t hB w hv 0 ⟨by omega, by omega⟩
  change Calls _ _ _ _ (fun e w' => ∃ u y, e = .returned (.tuple #[u, y]) ∧ RdI w' u (shs (numT t 0)) ∧ RdS w' y (waysT t) ∧ Keeps w w') at hnum
  generalize numT t 0 = L at *
  generalize waysT t = Y at *
  go_enter Try.func29, Try.ntmps29
  go_wp2_with (go_at_call 54; refine hnum.mono ?_; rintro e w1 ⟨u, y, rfl, hu, hy, hb1⟩)
  go_ret
  exact ⟨_, rfl, hy, hb1⟩
/-- What the program's isConnected says is what the reference's Connected says. -/
theorem windW_conn (t : List (List Int)) (hB : windB t = true) :
    decide (((numS (sg (windW t)) (2 * nth (windW t) 0).toNat 0).length : Int) = nth (windW t) 1) = connB t := by
  rw [windW_nth0 t hB, windW_nth1 t hB, connB, numT, show (2 * (t.length : Int)).toNat = 2 * t.length by omega, decide_eq_decide]
  omega
end Go.Proofs.Ytikedhkibdeheaa
