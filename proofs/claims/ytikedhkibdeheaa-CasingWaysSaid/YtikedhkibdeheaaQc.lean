/- The reference's Connected. -/
import Derived.Test.YtikedhkibdeheaaQb
namespace Go.Proofs.Ytikedhkibdeheaa
open Go.RowKit
set_option linter.unusedVariables false

theorem rdT_first {w : World} {u : Value} {T : List (List Int)} (hB : windB T = true) (hu : RdT w u T) : ∃ b off c A c0, u = .slice (some ⟨b, off, none⟩) T.length c ∧ w.cell? ⟨b, off, none⟩ = some (.slice A (shN T) c0) := by
  obtain ⟨h12, _⟩ := windB_parts T hB
  obtain ⟨A, c, rfl, _, hcs⟩ := hu
  obtain ⟨b, off, x, rfl, hc, l, hl, hr⟩ := hcs 0 (by omega)
  obtain ⟨A0, c0, rfl, _, _⟩ := hr
  exact ⟨b, off, c, A0, c0, rfl, by rw [Nat.add_zero] at hc; rw [hc, (col_of T hB 0 l hl).1]⟩
def numT (t : List (List Int)) (s : Int) : List Fd := numS (sg (windW t)) (2 * t.length) s
def connB (t : List (List Int)) : Bool := decide ((numT t 0).length = shN t)
set_option maxHeartbeats 1000000 in
set_option maxRecDepth 100000 in
theorem rconnected_c (v : Value) (t : List (List Int)) (hB : windB t = true) (w : World) (hv : RdT w v t) :
    Calls Try.prog 45 #[v] w fun e w' => e = .returned (.bool (connB t)) ∧ Keeps w w' := by
  obtain ⟨b, off, c, A, c0, rfl, hc⟩ := rdT_first hB hv
  obtain ⟨h12, d1, d5, _⟩ := windB_parts t hB
  have hnum := rnumbering_c b off c t hB w hv 0 ⟨by omega, by omega⟩
  have hT0 : 0 < t.length := by omega
  have hT2 : t.length ≤ 2 := by omega
  have Hc := Lib.hid (show connB t = decide ((numT t 0).length = shN t) from rfl)
  change Calls _ _ _ _ (fun e w' => ∃ u y, e = .returned (.tuple #[u, y]) ∧ RdI w' u (shs (numT t 0)) ∧ RdS w' y _ ∧ Keeps w w') at hnum
  generalize numT t 0 = L at *
  by_cases hl : L.length = shN t
  · have hb : (((shs L).length : Int) == (shN t : Int)) = true := by rw [shs_length, hl]; simp
    have Hl := Lib.hid hl
    clear hl hv
    go_enter Try.func45, Try.ntmps45
    go_wp2_with (go_at_call 54; refine hnum.mono ?_; rintro e w1 ⟨u, y, rfl, hu, _, hb1⟩; obtain ⟨A1, c1, rfl, hm1, -⟩ := hu; have hc1 := cell_keep hc hb1; unfold maxLen at hm1)
    go_ret
    exact ⟨ret_bool (by rw [Hc.out, Hl.out]; simp), hb1⟩
  · have hb : (((shs L).length : Int) == (shN t : Int)) = false := by rw [shs_length]; simp; omega
    have Hl := Lib.hid hl
    clear hl hv
    go_enter Try.func45, Try.ntmps45
    go_wp2_with (go_at_call 54; refine hnum.mono ?_; rintro e w1 ⟨u, y, rfl, hu, _, hb1⟩; obtain ⟨A1, c1, rfl, hm1, -⟩ := hu; have hc1 := cell_keep hc hb1; unfold maxLen at hm1)
    go_ret
    exact ⟨ret_bool (by rw [Hc.out]; symm; rw [decide_eq_false_iff_not]; exact Hl.out), hb1⟩
end Go.Proofs.Ytikedhkibdeheaa
