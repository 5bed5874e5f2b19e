/- An argument that is an array of three ints; the reference's Triple; the law of Triples. -/
import Derived.Test.YteffkcnlipdgaaaDoorAo
import Derived.Laws.IdiomArrays
namespace Go.Proofs.YteffkcnlipdgaaaDoor
open Go.RowKit Go.ChangeShapes Go.WideShapes
set_option linter.unusedVariables false
set_option linter.unusedSimpArgs false

section
variable {H : Type} {enc : TypeId × Value → H} {P : Program} {W : World} {base : Nat} {sp : Nat → Bool} {held : Bool}
theorem open_three {t e : TypeId} (ht : P.underlying t = some (.array 3 e)) (he : P.underlying e = some (.int .i64)) (hc : P.cellsOf e = 1) (hC : P.cellsOf t = 3) {r : Reach} {b0 : Nat} {v : Value} {d : DataW H} {ps : List MemPlace}
    (hv : Value.okWide P W r b0 t v) (hd : DataW.Trod enc P W base sp held t v d ps) :
    ∃ a b c : Int, v = .agg #[.int .i64 a, .int .i64 b, .int .i64 c] ∧ (Lit.int .i64 a).wf = true ∧ (Lit.int .i64 b).wf = true ∧ (Lit.int .i64 c).wf = true := by
  simp only [Value.okWide, ht] at hv
  obtain ⟨cs, rfl, hsz, _⟩ := hv
  rw [hC] at hsz
  obtain ⟨l⟩ := cs
  match l, hsz with
  | [c0, c1, c2], _ =>
    obtain ⟨fuel, hf⟩ := hd
    obtain ⟨y0, y1, y2, n, hx, h0, h1, h2⟩ := trod_array3 ht hc (by simpa [Value.cells] using hf)
    obtain ⟨a, ea, -, wa⟩ := DataW.trod_int he h0
    obtain ⟨b, eb, -, wb⟩ := DataW.trod_int he h1
    obtain ⟨c, ec, -, wc⟩ := DataW.trod_int he h2
    simp at ea eb ec
    subst ea eb ec
    exact ⟨a, b, c, rfl, wa, wb, wc⟩
end
set_option maxHeartbeats 4000000 in
set_option maxRecDepth 20000 in
theorem refTriple_c (x y z : Int) (w : World) :
    Calls Tryd.prog 14 #[.agg #[.int .i64 x, .int .i64 y, .int .i64 z]] w fun e w' => e = .returned (.bool (trB x y z)) ∧ Keeps w w' := by
  have hk : Keeps w (w.alloc (.cells #[.int .i64 x, .int .i64 y, .int .i64 z] 22)) := Keeps.alloc (Below.refl _ _) _
  by_cases ho : ord x y z
  · have hB := ho.bds
    obtain ⟨hx, hy, hz⟩ := hB
    obtain ⟨m1, m2⟩ := bd_mul hx hx
    obtain ⟨n1, n2⟩ := bd_mul hy hy
    obtain ⟨p1, p2⟩ := bd_mul hx hy
    have hh : 3 * x * y = 3 * (x * y) := Int.mul_assoc ..
    have hb : trB x y z = (((x * x + y * y).tmod z == 0) && ((x * x + y * y).tdiv z == 3 * x * y - z)) := by unfold trB; simp [ho]
    have hq : (x * x + y * y).tdiv z ≤ 2000000000000000000 ∧ 0 ≤ (x * x + y * y).tdiv z := by
      refine ⟨Int.le_trans (Int.tdiv_le_self _ (by omega)) (by omega), Int.tdiv_nonneg (by omega) (by unfold bd at hz; omega)⟩
    have ho2 := ho
    unfold bd at hx hy hz
    obtain ⟨x1, x2⟩ := hx
    obtain ⟨y1, y2⟩ := hy
    obtain ⟨z1, z2⟩ := hz
    obtain ⟨o1, o2, o3, o4⟩ := ho2
    have q0 : IntKind.i64.wrap (x * x) = x * x := IntWalk.i64_in _ (by omega)
    have q1 : IntKind.i64.wrap (y * y) = y * y := IntWalk.i64_in _ (by omega)
    have q2 : IntKind.i64.wrap (x * x + y * y) = x * x + y * y := IntWalk.i64_in _ (by omega)
    have q3 : IntKind.i64.wrap (3 * x) = 3 * x := IntWalk.i64_in _ (by omega)
    have q4 : IntKind.i64.wrap (3 * x * y) = 3 * x * y := IntWalk.i64_in _ (by omega)
    have q5 : IntKind.i64.wrap (3 * x * y - z) = 3 * x * y - z := IntWalk.i64_in _ (by omega)
    have q6 : IntKind.i64.wrap ((x * x + y * y).tdiv z) = (x * x + y * y).tdiv z := IntWalk.i64_in _ (by omega)
    have hz0 : z ≠ 0 := by omega
    have q7 : IntKind.i64.wrap ((x * x + y * y).tmod z) = (x * x + y * y).tmod z := IntWalk.i64_in _ (by have a1 := Int.tmod_nonneg (a := x * x + y * y) z (by omega); have a2 := Int.tmod_lt_of_pos (x * x + y * y) (b := z) (by omega); omega)
    have d1 : decide (x < 1) = false := decide_eq_false (by omega)
    have d2 : decide (y < x) = false := decide_eq_false (by omega)
    have d3 : decide (z < y) = false := decide_eq_false (by omega)
    have d4 : decide (1000000000 < z) = false := decide_eq_false (by omega)
    clear m1 m2 n1 n2 p1 p2 hh hq ho x1 x2 y1 y2 z1 z2 o1 o2 o3 o4
    generalize hS : x * x + y * y = S at *
    cases hT : (S.tmod z == 0)
    · rw [hT] at hb
      rw [Bool.false_and] at hb
      rw [hb]
      go_enter Tryd.func14, Tryd.ntmps14
      go_wp2_with fail
      go_quiet (fail)
      go_wp2_with fail
      go_ret
      exact ⟨rfl, below_drewN (n := nq) hk⟩
    · rw [hT] at hb
      rw [Bool.true_and] at hb
      rw [hb]
      go_enter Tryd.func14, Tryd.ntmps14
      go_wp2_with fail
      go_quiet (fail)
      go_wp2_with fail
      go_ret
      exact ⟨rfl, below_drewN (n := nq) hk⟩
  · have hb : trB x y z = false := by unfold trB; simp [ho]
    rw [hb]
    have Ho := Lib.hid ho
    clear ho hb
    cases d1 : decide (x < 1)
    · cases d2 : decide (y < x)
      · cases d3 : decide (z < y)
        · have d4 : decide (1000000000 < z) = true := by
            rw [decide_eq_true_iff]
            have h1 := of_decide_eq_false d1
            have h2 := of_decide_eq_false d2
            have h3 := of_decide_eq_false d3
            rcases Int.lt_or_le 1000000000 z with h | h
            · exact h
            · exact absurd ⟨by omega, by omega, by omega, h⟩ Ho.out
          go_enter Tryd.func14, Tryd.ntmps14
          go_wp2_with fail
          go_quiet (fail)
          go_wp2_with fail
          go_ret
          exact ⟨rfl, below_drewN (n := nq) hk⟩
        · go_enter Tryd.func14, Tryd.ntmps14
          go_wp2_with fail
          go_quiet (fail)
          go_wp2_with fail
          go_ret
          exact ⟨rfl, below_drewN (n := nq) hk⟩
      · go_enter Tryd.func14, Tryd.ntmps14
        go_wp2_with fail
        go_quiet (fail)
        go_wp2_with fail
        go_ret
        exact ⟨rfl, below_drewN (n := nq) hk⟩
    · go_enter Tryd.func14, Tryd.ntmps14
      go_wp2_with fail
      go_quiet (fail)
      go_wp2_with fail
      go_ret
      exact ⟨rfl, below_drewN (n := nq) hk⟩
end Go.Proofs.YteffkcnlipdgaaaDoor
