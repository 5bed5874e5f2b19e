/- The walks of root, Root, Form. -/
import Derived.Test.YteffkcnlipdgaaaDoorAg
namespace Go.Proofs.YteffkcnlipdgaaaDoor
open Go.RowKit
set_option linter.unusedVariables false
set_option linter.unusedSimpArgs false

theorem eucl_bd : ∀ (n : Nat) (M a b f g : Int), Eu M a b f g → b ≤ a → 0 ≤ eucl n a b f g ∧ eucl n a b f g ≤ M := by
  intro n
  induction n with
  | zero => intro M a b f g h hab; exact ⟨h.2.2.1, h.2.2.2.2.2.1⟩
  | succ n ih =>
    intro M a b f g h hab
    unfold eucl
    by_cases hb : b = 0
    · rw [if_pos hb]; exact ⟨h.2.2.1, h.2.2.2.2.2.1⟩
    · rw [if_neg hb]
      obtain ⟨k1, k2, -⟩ := h.step hab hb
      exact ih M _ _ _ _ k1 (by omega)
theorem inv_bd (x m : Int) (hx : 1 ≤ x) (hxm : x ≤ m) : 0 ≤ inv x m ∧ inv x m ≤ m :=
  eucl_bd _ m m x 0 1 ⟨by omega, by omega, by omega, by omega, by omega, by omega, by omega, by omega, Or.inl hxm⟩ hxm
/-- The root. -/
def rootN (x y z : Int) : Int := min ((inv x z * y).tmod z) (z - (inv x z * y).tmod z)
theorem rootN_bd (x y z : Int) (ho : ord x y z) : 0 ≤ rootN x y z ∧ 2 * rootN x y z ≤ z := by
  obtain ⟨h1, h2⟩ := inv_bd x z (by unfold ord at ho; omega) (by unfold ord at ho; omega)
  obtain ⟨o1, o2, o3, o4⟩ := ho
  have m1 : 0 ≤ inv x z * y := Int.mul_nonneg h1 (by omega)
  have a3 := Int.tmod_nonneg z m1
  have a2 := Int.tmod_lt_of_pos (inv x z * y) (b := z) (by omega)
  unfold rootN
  omega
set_option maxHeartbeats 2000000 in
set_option maxRecDepth 20000 in
theorem root_c (x y z : Int) (ho : ord x y z) (w : World) :
    Calls Tryd.prog 33 #[.agg #[.int .i64 x, .int .i64 y, .int .i64 z]] w fun e w' => e = .returned (.int .i64 (rootN x y z)) ∧ Keeps w w' := by
  have hb := ho.bds
  obtain ⟨o1, o2, o3, o4⟩ := ho
  obtain ⟨h1, h2⟩ := inv_bd x z (by omega) (by omega)
  have hm := bd_mul (x := inv x z) (y := y) (by unfold bd; omega) hb.2.1
  obtain ⟨m1, m2⟩ := hm
  have hk : Keeps w (w.alloc (.cells #[.int .i64 x, .int .i64 y, .int .i64 z] 52)) := Keeps.alloc (Below.refl _ _) _
  have cI := fun W => inverse_c x z o1 o4 (by omega) W
  have a3 := Int.tmod_nonneg z m1
  have a2 := Int.tmod_lt_of_pos (inv x z * y) (b := z) (by omega)
  have q1 : IntKind.i64.wrap (inv x z * y) = inv x z * y := IntWalk.i64_in _ (by omega)
  have q2 : IntKind.i64.wrap ((inv x z * y).tmod z) = (inv x z * y).tmod z := IntWalk.i64_in _ (by omega)
  have q3 : IntKind.i64.wrap (z - (inv x z * y).tmod z) = z - (inv x z * y).tmod z := IntWalk.i64_in _ (by omega)
  have hz0 : z ≠ 0 := by omega
  have Ht := Lib.hid (Int.tmod_eq_emod_of_nonneg (b := z) m1)
  unfold rootN
  clear hb h1 h2 m1 m2 a3 a2 o1 o2 o3 o4
  generalize inv x z = I at *
  go_enter Tryd.func33, Tryd.ntmps33
  go_wp2_with fail
  go_quiet (fail)
  go_wp2_with (go_at_call 46; refine (cI _).mono ?_; rintro e w1 ⟨rfl, h1⟩)
  go_ret
  exact ⟨by first | rfl | rw [Ht.out], Keeps.next (below_drewN (n := nq) hk) h1⟩
set_option maxHeartbeats 1000000 in
theorem Root_no (x y z : Int) (hb : trB x y z = false) (w : World) :
    Calls Tryd.prog 17 #[.agg #[.int .i64 x, .int .i64 y, .int .i64 z]] w fun e w' => e = .returned (.tuple #[.int .i64 0, .int .i64 2]) ∧ Keeps w w' := by
  have hk : Keeps w (w.alloc (.cells #[.int .i64 x, .int .i64 y, .int .i64 z] 22)) := Keeps.alloc (Below.refl _ _) _
  have cN := newTriple_non x y z hb (w.alloc (.cells #[.int .i64 x, .int .i64 y, .int .i64 z] 22))
  have H := Lib.hid hb
  clear hb
  go_enter Tryd.func17, Tryd.ntmps17
  go_wp2_with (go_at_call 25; refine cN.mono ?_; rintro e w1 ⟨a, b, c, rfl, h1⟩)
  go_ret2
  exact ⟨rfl, Keeps.alloc (Keeps.next hk h1) _⟩
set_option maxHeartbeats 1000000 in
theorem Root_one (x y : Int) (hb : trB x y 1 = true) (w : World) :
    Calls Tryd.prog 17 #[.agg #[.int .i64 x, .int .i64 y, .int .i64 1]] w fun e w' => e = .returned (.tuple #[.int .i64 0, .int .i64 6]) ∧ Keeps w w' := by
  have hk : Keeps w (w.alloc (.cells #[.int .i64 x, .int .i64 y, .int .i64 1] 22)) := Keeps.alloc (Below.refl _ _) _
  have cN := newTriple_yes x y 1 hb (w.alloc (.cells #[.int .i64 x, .int .i64 y, .int .i64 1] 22))
  have H := Lib.hid hb
  clear hb
  go_enter Tryd.func17, Tryd.ntmps17
  go_wp2_with (go_at_call 25; refine cN.mono ?_; rintro e w1 ⟨rfl, h1⟩)
  go_ret2
  exact ⟨rfl, Keeps.alloc (Keeps.next hk h1) _⟩
set_option maxHeartbeats 1000000 in
theorem Root_yes (x y z : Int) (hb : trB x y z = true) (hz : z ≠ 1) (w : World) :
    Calls Tryd.prog 17 #[.agg #[.int .i64 x, .int .i64 y, .int .i64 z]] w fun e w' => e = .returned (.tuple #[.int .i64 (rootN x y z), .int .i64 0]) ∧ Keeps w w' := by
  have hk : Keeps w (w.alloc (.cells #[.int .i64 x, .int .i64 y, .int .i64 z] 22)) := Keeps.alloc (Below.refl _ _) _
  have cN := newTriple_yes x y z hb (w.alloc (.cells #[.int .i64 x, .int .i64 y, .int .i64 z] 22))
  have cR := root_c x y z ((trB_iff _ _ _).1 hb).1
  have hz1 : (z == 1) = false := by simpa using hz
  have H := Lib.hid hb
  clear hb
  generalize rootN x y z = u at *
  go_enter Tryd.func17, Tryd.ntmps17
  go_wp2_with (first
    | (go_at_call 25; refine cN.mono ?_; rintro e w1 ⟨rfl, h1⟩)
    | (go_at_call 33; refine (cR _).mono ?_; rintro e w2 ⟨rfl, h2⟩))
  go_ret2
  exact ⟨rfl, Keeps.next (Keeps.alloc (Keeps.next hk h1) _) h2⟩
/-- The form. -/
def formT (x y z : Int) : Int × Int × Int := (z, 3 * z - 2 * rootN x y z, (rootN x y z * rootN x y z + 1).tdiv z - 3 * rootN x y z)
set_option maxHeartbeats 2000000 in
theorem Form_bad (x y z n : Int) (hn : n ≠ 0) (w : World) (cR : ∀ w, Calls Tryd.prog 17 #[.agg #[.int .i64 x, .int .i64 y, .int .i64 z]] w fun e w' => e = .returned (.tuple #[.int .i64 0, .int .i64 n]) ∧ Keeps w w') :
    Calls Tryd.prog 18 #[.agg #[.int .i64 x, .int .i64 y, .int .i64 z]] w fun e w' => e = .returned (.tuple #[.agg #[.int .i64 0, .int .i64 0, .int .i64 0], .int .i64 n]) ∧ Keeps w w' := by
  have hX := At.new2 w (.cells #[.int .i64 x, .int .i64 y, .int .i64 z] 22) 22 #[.int .i64 0, .int .i64 0, .int .i64 0]
  have hk : Keeps w ((w.alloc (.cells #[.int .i64 x, .int .i64 y, .int .i64 z] 22)).alloc (.cells #[.int .i64 0, .int .i64 0, .int .i64 0] 22)) := Keeps.alloc (Keeps.alloc (Below.refl _ _) _) _
  have hn0 : (n == 0) = false := by simpa using hn
  go_enter Tryd.func18, Tryd.ntmps18
  go_wp2_with (first
    | (go_at_call 17; refine (cR _).mono ?_; rintro e w1 ⟨rfl, h1⟩; have hX1 := hX.later h1)
    | (refine wpList_store_row rfl 22 _ _ rfl (w.heap.size + 1) #[.int .i64 0, .int .i64 0, .int .i64 0] rfl rfl 22 #[.int .i64 0, .int .i64 0, .int .i64 0] hX1 (size3 _ _ _) rfl (oneT _ _ _) ?_))
  have h3 := hX1.row #[.int .i64 0, .int .i64 0, .int .i64 0]
  exact bodyPost_ret (v := .tuple #[.agg #[.int .i64 0, .int .i64 0, .int .i64 0], .int .i64 n]) (results_row_tmp Tryd.results18 _ _ (w.heap.size + 1) _ _ _ rfl h3 Tryd.underlying22 rfl (size3 _ _ _)) rfl ⟨rfl, below_row (Keeps.next hk h1) (by omega) _⟩
set_option maxHeartbeats 2000000 in
theorem Form_yes (x y z : Int) (hb : trB x y z = true) (hz : z ≠ 1) (w : World) :
    Calls Tryd.prog 18 #[.agg #[.int .i64 x, .int .i64 y, .int .i64 z]] w fun e w' => e = .returned (.tuple #[.agg (ev (formT x y z)), .int .i64 0]) ∧ Keeps w w' := by
  have hX := At.new2 w (.cells #[.int .i64 x, .int .i64 y, .int .i64 z] 22) 22 #[.int .i64 0, .int .i64 0, .int .i64 0]
  have hR : At ((w.alloc (.cells #[.int .i64 x, .int .i64 y, .int .i64 z] 22)).alloc (.cells #[.int .i64 0, .int .i64 0, .int .i64 0] 22)) w.heap.size 22 #[.int .i64 x, .int .i64 y, .int .i64 z] := (At.new w _ _).alloc _
  have hk : Keeps w ((w.alloc (.cells #[.int .i64 x, .int .i64 y, .int .i64 z] 22)).alloc (.cells #[.int .i64 0, .int .i64 0, .int .i64 0] 22)) := Keeps.alloc (Keeps.alloc (Below.refl _ _) _) _
  have cR := Root_yes x y z hb hz
  have ho := ((trB_iff _ _ _).1 hb).1
  obtain ⟨u1, u2⟩ := rootN_bd x y z ho
  obtain ⟨o1, o2, o3, o4⟩ := ho
  have H := Lib.hid hb
  unfold formT
  generalize rootN x y z = u at *
  obtain ⟨m1, m2⟩ := bd_mul (x := u) (y := u) (by unfold bd; omega) (by unfold bd; omega)
  have hq : (u * u + 1).tdiv z ≤ 1000000000000000001 ∧ 0 ≤ (u * u + 1).tdiv z := by
    refine ⟨Int.le_trans (Int.tdiv_le_self _ (by omega)) (by omega), Int.tdiv_nonneg (by omega) (by omega)⟩
  have q1 : IntKind.i64.wrap (u * u) = u * u := IntWalk.i64_in _ (by omega)
  have q2 : IntKind.i64.wrap (u * u + 1) = u * u + 1 := IntWalk.i64_in _ (by omega)
  have q3 : IntKind.i64.wrap ((u * u + 1).tdiv z) = (u * u + 1).tdiv z := IntWalk.i64_in _ (by omega)
  have q4 : IntKind.i64.wrap ((u * u + 1).tdiv z - 3 * u) = (u * u + 1).tdiv z - 3 * u := IntWalk.i64_in _ (by omega)
  have q5 : IntKind.i64.wrap (3 * z) = 3 * z := IntWalk.i64_in _ (by omega)
  have q6 : IntKind.i64.wrap (2 * u) = 2 * u := IntWalk.i64_in _ (by omega)
  have q7 : IntKind.i64.wrap (3 * u) = 3 * u := IntWalk.i64_in _ (by omega)
  have q8 : IntKind.i64.wrap (3 * z - 2 * u) = 3 * z - 2 * u := IntWalk.i64_in _ (by omega)
  have hz0 : z ≠ 0 := by omega
  have Ht := Lib.hid (Int.tdiv_eq_ediv_of_nonneg (b := z) (show 0 ≤ u * u + 1 by omega))
  clear hb m1 m2 hq u1 u2 o1 o2 o3 o4
  go_enter Tryd.func18, Tryd.ntmps18
  go_wp2_with (first
    | (go_at_call 17; refine (cR _).mono ?_; rintro e w1 ⟨rfl, h1⟩; have hX1 := hX.later h1; have hR1 := hR.later h1; have p1 := (row_six hR1).1; have p2 := (row_six hR1).2.1; have p3 := (row_six hR1).2.2.1)
    | (refine wpList_store_row rfl 22 _ _ rfl (w.heap.size + 1) #[.int .i64 z, .int .i64 (3 * z - 2 * u), .int .i64 ((u * u + 1).tdiv z - 3 * u)] rfl rfl 22 #[.int .i64 0, .int .i64 0, .int .i64 0] hX1 (size3 _ _ _) rfl (oneT _ _ _) ?_))
  have h3 := hX1.row #[.int .i64 z, .int .i64 (3 * z - 2 * u), .int .i64 ((u * u + 1).tdiv z - 3 * u)]
  exact bodyPost_ret (v := .tuple #[.agg #[.int .i64 z, .int .i64 (3 * z - 2 * u), .int .i64 ((u * u + 1).tdiv z - 3 * u)], .int .i64 0]) (results_row_tmp Tryd.results18 _ _ (w.heap.size + 1) _ _ _ rfl h3 Tryd.underlying22 rfl (size3 _ _ _)) rfl ⟨rfl, below_row (Keeps.next hk h1) (by omega) _⟩
end Go.Proofs.YteffkcnlipdgaaaDoor
