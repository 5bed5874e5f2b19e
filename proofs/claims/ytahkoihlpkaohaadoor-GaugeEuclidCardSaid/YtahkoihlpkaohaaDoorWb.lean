/- The law GaugeWhole. -/
import Derived.Test.YtahkoihlpkaohaaDoorWa
import Derived.Test.YtahkoihlpkaohaaDoorVg
namespace Go.Proofs.YtahkoihlpkaohaaDoor
open Go.RowKit
set_option linter.unusedVariables false
set_option linter.unusedSimpArgs false

theorem flr_plus (a b k : Int) (r : Nat) : flr (a + k) b r = flr a b r + k := by unfold flr; split <;> omega
theorem flr_near (a b : Int) (r : Nat) (ha : sm 250000 a) (hb : sm 250000 b) (h1 : (r : Int) * r ≤ 5 * b * b) : -1000000 ≤ flr a b r ∧ flr a b r < 1000000 - 1 := by
  have hbb := sm_mul _ _ _ _ hb hb (by decide) (by decide)
  have hr : r ≤ 559017 := by
    unfold sm at hbb
    rw [Int.mul_assoc] at h1
    rcases Nat.lt_or_ge 559017 r with h | h
    · have h2 := Nat.mul_le_mul h h
      have h3 : ((r * r : Nat) : Int) = (r : Int) * r := Int.natCast_mul _ _
      omega
    · exact h
  unfold flr sm at *
  split <;> omega
/-- What Compare answers at numbers. -/
theorem Compare_num (x y : Int × Int) (hx : numB x.1 x.2 = true) (hy : numB y.1 y.2 = true) (w : World) :
    Calls Tryd.prog 16 #[.agg (gv x), .agg (gv y)] w fun e w' => e = .returned (.tuple #[.int .i64 (sgn (x.1 - y.1) (x.2 - y.2)), .int .i64 0]) ∧ Keeps w w' := by
  have h := Compare_c x y w
  rw [cmpN, cmpE, if_pos ⟨hx, hy⟩, if_pos ⟨hx, hy⟩] at h
  exact h
set_option maxHeartbeats 4000000 in
set_option maxRecDepth 100000 in
theorem whole_v (x : Int × Int) (k : Int) (w : World) :
    Calls Tryd.prog 5 #[.agg (gv x), .int .i64 k] w fun e w' => e = .returned (.bool true) ∧ Keeps w w' := by
  have aw := fun z => awake_c z
  have t1 := fun z => tame_c x 250000 (by decide) (by decide) z
  have m1 := fun z => mod_c k 1000000 (by decide) (by decide) z
  have hX := tame_sm 250000 (by decide) x
  have hu := modN_in k 1000000 (by decide)
  generalize tameG 250000 x = X at *
  generalize modN k 1000000 = u at *
  obtain ⟨r, h1, h2⟩ := root_ex (5 * X.2.natAbs * X.2.natAbs)
  have hBB : ((5 * X.2.natAbs * X.2.natAbs : Nat) : Int) = 5 * X.2 * X.2 := by
    rw [Int.mul_assoc, ← Int.natAbs_mul_self' X.2, Int.natCast_mul, Int.natCast_mul, Int.mul_assoc]; rfl
  have h1 : (r : Int) * r ≤ 5 * X.2 * X.2 := by rw [← hBB, ← Int.natCast_mul]; exact Int.ofNat_le.2 h1
  have h2 : 5 * X.2 * X.2 < ((r : Int) + 1) * (r + 1) := by
    have e6 : ((r : Int) + 1) * (r + 1) = (((r + 1) * (r + 1) : Nat) : Int) := by rw [Int.natCast_mul]; rfl
    rw [e6, ← hBB]; exact Int.ofNat_lt.2 h2
  have hf := flr_near X.1 X.2 r hX.1 hX.2 h1
  have sx := hX
  unfold sm2 sm at sx
  have c1 := fun z => Floor_yes X (num_of (sm2_mono hX (by decide))) r h1 h2 z
  have c2 : ∀ z, Calls Tryd.prog 19 #[.agg #[.int .i64 (X.1 + (u - 500000)), .int .i64 X.2]] z fun e w' => e = .returned (.tuple #[.int .i64 (flr (X.1 + (u - 500000)) X.2 r), .int .i64 0]) ∧ Keeps z w' :=
    fun z => Floor_yes (X.1 + (u - 500000), X.2) (num_of (by unfold sm2 sm; simp only; omega)) r h1 h2 z
  rw [flr_plus] at c2
  have g1 := flr_sgn X.1 X.2 (flr X.1 X.2 r) r h1 h2
  have g2 := flr_sgn X.1 X.2 (flr X.1 X.2 r + 1) r h1 h2
  generalize flr X.1 X.2 r = f at *
  have c3 : ∀ z, Calls Tryd.prog 16 #[.agg #[.int .i64 f, .int .i64 0], .agg (gv X)] z fun e w' => e = .returned (.tuple #[.int .i64 (sgn (f - X.1) (0 - X.2)), .int .i64 0]) ∧ Keeps z w' :=
    fun z => Compare_num (f, 0) X (num_of (by unfold sm2 sm; simp only; omega)) (num_of (sm2_mono hX (by decide))) z
  have c4 : ∀ z, Calls Tryd.prog 16 #[.agg (gv X), .agg #[.int .i64 (f + 1), .int .i64 0]] z fun e w' => e = .returned (.tuple #[.int .i64 (sgn (X.1 - (f + 1)) (X.2 - 0)), .int .i64 0]) ∧ Keeps z w' :=
    fun z => Compare_num X (f + 1, 0) (num_of (sm2_mono hX (by decide))) (num_of (by unfold sm2 sm; simp only; omega)) z
  have s1 := sgn_neg (X.1 - f) X.2
  rw [show -(X.1 - f) = f - X.1 by omega, show -X.2 = 0 - X.2 by omega] at s1
  rw [Int.sub_zero] at c4
  rw [s1] at c3
  generalize sgn (X.1 - f) X.2 = a at *
  generalize sgn (X.1 - (f + 1)) X.2 = b at *
  have d1 : decide (-a ≤ 0) = true := by simp; omega
  have d2 : decide (b < 0) = true := by simp; omega
  have d3 : decide (f < -1000000) = false := by simp; omega
  have d4 : decide (1000000 ≤ f) = false := by simp; omega
  have q1 : IntKind.i64.wrap (u - 500000) = u - 500000 := IntWalk.i64_in _ (by omega)
  have q2 : IntKind.i64.wrap (X.1 + (u - 500000)) = X.1 + (u - 500000) := IntWalk.i64_in _ (by omega)
  have q3 : IntKind.i64.wrap (f + (u - 500000)) = f + (u - 500000) := IntWalk.i64_in _ (by omega)
  have q4 : IntKind.i64.wrap (f + 1) = f + 1 := IntWalk.i64_in _ (by omega)
  clear hX hu hf sx s1 g1 g2 h1 h2 hBB
  generalize -a = na at *
  have x0 := At.new w 23 (gv x)
  have k0 : Keeps w (w.alloc (.cells (gv x) 23)) := Keeps.alloc (Below.refl _ _) _
  change Calls Tryd.prog 5 #[.agg #[.int .i64 x.1, .int .i64 x.2], .int .i64 k] w _
  go_enter Tryd.func5, Tryd.ntmps5
  go_wp2_with (first
    | (refine load_row_w rfl 23 _ rfl _ rfl 23 _ _ _ x0 Tryd.underlying23 rfl (sizeV _) ?_)
    | (refine load_row_w rfl 23 _ rfl _ rfl 23 _ _ _ x2 Tryd.underlying23 rfl (sizeV _) ?_)
    | (refine load_row_w rfl 23 _ rfl _ rfl 23 _ _ _ x5 Tryd.underlying23 rfl (sizeV _) ?_)
    | (refine load_row_w rfl 23 _ rfl _ rfl 23 _ _ _ x6 Tryd.underlying23 rfl (sizeV _) ?_)
    | (go_at_call 15
       (with_reducible refine (t1 _).mono ?_)
       rintro e w1 ⟨rfl, b1⟩
       have x1 := x0.later b1
       have k1 := Keeps.next k0 b1
       have x2 := x1.row (gv X)
       have k2 := below_row k1 (Nat.le_refl _) (gv X) (g := w.heap.size)
       clear t1 x0)
    | (refine wpList_store_row rfl 23 _ _ rfl _ (gv X) rfl rfl 23 (gv x) x1 (sizeV _) rfl (oneV _) ?_; clear x1)
    | (go_at_call 18
       (with_reducible refine (m1 _).mono ?_)
       rintro e w2 ⟨rfl, rfl⟩
       clear m1)
    | (go_at_call 19
       (with_reducible refine (c1 _).mono ?_)
       rintro e w3 ⟨rfl, b3⟩
       have x3 := x2.later b3
       have k3 := Keeps.next k2 b3
       obtain ⟨p1, p2⟩ := cells_gv x3
       clear c1 x2)
    | (go_at_call 19
       (with_reducible refine (c2 _).mono ?_)
       rintro e w4 ⟨rfl, b4⟩
       have x5 := x3.later b4
       have k4 := Keeps.next k3 b4
       clear c2 x3 p1 p2)
    | (go_at_call 16
       (with_reducible refine (c3 _).mono ?_)
       rintro e w5 ⟨rfl, b5⟩
       have x6 := x5.later b5
       have k5 := Keeps.next k4 b5
       clear c3 x5)
    | (go_at_call 16
       (with_reducible refine (c4 _).mono ?_)
       rintro e w6 ⟨rfl, b6⟩
       have k6 := Keeps.next k5 b6
       clear c4 x6)
    | (go_at_call 11; refine (aw _).mono ?_; rintro e w9 ⟨rfl, b9⟩))
  go_ret
  exact ⟨rfl, Keeps.next k6 b9⟩
theorem law_whole (a b k : Int) (w : World) (_hk : (Lit.int .i64 k).wf = true) : Calls Tryd.prog 5 #[.agg #[.int .i64 a, .int .i64 b], .int .i64 k] w fun e w' => e = .returned (.bool true) ∧ Keeps w w' := whole_v (a, b) k w
end Go.Proofs.YtahkoihlpkaohaaDoor
