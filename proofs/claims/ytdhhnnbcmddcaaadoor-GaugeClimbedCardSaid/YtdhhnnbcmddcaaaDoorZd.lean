/- The walk of the program's Below. -/
import Derived.Test.YtdhhnnbcmddcaaaDoorZc
import Derived.Test.YtdhhnnbcmddcaaaDoorGp
import Derived.Test.YtdhhnnbcmddcaaaDoorUb
namespace Go.Proofs.YtdhhnnbcmddcaaaDoor
open Go.RowKit Go.Shelf
set_option linter.unusedVariables false
set_option linter.unusedSimpArgs false
attribute [local go_sem] Oper.semAt_some

/-- Two results in cells. -/
theorem results_2 {P : Program} {fn : Func} {u v : Tmp} {t2 t3 : TypeId} (hr : fn.results = #[.cell u t2, .cell v t3]) (tmps : Array Value) (w : World) (g2 g3 : Nat) (x y : Value)
    (hu : tmps.getD u undef = .pointer (some ⟨g2, 0, none⟩)) (hv : tmps.getD v undef = .pointer (some ⟨g3, 0, none⟩))
    (h2 : w.cell? ⟨g2, 0, none⟩ = some x) (h3 : w.cell? ⟨g3, 0, none⟩ = some y) (a2 : (isAgg t2).run P w = .ok false w) (a3 : (isAgg t3).run P w = .ok false w) : (results fn tmps).run P w = .ok (.tuple #[x, y]) w := by
  have hu' : tmps[u]?.getD undef = .pointer (some ⟨g2, 0, none⟩) := by simpa using hu
  have hv' : tmps[v]?.getD undef = .pointer (some ⟨g3, 0, none⟩) := by simpa using hv
  have e2 : (loadVar t2 ⟨g2, 0, none⟩).run P w = .ok x w := by simp [loadVar, Sem.run_bind, a2, load, Sem.run, h2, Result.andThen]
  have e3 : (loadVar t3 ⟨g3, 0, none⟩).run P w = .ok y w := by simp [loadVar, Sem.run_bind, a3, load, Sem.run, h3, Result.andThen]
  simp [results, hr, hu', hv', asAddr, Sem.run_bind, e2, e3, Result.andThen]
theorem position_v (x : Int × Int) (h : sm2 1000000000 x) (w : World) : Calls Tryd.prog 28 #[.agg (gv x)] w fun e w' => e = .returned (.int .i64 (x.1 + 2 * x.2)) ∧ Keeps w w' :=
  (position_c x.1 x.2 (sm_mono h.1 (by decide)) (sm_mono h.2 (by decide)) w).mono fun e w' ⟨he, hw⟩ => ⟨he, by first | exact hw | (subst hw; exact Keeps.alloc (Below.refl _ _) _)⟩
set_option maxHeartbeats 4000000 in
set_option maxRecDepth 100000 in
theorem Below_x (x : Int × Int) (hx : numB x.1 x.2 = false) (w : World) :
    Calls Tryd.prog 8 #[.agg (gv x)] w fun e w' => e = .returned (.tuple #[.int .i64 0, .int .i64 2]) ∧ Keeps w w' := by
  have hn := fun y => isNumber_v x y
  rw [hx] at hn
  clear hx
  have hX0 := ((At.new w 23 (gv x)).alloc (.cells #[.int .i64 0] 3)).alloc (.cells #[.int .i64 0] 24)
  have hA0 := (At.new2 w (.cells (gv x) 23) 3 #[.int .i64 0]).alloc (.cells #[.int .i64 0] 24)
  have hB0 := At.new3 w (.cells (gv x) 23) (.cells #[.int .i64 0] 3) 24 #[.int .i64 0]
  have k0 : Keeps w (((w.alloc (.cells (gv x) 23)).alloc (.cells #[.int .i64 0] 3)).alloc (.cells #[.int .i64 0] 24)) := Keeps.alloc (Keeps.alloc (Keeps.alloc (Below.refl _ _) _) _) _
  refine (callsIn_wide (n := 5)).1 ?_
  refine callsIn_of_wp_marks Tryd.func8 rfl trivial ?_ rfl
  simp only [Tryd.ntmps8, List.size_toArray, List.length_cons, List.length_nil, Nat.reduceAdd, Nat.reduceSub, Array.replicate_succ, Array.replicate_zero, List.push_toArray, List.append_toArray, List.nil_append, List.cons_append]
  rw [show (Value.agg (gv x)) = .agg #[.int .i64 x.1, .int .i64 x.2] from rfl]
  gi_wp2_with (refine in_load_row rfl 23 _ rfl w.heap.size rfl 23 (gv x) _ hX0 Tryd.underlying23 rfl (sizeV _) ?_)
  refine ⟨trivial, (callsIn_wide.2 (hn _)).mono ?_⟩
  rintro e w1 ⟨rfl, hk1⟩
  have hA1 := hA0.later hk1
  have hB1 := hB0.later hk1
  have fA := hA1.frozen 0
  have fB := hB1.frozen 0
  have cA := hA1.cell 0
  have cB := hB1.cell 0
  simp only [List.getElem?_toArray, List.getElem?_cons_zero] at cA cB
  have k1 := Keeps.next k0 hk1
  clear hn hX0 hA0 hB0
  gi_wp2_with fail
  refine ⟨trivial, ?_⟩
  gi_wp2_with fail
  refine ⟨trivial, ?_⟩
  gi_wp2_with fail
  exact ⟨_, results_2 Tryd.results8 _ _ (w.heap.size + 1) (w.heap.size + 1 + 1) _ _ rfl rfl (((hA1.set 0 (.int .i64 0)).far (p := ⟨w.heap.size + 1 + 1, 0, none⟩) (by simp) (.int .i64 2)).cell 0) (((hB1.far (p := ⟨w.heap.size + 1, 0, none⟩) (by simp) (.int .i64 0)).set 0 (.int .i64 2)).cell 0) (Tryd.isAgg3 _) (Tryd.isAgg24 _), rfl, Keeps.set (Keeps.set k1 _ (by omega) _ _) _ (by omega) _ _⟩
set_option maxHeartbeats 4000000 in
set_option maxRecDepth 100000 in
theorem Below_y (x : Int × Int) (hx : numB x.1 x.2 = true) (hm : ¬ nn (minusG (1000000, 0) x)) (w : World) :
    Calls Tryd.prog 8 #[.agg (gv x)] w fun e w' => e = .returned (.tuple #[.int .i64 0, .int .i64 2]) ∧ Keeps w w' := by
  have hn := fun y => isNumber_v x y
  have sx := sm2_of hx
  have hmi := fun y => minus_v x (1000000, 0) (sm2_mono sx (by decide)) (by unfold sm2 sm; simp) y
  have hsg := fun y => sign_v (minusG x (1000000, 0)) (by unfold sm2 sm minusG at *; simp only; omega) y
  have hpo : po (minusG x (1000000, 0)) := not_nn hm (by simp only [minusG]; omega) (by simp only [minusG]; omega)
  have hd : decide (0 < sgn (minusG x (1000000, 0)).1 (minusG x (1000000, 0)).2) = true := decide_eq_true hpo
  rw [hx] at hn
  clear hx sx hm hpo
  generalize minusG x (1000000, 0) = d at *
  generalize sgn d.1 d.2 = sg at *
  have hX0 := ((At.new w 23 (gv x)).alloc (.cells #[.int .i64 0] 3)).alloc (.cells #[.int .i64 0] 24)
  have hA0 := (At.new2 w (.cells (gv x) 23) 3 #[.int .i64 0]).alloc (.cells #[.int .i64 0] 24)
  have hB0 := At.new3 w (.cells (gv x) 23) (.cells #[.int .i64 0] 3) 24 #[.int .i64 0]
  have k0 : Keeps w (((w.alloc (.cells (gv x) 23)).alloc (.cells #[.int .i64 0] 3)).alloc (.cells #[.int .i64 0] 24)) := Keeps.alloc (Keeps.alloc (Keeps.alloc (Below.refl _ _) _) _) _
  refine (callsIn_wide (n := 5)).1 ?_
  refine callsIn_of_wp_marks Tryd.func8 rfl trivial ?_ rfl
  simp only [Tryd.ntmps8, List.size_toArray, List.length_cons, List.length_nil, Nat.reduceAdd, Nat.reduceSub, Array.replicate_succ, Array.replicate_zero, List.push_toArray, List.append_toArray, List.nil_append, List.cons_append]
  rw [show (Value.agg (gv x)) = .agg #[.int .i64 x.1, .int .i64 x.2] from rfl]
  gi_wp2_with (refine in_load_row rfl 23 _ rfl w.heap.size rfl 23 (gv x) _ hX0 Tryd.underlying23 rfl (sizeV _) ?_)
  refine ⟨trivial, (callsIn_wide.2 (hn _)).mono ?_⟩
  rintro e w1 ⟨rfl, hk1⟩
  have hX1 := hX0.later hk1
  have hA1 := hA0.later hk1
  have hB1 := hB0.later hk1
  have k1 := Keeps.next k0 hk1
  clear hn hX0 hA0 hB0
  obtain ⟨p1, p2, p3, p4⟩ := row_four hX1
  gi_wp2_with fail
  refine ⟨trivial, (callsIn_wide.2 (hmi _)).mono ?_⟩
  rintro e w2 ⟨rfl, hk2⟩
  gi_wp2_with fail
  refine ⟨trivial, (callsIn_wide.2 (hsg _)).mono ?_⟩
  rintro e w3 ⟨rfl, hk3⟩
  have hk23 := Keeps.next hk2 hk3
  have hA3 := hA1.later hk23
  have hB3 := hB1.later hk23
  have fA := hA3.frozen 0
  have fB := hB3.frozen 0
  have cA := hA3.cell 0
  have cB := hB3.cell 0
  simp only [List.getElem?_toArray, List.getElem?_cons_zero] at cA cB
  have k3 := Keeps.next k1 hk23
  clear hmi hsg hX1 hA1 hB1
  gi_wp2_with fail
  exact ⟨_, results_2 Tryd.results8 _ _ (w.heap.size + 1) (w.heap.size + 1 + 1) _ _ rfl rfl (((hA3.set 0 (.int .i64 0)).far (p := ⟨w.heap.size + 1 + 1, 0, none⟩) (by simp) (.int .i64 2)).cell 0) (((hB3.far (p := ⟨w.heap.size + 1, 0, none⟩) (by simp) (.int .i64 0)).set 0 (.int .i64 2)).cell 0) (Tryd.isAgg3 _) (Tryd.isAgg24 _), rfl, Keeps.set (Keeps.set k3 _ (by omega) _ _) _ (by omega) _ _⟩
end Go.Proofs.YtdhhnnbcmddcaaaDoor
