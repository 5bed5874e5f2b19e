/- The plain words of triples; the walks of newTriple, left, right, isFull, start. -/
import Derived.Test.YteffkcnlipdgaaaDoorCa
import Derived.Test.YteffkcnlipdgaaaDoorRows
import Derived.Test.YteffkcnlipdgaaaDoorUa
import Derived.WalkKit
import Derived.WalkSpells
import Derived.WalkLawsBesides
import Derived.Deep.QuietTactic
import Derived.BigQuiet
import Derived.BigRegion
import Derived.Lib.Hide
import Derived.IntWalk
import Derived.Outline
namespace Go.Proofs.YteffkcnlipdgaaaDoor
open Go.RowKit
set_option linter.unusedVariables false
set_option linter.unusedSimpArgs false

/-- A number of a triple. -/
def bd (x : Int) : Prop := 0 ≤ x ∧ x ≤ 1000000000
/-- Three numbers in order. -/
def ord (x y z : Int) : Prop := 1 ≤ x ∧ x ≤ y ∧ y ≤ z ∧ z ≤ 1000000000
instance (x y z : Int) : Decidable (ord x y z) := by unfold ord; infer_instance
/-- The three numbers are a triple. -/
def trB (x y z : Int) : Bool := decide (ord x y z) && (((x * x + y * y).tmod z == 0) && ((x * x + y * y).tdiv z == 3 * x * y - z))
theorem bd_mul {x y : Int} (hx : bd x) (hy : bd y) : 0 ≤ x * y ∧ x * y ≤ 1000000000000000000 := by
  obtain ⟨a, b⟩ := hx
  obtain ⟨c, d⟩ := hy
  exact ⟨Int.mul_nonneg a c, Int.le_trans (Int.mul_le_mul b d c (by decide)) (by decide)⟩
theorem ord.bds {x y z : Int} (h : ord x y z) : bd x ∧ bd y ∧ bd z := by unfold ord bd at *; omega
theorem sizeT (a b c : Int) : (Tryd.prog.info? 52).map (·.size) = some (#[Value.int .i64 a, .int .i64 b, .int .i64 c] : Array Value).size := by
  show _ = some 3; kernel_rfl
theorem oneT (a b c : Int) : (#[Value.int .i64 a, .int .i64 b, .int .i64 c] : Array Value).all (·.oneCell') = true := by simp [Value.oneCell']
theorem row_six {w : World} {g : Nat} {t : TypeId} {x y z : Int} (a : At w g t #[.int .i64 x, .int .i64 y, .int .i64 z]) : w.cell? ⟨g, 0, none⟩ = some (.int .i64 x) ∧ w.cell? ⟨g, 1, none⟩ = some (.int .i64 y) ∧ w.cell? ⟨g, 2, none⟩ = some (.int .i64 z) ∧ w.frozen? ⟨g, 0, none⟩ = false ∧ w.frozen? ⟨g, 1, none⟩ = false ∧ w.frozen? ⟨g, 2, none⟩ = false :=
  ⟨(a.cell 0).trans rfl, (a.cell 1).trans rfl, (a.cell 2).trans rfl, a.frozen 0, a.frozen 1, a.frozen 2⟩
theorem At.three {w : World} {g : Nat} {t : TypeId} {x y z : Int} (a : At w g t #[.int .i64 x, .int .i64 y, .int .i64 z]) (x' y' z' : Int) : At (((w.setCell ⟨g, 0, none⟩ (.int .i64 x')).setCell ⟨g, 1, none⟩ (.int .i64 y')).setCell ⟨g, 2, none⟩ (.int .i64 z')) g t #[.int .i64 x', .int .i64 y', .int .i64 z'] :=
  ((a.set 0 _).set 1 _).set 2 _
set_option maxHeartbeats 1000000 in
theorem left_c (x y z : Int) (hx : bd x) (hy : bd y) (hz : bd z) (w : World) :
    Calls Tryd.prog 35 #[.agg #[.int .i64 x, .int .i64 y, .int .i64 z]] w fun e w' => e = .returned (.agg #[.int .i64 y, .int .i64 z, .int .i64 (3 * y * z - x)]) ∧ Keeps w w' := by
  obtain ⟨m1, m2⟩ := bd_mul hy hz
  have hh : 3 * y * z = 3 * (y * z) := Int.mul_assoc ..
  obtain ⟨x1, x2⟩ := hx
  obtain ⟨y1, y2⟩ := hy
  obtain ⟨z1, z2⟩ := hz
  have q0 : IntKind.i64.wrap (3 * y) = 3 * y := IntWalk.i64_in _ (by omega)
  have q1 : IntKind.i64.wrap (3 * y * z) = 3 * y * z := IntWalk.i64_in _ (by omega)
  have q2 : IntKind.i64.wrap (3 * y * z - x) = 3 * y * z - x := IntWalk.i64_in _ (by omega)
  clear hh m1 m2 x1 x2 y1 y2 z1 z2
  have hX := At.new2 w (.cells #[.int .i64 x, .int .i64 y, .int .i64 z] 52) 52 #[.int .i64 0, .int .i64 0, .int .i64 0]
  have hk : Keeps w ((w.alloc (.cells #[.int .i64 x, .int .i64 y, .int .i64 z] 52)).alloc (.cells #[.int .i64 0, .int .i64 0, .int .i64 0] 52)) := Keeps.alloc (Keeps.alloc (Below.refl _ _) _) _
  go_enter Tryd.func35, Tryd.ntmps35
  go_wp2_with (refine wpList_store_row rfl 52 _ _ rfl (w.heap.size + 1) #[.int .i64 y, .int .i64 z, .int .i64 (3 * y * z - x)] rfl rfl 52 #[.int .i64 0, .int .i64 0, .int .i64 0] hX (sizeT _ _ _) rfl (oneT _ _ _) ?_)
  have h3 := hX.row #[.int .i64 y, .int .i64 z, .int .i64 (3 * y * z - x)]
  refine bodyPost_ret (results_cell_row Tryd.results35 _ _ (w.heap.size + 1) _ _ _ _ rfl h3 Tryd.underlying52 rfl (sizeT _ _ _)) rfl ⟨rfl, below_row hk (by omega) _⟩
set_option maxHeartbeats 1000000 in
theorem right_c (x y z : Int) (hx : bd x) (hy : bd y) (hz : bd z) (w : World) :
    Calls Tryd.prog 36 #[.agg #[.int .i64 x, .int .i64 y, .int .i64 z]] w fun e w' => e = .returned (.agg #[.int .i64 x, .int .i64 z, .int .i64 (3 * x * z - y)]) ∧ Keeps w w' := by
  obtain ⟨m1, m2⟩ := bd_mul hx hz
  have hh : 3 * x * z = 3 * (x * z) := Int.mul_assoc ..
  obtain ⟨x1, x2⟩ := hx
  obtain ⟨y1, y2⟩ := hy
  obtain ⟨z1, z2⟩ := hz
  have q0 : IntKind.i64.wrap (3 * x) = 3 * x := IntWalk.i64_in _ (by omega)
  have q1 : IntKind.i64.wrap (3 * x * z) = 3 * x * z := IntWalk.i64_in _ (by omega)
  have q2 : IntKind.i64.wrap (3 * x * z - y) = 3 * x * z - y := IntWalk.i64_in _ (by omega)
  clear hh m1 m2 x1 x2 y1 y2 z1 z2
  have hX := At.new2 w (.cells #[.int .i64 x, .int .i64 y, .int .i64 z] 52) 52 #[.int .i64 0, .int .i64 0, .int .i64 0]
  have hk : Keeps w ((w.alloc (.cells #[.int .i64 x, .int .i64 y, .int .i64 z] 52)).alloc (.cells #[.int .i64 0, .int .i64 0, .int .i64 0] 52)) := Keeps.alloc (Keeps.alloc (Below.refl _ _) _) _
  go_enter Tryd.func36, Tryd.ntmps36
  go_wp2_with (refine wpList_store_row rfl 52 _ _ rfl (w.heap.size + 1) #[.int .i64 x, .int .i64 z, .int .i64 (3 * x * z - y)] rfl rfl 52 #[.int .i64 0, .int .i64 0, .int .i64 0] hX (sizeT _ _ _) rfl (oneT _ _ _) ?_)
  have h3 := hX.row #[.int .i64 x, .int .i64 z, .int .i64 (3 * x * z - y)]
  refine bodyPost_ret (results_cell_row Tryd.results36 _ _ (w.heap.size + 1) _ _ _ _ rfl h3 Tryd.underlying52 rfl (sizeT _ _ _)) rfl ⟨rfl, below_row hk (by omega) _⟩
set_option maxHeartbeats 1000000 in
theorem start_c (w : World) : Calls Tryd.prog 31 #[] w fun e w' => e = .returned (.agg #[.int .i64 1, .int .i64 2, .int .i64 5]) ∧ Keeps w w' := by
  have hX := At.new w 52 #[.int .i64 0, .int .i64 0, .int .i64 0]
  have hk : Keeps w (w.alloc (.cells #[.int .i64 0, .int .i64 0, .int .i64 0] 52)) := Keeps.alloc (Below.refl _ _) _
  go_enter Tryd.func31, Tryd.ntmps31
  go_wp2_with (refine wpList_store_row rfl 52 _ _ rfl w.heap.size #[.int .i64 1, .int .i64 2, .int .i64 5] rfl rfl 52 #[.int .i64 0, .int .i64 0, .int .i64 0] hX (sizeT _ _ _) rfl (oneT _ _ _) ?_)
  have h3 := hX.row #[.int .i64 1, .int .i64 2, .int .i64 5]
  refine bodyPost_ret (results_cell_row Tryd.results31 _ _ w.heap.size _ _ _ _ rfl h3 Tryd.underlying52 rfl (sizeT _ _ _)) rfl ⟨rfl, below_row hk (by omega) _⟩
theorem isFull_c (x y z : Int) (w : World) : Calls Tryd.prog 27 #[.agg #[.int .i64 x, .int .i64 y, .int .i64 z]] w fun e w' => e = .returned (.bool (decide (z > 1000000000))) ∧ Keeps w w' := by
  go_enter Tryd.func27, Tryd.ntmps27
  go_wp2_with fail
  go_ret
  exact ⟨rfl, Keeps.alloc (Below.refl _ _) _⟩
set_option maxHeartbeats 2000000 in
theorem newTriple_no (x y z : Int) (hn : ¬ ord x y z) (w : World) :
    Calls Tryd.prog 25 #[.agg #[.int .i64 x, .int .i64 y, .int .i64 z]] w fun e w' => e = .returned (.tuple #[.agg #[.int .i64 0, .int .i64 0, .int .i64 0], .bool false]) ∧ Keeps w w' := by
  have hX := At.new2 w (.cells #[.int .i64 x, .int .i64 y, .int .i64 z] 22) 52 #[.int .i64 0, .int .i64 0, .int .i64 0]
  have hk : Keeps w ((w.alloc (.cells #[.int .i64 x, .int .i64 y, .int .i64 z] 22)).alloc (.cells #[.int .i64 0, .int .i64 0, .int .i64 0] 52)) := Keeps.alloc (Keeps.alloc (Below.refl _ _) _) _
  go_enter Tryd.func25, Tryd.ntmps25
  go_wp2_with fail
  go_quiet (fail)
  go_wp2_with (refine wpList_store_row rfl 52 _ _ rfl (w.heap.size + 1) #[.int .i64 0, .int .i64 0, .int .i64 0] rfl rfl 52 #[.int .i64 0, .int .i64 0, .int .i64 0] (At.drewN hX _) (sizeT _ _ _) rfl (oneT _ _ _) ?_)
  all_goals first | (exfalso; unfold ord at hn; omega) | skip
  all_goals (have h3 := (hX.drewN nq).row #[.int .i64 0, .int .i64 0, .int .i64 0])
  all_goals exact bodyPost_ret (v := .tuple #[.agg #[.int .i64 0, .int .i64 0, .int .i64 0], .bool false]) (results_row_tmp Tryd.results25 _ _ (w.heap.size + 1) _ _ _ rfl h3 Tryd.underlying52 rfl (sizeT _ _ _)) rfl ⟨rfl, below_row (below_drewN (n := nq) hk) (by omega) _⟩
set_option maxRecDepth 20000 in
set_option maxHeartbeats 2000000 in
theorem newTriple_ord (x y z : Int) (ho : ord x y z) (w : World) :
    Calls Tryd.prog 25 #[.agg #[.int .i64 x, .int .i64 y, .int .i64 z]] w fun e w' => e = .returned (.tuple #[.agg #[.int .i64 x, .int .i64 y, .int .i64 z], .bool (trB x y z)]) ∧ Keeps w w' := by
  have hX := At.new2 w (.cells #[.int .i64 x, .int .i64 y, .int .i64 z] 22) 52 #[.int .i64 0, .int .i64 0, .int .i64 0]
  have hk : Keeps w ((w.alloc (.cells #[.int .i64 x, .int .i64 y, .int .i64 z] 22)).alloc (.cells #[.int .i64 0, .int .i64 0, .int .i64 0] 52)) := Keeps.alloc (Keeps.alloc (Below.refl _ _) _) _
  have hB := ho.bds
  obtain ⟨hx, hy, hz⟩ := hB
  obtain ⟨m1, m2⟩ := bd_mul hx hx
  obtain ⟨n1, n2⟩ := bd_mul hy hy
  obtain ⟨p1, p2⟩ := bd_mul hx hy
  have hh : 3 * x * y = 3 * (x * y) := Int.mul_assoc ..
  have hb : trB x y z = (((x * x + y * y).tmod z == 0) && ((x * x + y * y).tdiv z == 3 * x * y - z)) := by unfold trB; simp [ho]
  have hq : (x * x + y * y).tdiv z ≤ 2000000000000000000 ∧ 0 ≤ (x * x + y * y).tdiv z := by
    refine ⟨Int.le_trans (Int.tdiv_le_self _ (by omega)) (by omega), Int.tdiv_nonneg (by omega) (by unfold bd at hz; omega)⟩
  have ho2 := ho
  unfold bd at hx hy hz
  obtain ⟨x1, x2⟩ := hx
  obtain ⟨y1, y2⟩ := hy
  obtain ⟨z1, z2⟩ := hz
  obtain ⟨o1, o2, o3, o4⟩ := ho2
  have q0 : IntKind.i64.wrap (x * x) = x * x := IntWalk.i64_in _ (by omega)
  have q1 : IntKind.i64.wrap (y * y) = y * y := IntWalk.i64_in _ (by omega)
  have q2 : IntKind.i64.wrap (x * x + y * y) = x * x + y * y := IntWalk.i64_in _ (by omega)
  have q3 : IntKind.i64.wrap (3 * x) = 3 * x := IntWalk.i64_in _ (by omega)
  have q4 : IntKind.i64.wrap (3 * x * y) = 3 * x * y := IntWalk.i64_in _ (by omega)
  have q5 : IntKind.i64.wrap (3 * x * y - z) = 3 * x * y - z := IntWalk.i64_in _ (by omega)
  have q6 : IntKind.i64.wrap ((x * x + y * y).tdiv z) = (x * x + y * y).tdiv z := IntWalk.i64_in _ (by omega)
  have hz0 : z ≠ 0 := by omega
  have q7 : IntKind.i64.wrap ((x * x + y * y).tmod z) = (x * x + y * y).tmod z := IntWalk.i64_in _ (by have a1 := Int.tmod_nonneg (a := x * x + y * y) z (by omega); have a2 := Int.tmod_lt_of_pos (x * x + y * y) (b := z) (by omega); omega)
  have d1 : decide (x < 1) = false := decide_eq_false (by omega)
  have d2 : decide (y < x) = false := decide_eq_false (by omega)
  have d3 : decide (z < y) = false := decide_eq_false (by omega)
  have d4 : decide (1000000000 < z) = false := decide_eq_false (by omega)
  clear m1 m2 n1 n2 p1 p2 hh hq ho x1 x2 y1 y2 z1 z2 o1 o2 o3 o4
  generalize hS : x * x + y * y = S at *
  have hR : At ((w.alloc (.cells #[.int .i64 x, .int .i64 y, .int .i64 z] 22)).alloc (.cells #[.int .i64 0, .int .i64 0, .int .i64 0] 52)) w.heap.size 22 #[.int .i64 x, .int .i64 y, .int .i64 z] := (At.new w _ _).alloc _
  cases hT : (S.tmod z == 0)
  · rw [hT] at hb
    rw [Bool.false_and] at hb
    rw [hb]
    go_enter Tryd.func25, Tryd.ntmps25
    go_wp2_with fail
    go_quiet (fail)
    go_wp2_with fail
    refine region_any_inv (G := Unit) (f := ?f) (fun _ => [.agg #[.int .i64 x, .int .i64 y, .int .i64 z], .int .i64 S, .int .i64 z, .int .i64 (S.tmod z), .bool false, .bool false, undef, undef, undef, undef, undef, undef, undef, undef, undef, undef, .bool false, undef, .bool false])
      (fun _ L w' => At w' w.heap.size 22 #[.int .i64 x, .int .i64 y, .int .i64 z] ∧ At w' (w.heap.size + 1) 52 (bif L 17 then #[.int .i64 x, .int .i64 y, .int .i64 z] else #[.int .i64 0, .int .i64 0, .int .i64 0]) ∧ Keeps w w') () (fun _ => ?hf) (by kernel_rfl) (by kernel_rfl) ⟨(hR.drewN _).drew, (hX.drewN _).drew, below_drewN (n := 1) (below_drewN (n := nq) hk)⟩ ?steps ?fin
    case hf =>
      simp only [fill, List.toList_toArray, List.zip_cons_cons, List.zip_nil_left, List.zip_nil_right, List.foldl_cons, List.foldl_nil, Act.put, List.setIfInBounds_toArray, List.set_cons_succ, List.set_cons_zero]
      exact rfl
    case steps =>
      refine StepsU.cons rfl (fun g L w' hL hr hc hF => ?_) ?_
      · have A0 : At w' w.heap.size 22 #[.int .i64 x, .int .i64 y, .int .i64 z] := hF.1
        have A1 : At w' (w.heap.size + 1) 52 (bif L 17 then #[.int .i64 x, .int .i64 y, .int .i64 z] else #[.int .i64 0, .int .i64 0, .int .i64 0]) := hF.2.1
        have k3 : Keeps w w' := hF.2.2
        clear hF hc hr
        have p1 := (row_six A0).1
        have p2 := (row_six A0).2.1
        have p3 := (row_six A0).2.2.1
        refine StepU.go rfl (fun K hK => ?_)
        clear hX hk hR
        go_simp
        exact hK () _ ⟨A0, A1, k3⟩
      refine StepsU.cons rfl (fun g L w' hL hr hc hF => ?_) ?_
      · have A0 : At w' w.heap.size 22 #[.int .i64 x, .int .i64 y, .int .i64 z] := hF.1
        have A1 : At w' (w.heap.size + 1) 52 (bif L 17 then #[.int .i64 x, .int .i64 y, .int .i64 z] else #[.int .i64 0, .int .i64 0, .int .i64 0]) := hF.2.1
        have k3 : Keeps w w' := hF.2.2
        clear hF hc hr
        have p1 := (row_six A0).1
        have p2 := (row_six A0).2.1
        have p3 := (row_six A0).2.2.1
        refine StepU.go rfl (fun K hK => ?_)
        clear hX hk hR
        go_simp
        exact hK () _ ⟨A0, A1, k3⟩
      refine StepsU.cons rfl (fun g L w' hL hr hc hF => ?_) ?_
      · have A0 : At w' w.heap.size 22 #[.int .i64 x, .int .i64 y, .int .i64 z] := hF.1
        have A1 : At w' (w.heap.size + 1) 52 (bif L 17 then #[.int .i64 x, .int .i64 y, .int .i64 z] else #[.int .i64 0, .int .i64 0, .int .i64 0]) := hF.2.1
        have k3 : Keeps w w' := hF.2.2
        clear hF hc hr
        have p1 := (row_six A0).1
        have p2 := (row_six A0).2.1
        have p3 := (row_six A0).2.2.1
        refine StepU.go rfl (fun K hK => ?_)
        clear hX hk hR
        go_simp
        exact hK () _ ⟨A0, A1, k3⟩
      refine StepsU.cons rfl (fun g L w' hL hr hc hF => ?_) ?_
      · have A0 : At w' w.heap.size 22 #[.int .i64 x, .int .i64 y, .int .i64 z] := hF.1
        have A1 : At w' (w.heap.size + 1) 52 (bif L 17 then #[.int .i64 x, .int .i64 y, .int .i64 z] else #[.int .i64 0, .int .i64 0, .int .i64 0]) := hF.2.1
        have k3 : Keeps w w' := hF.2.2
        clear hF hc hr
        have p1 := (row_six A0).1
        have p2 := (row_six A0).2.1
        have p3 := (row_six A0).2.2.1
        refine StepU.go rfl (fun K hK => ?_)
        clear hX hk hR
        go_simp
        exact hK () _ ⟨A0, A1, k3⟩
      refine StepsU.cons rfl (fun g L w' hL hr hc hF => ?_) ?_
      · have A0 : At w' w.heap.size 22 #[.int .i64 x, .int .i64 y, .int .i64 z] := hF.1
        have A1 : At w' (w.heap.size + 1) 52 (bif L 17 then #[.int .i64 x, .int .i64 y, .int .i64 z] else #[.int .i64 0, .int .i64 0, .int .i64 0]) := hF.2.1
        have k3 : Keeps w w' := hF.2.2
        clear hF hc hr
        have p1 := (row_six A0).1
        have p2 := (row_six A0).2.1
        have p3 := (row_six A0).2.2.1
        refine StepU.go rfl (fun K hK => ?_)
        clear hX hk hR
        go_simp
        exact hK () _ ⟨A0, A1, k3⟩
      refine StepsU.cons rfl (fun g L w' hL hr hc hF => ?_) ?_
      · have A0 : At w' w.heap.size 22 #[.int .i64 x, .int .i64 y, .int .i64 z] := hF.1
        have A1 : At w' (w.heap.size + 1) 52 (bif L 17 then #[.int .i64 x, .int .i64 y, .int .i64 z] else #[.int .i64 0, .int .i64 0, .int .i64 0]) := hF.2.1
        have k3 : Keeps w w' := hF.2.2
        clear hF hc hr
        have p1 := (row_six A0).1
        have p2 := (row_six A0).2.1
        have p3 := (row_six A0).2.2.1
        refine StepU.go rfl (fun K hK => ?_)
        clear hX hk hR
        go_simp
        exact hK () _ ⟨A0, A1, k3⟩
      refine StepsU.cons rfl (fun g L w' hL hr hc hF => ?_) ?_
      · exact StepU.struck rfl ⟨(), rfl, hF⟩
      refine StepsU.cons rfl (fun g L w' hL hr hc hF => ?_) ?_
      · exact StepU.struck rfl ⟨(), rfl, hF⟩
      refine StepsU.cons rfl (fun g L w' hL hr hc hF => ?_) ?_
      · exact StepU.struck rfl ⟨(), rfl, hF⟩
      refine StepsU.cons rfl (fun g L w' hL hr hc hF => ?_) ?_
      · exact StepU.struck rfl ⟨(), rfl, hF⟩
      refine StepsU.cons rfl (fun g L w' hL hr hc hF => ?_) ?_
      · exact StepU.struck rfl ⟨(), rfl, hF⟩
      refine StepsU.cons rfl (fun g L w' hL hr hc hF => ?_) ?_
      · exact StepU.struck rfl ⟨(), rfl, hF⟩
      refine StepsU.cons rfl (fun g L w' hL hr hc hF => ?_) ?_
      · exact StepU.struck rfl ⟨(), rfl, hF⟩
      refine StepsU.cons rfl (fun g L w' hL hr hc hF => ?_) ?_
      · exact StepU.struck rfl ⟨(), rfl, hF⟩
      refine StepsU.cons rfl (fun g L w' hL hr hc hF => ?_) ?_
      · exact StepU.struck rfl ⟨(), rfl, hF⟩
      refine StepsU.cons rfl (fun g L w' hL hr hc hF => ?_) ?_
      · exact StepU.struck rfl ⟨(), rfl, hF⟩
      refine StepsU.cons rfl (fun g L w' hL hr hc hF => ?_) ?_
      · have A0 : At w' w.heap.size 22 #[.int .i64 x, .int .i64 y, .int .i64 z] := hF.1
        have A1 : At w' (w.heap.size + 1) 52 (bif L 17 then #[.int .i64 x, .int .i64 y, .int .i64 z] else #[.int .i64 0, .int .i64 0, .int .i64 0]) := hF.2.1
        have k3 : Keeps w w' := hF.2.2
        clear hF hc hr
        have p1 := (row_six A0).1
        have p2 := (row_six A0).2.1
        have p3 := (row_six A0).2.2.1
        refine StepU.go rfl (fun K hK => ?_)
        clear hX hk hR
        go_simp
        exact hK () _ ⟨A0, A1, k3⟩
      refine StepsU.cons rfl (fun g L w' hL hr hc hF => ?_) ?_
      · have A0 : At w' w.heap.size 22 #[.int .i64 x, .int .i64 y, .int .i64 z] := hF.1
        have A1 : At w' (w.heap.size + 1) 52 (bif L 17 then #[.int .i64 x, .int .i64 y, .int .i64 z] else #[.int .i64 0, .int .i64 0, .int .i64 0]) := hF.2.1
        have k3 : Keeps w w' := hF.2.2
        clear hF hc hr
        have p1 := (row_six A0).1
        have p2 := (row_six A0).2.1
        have p3 := (row_six A0).2.2.1
        rw [hL, cond_false] at A1
        obtain ⟨r1, r2, r3, r4, r5, r6⟩ := row_six A1
        refine StepU.go rfl (fun K hK => ?_)
        clear hX hk hR
        go_simp
        exact hK () _ ⟨((A0.far (by simp) _).far (by simp) _).far (by simp) _, by rw [add_same, cond_true]; exact A1.three _ _ _, Below.setCell (Below.setCell (Below.setCell k3 (by simp) _) (by simp) _) (by simp) _⟩
      refine StepsU.cons rfl (fun g L w' hL hr hc hF => ?_) ?_
      · have A0 : At w' w.heap.size 22 #[.int .i64 x, .int .i64 y, .int .i64 z] := hF.1
        have A1 : At w' (w.heap.size + 1) 52 (bif L 17 then #[.int .i64 x, .int .i64 y, .int .i64 z] else #[.int .i64 0, .int .i64 0, .int .i64 0]) := hF.2.1
        have k3 : Keeps w w' := hF.2.2
        clear hF hc hr
        have p1 := (row_six A0).1
        have p2 := (row_six A0).2.1
        have p3 := (row_six A0).2.2.1
        refine StepU.go rfl (fun K hK => ?_)
        clear hX hk hR
        go_simp
        exact hK () _ ⟨A0, A1, k3⟩
      exact StepsU.nil (by simp)
    case fin =>
      intro g L w5 hall hF
      obtain ⟨A0, A1, k5⟩ := hF
      rw [hall 17 (by simp), cond_true] at A1
      clear hall hX hk hR
      go_wp2_with fail
      exact bodyPost_ret (v := .tuple #[.agg #[.int .i64 x, .int .i64 y, .int .i64 z], .bool false]) (results_row_tmp Tryd.results25 _ _ (w.heap.size + 1) _ _ _ rfl A1 Tryd.underlying52 rfl (sizeT _ _ _)) rfl ⟨rfl, k5⟩
  · rw [hT] at hb
    rw [Bool.true_and] at hb
    rw [hb]
    go_enter Tryd.func25, Tryd.ntmps25
    go_wp2_with fail
    go_quiet (fail)
    go_wp2_with fail
    refine region_any_inv (G := Unit) (f := ?f1) (fun _ => [.agg #[.int .i64 x, .int .i64 y, .int .i64 z], .int .i64 S, .int .i64 z, .int .i64 (S.tmod z), .bool true, .bool true, .int .i64 S, .int .i64 z, .int .i64 (S.tdiv z), .int .i64 x, .int .i64 (3 * x), .int .i64 y, .int .i64 (3 * x * y), .int .i64 z, .int .i64 (3 * x * y - z), .bool (S.tdiv z == 3 * x * y - z), .bool (S.tdiv z == 3 * x * y - z), undef, .bool (S.tdiv z == 3 * x * y - z)])
      (fun _ L w' => At w' w.heap.size 22 #[.int .i64 x, .int .i64 y, .int .i64 z] ∧ At w' (w.heap.size + 1) 52 (bif L 17 then #[.int .i64 x, .int .i64 y, .int .i64 z] else #[.int .i64 0, .int .i64 0, .int .i64 0]) ∧ Keeps w w') () (fun _ => ?hf1) (by kernel_rfl) (by kernel_rfl) ⟨(hR.drewN _).drew, (hX.drewN _).drew, below_drewN (n := 1) (below_drewN (n := nq) hk)⟩ ?steps1 ?fin1
    case hf1 =>
      simp only [fill, List.toList_toArray, List.zip_cons_cons, List.zip_nil_left, List.zip_nil_right, List.foldl_cons, List.foldl_nil, Act.put, List.setIfInBounds_toArray, List.set_cons_succ, List.set_cons_zero]
      exact rfl
    case steps1 =>
      refine StepsU.cons rfl (fun g L w' hL hr hc hF => ?_) ?_
      · have A0 : At w' w.heap.size 22 #[.int .i64 x, .int .i64 y, .int .i64 z] := hF.1
        have A1 : At w' (w.heap.size + 1) 52 (bif L 17 then #[.int .i64 x, .int .i64 y, .int .i64 z] else #[.int .i64 0, .int .i64 0, .int .i64 0]) := hF.2.1
        have k3 : Keeps w w' := hF.2.2
        clear hF hc hr
        have p1 := (row_six A0).1
        have p2 := (row_six A0).2.1
        have p3 := (row_six A0).2.2.1
        refine StepU.go rfl (fun K hK => ?_)
        clear hX hk hR
        go_simp
        exact hK () _ ⟨A0, A1, k3⟩
      refine StepsU.cons rfl (fun g L w' hL hr hc hF => ?_) ?_
      · have A0 : At w' w.heap.size 22 #[.int .i64 x, .int .i64 y, .int .i64 z] := hF.1
        have A1 : At w' (w.heap.size + 1) 52 (bif L 17 then #[.int .i64 x, .int .i64 y, .int .i64 z] else #[.int .i64 0, .int .i64 0, .int .i64 0]) := hF.2.1
        have k3 : Keeps w w' := hF.2.2
        clear hF hc hr
        have p1 := (row_six A0).1
        have p2 := (row_six A0).2.1
        have p3 := (row_six A0).2.2.1
        refine StepU.go rfl (fun K hK => ?_)
        clear hX hk hR
        go_simp
        exact hK () _ ⟨A0, A1, k3⟩
      refine StepsU.cons rfl (fun g L w' hL hr hc hF => ?_) ?_
      · have A0 : At w' w.heap.size 22 #[.int .i64 x, .int .i64 y, .int .i64 z] := hF.1
        have A1 : At w' (w.heap.size + 1) 52 (bif L 17 then #[.int .i64 x, .int .i64 y, .int .i64 z] else #[.int .i64 0, .int .i64 0, .int .i64 0]) := hF.2.1
        have k3 : Keeps w w' := hF.2.2
        clear hF hc hr
        have p1 := (row_six A0).1
        have p2 := (row_six A0).2.1
        have p3 := (row_six A0).2.2.1
        refine StepU.go rfl (fun K hK => ?_)
        clear hX hk hR
        go_simp
        exact hK () _ ⟨A0, A1, k3⟩
      refine StepsU.cons rfl (fun g L w' hL hr hc hF => ?_) ?_
      · have A0 : At w' w.heap.size 22 #[.int .i64 x, .int .i64 y, .int .i64 z] := hF.1
        have A1 : At w' (w.heap.size + 1) 52 (bif L 17 then #[.int .i64 x, .int .i64 y, .int .i64 z] else #[.int .i64 0, .int .i64 0, .int .i64 0]) := hF.2.1
        have k3 : Keeps w w' := hF.2.2
        clear hF hc hr
        have p1 := (row_six A0).1
        have p2 := (row_six A0).2.1
        have p3 := (row_six A0).2.2.1
        refine StepU.go rfl (fun K hK => ?_)
        clear hX hk hR
        go_simp
        exact hK () _ ⟨A0, A1, k3⟩
      refine StepsU.cons rfl (fun g L w' hL hr hc hF => ?_) ?_
      · have A0 : At w' w.heap.size 22 #[.int .i64 x, .int .i64 y, .int .i64 z] := hF.1
        have A1 : At w' (w.heap.size + 1) 52 (bif L 17 then #[.int .i64 x, .int .i64 y, .int .i64 z] else #[.int .i64 0, .int .i64 0, .int .i64 0]) := hF.2.1
        have k3 : Keeps w w' := hF.2.2
        clear hF hc hr
        have p1 := (row_six A0).1
        have p2 := (row_six A0).2.1
        have p3 := (row_six A0).2.2.1
        refine StepU.go rfl (fun K hK => ?_)
        clear hX hk hR
        go_simp
        exact hK () _ ⟨A0, A1, k3⟩
      refine StepsU.cons rfl (fun g L w' hL hr hc hF => ?_) ?_
      · have A0 : At w' w.heap.size 22 #[.int .i64 x, .int .i64 y, .int .i64 z] := hF.1
        have A1 : At w' (w.heap.size + 1) 52 (bif L 17 then #[.int .i64 x, .int .i64 y, .int .i64 z] else #[.int .i64 0, .int .i64 0, .int .i64 0]) := hF.2.1
        have k3 : Keeps w w' := hF.2.2
        clear hF hc hr
        have p1 := (row_six A0).1
        have p2 := (row_six A0).2.1
        have p3 := (row_six A0).2.2.1
        refine StepU.go rfl (fun K hK => ?_)
        clear hX hk hR
        go_simp
        exact hK () _ ⟨A0, A1, k3⟩
      refine StepsU.cons rfl (fun g L w' hL hr hc hF => ?_) ?_
      · have A0 : At w' w.heap.size 22 #[.int .i64 x, .int .i64 y, .int .i64 z] := hF.1
        have A1 : At w' (w.heap.size + 1) 52 (bif L 17 then #[.int .i64 x, .int .i64 y, .int .i64 z] else #[.int .i64 0, .int .i64 0, .int .i64 0]) := hF.2.1
        have k3 : Keeps w w' := hF.2.2
        clear hF hc hr
        have p1 := (row_six A0).1
        have p2 := (row_six A0).2.1
        have p3 := (row_six A0).2.2.1
        refine StepU.go rfl (fun K hK => ?_)
        clear hX hk hR
        go_simp
        exact hK () _ ⟨A0, A1, k3⟩
      refine StepsU.cons rfl (fun g L w' hL hr hc hF => ?_) ?_
      · have A0 : At w' w.heap.size 22 #[.int .i64 x, .int .i64 y, .int .i64 z] := hF.1
        have A1 : At w' (w.heap.size + 1) 52 (bif L 17 then #[.int .i64 x, .int .i64 y, .int .i64 z] else #[.int .i64 0, .int .i64 0, .int .i64 0]) := hF.2.1
        have k3 : Keeps w w' := hF.2.2
        clear hF hc hr
        have p1 := (row_six A0).1
        have p2 := (row_six A0).2.1
        have p3 := (row_six A0).2.2.1
        refine StepU.go rfl (fun K hK => ?_)
        clear hX hk hR
        go_simp
        exact hK () _ ⟨A0, A1, k3⟩
      refine StepsU.cons rfl (fun g L w' hL hr hc hF => ?_) ?_
      · have A0 : At w' w.heap.size 22 #[.int .i64 x, .int .i64 y, .int .i64 z] := hF.1
        have A1 : At w' (w.heap.size + 1) 52 (bif L 17 then #[.int .i64 x, .int .i64 y, .int .i64 z] else #[.int .i64 0, .int .i64 0, .int .i64 0]) := hF.2.1
        have k3 : Keeps w w' := hF.2.2
        clear hF hc hr
        have p1 := (row_six A0).1
        have p2 := (row_six A0).2.1
        have p3 := (row_six A0).2.2.1
        refine StepU.go rfl (fun K hK => ?_)
        clear hX hk hR
        go_simp
        exact hK () _ ⟨A0, A1, k3⟩
      refine StepsU.cons rfl (fun g L w' hL hr hc hF => ?_) ?_
      · have A0 : At w' w.heap.size 22 #[.int .i64 x, .int .i64 y, .int .i64 z] := hF.1
        have A1 : At w' (w.heap.size + 1) 52 (bif L 17 then #[.int .i64 x, .int .i64 y, .int .i64 z] else #[.int .i64 0, .int .i64 0, .int .i64 0]) := hF.2.1
        have k3 : Keeps w w' := hF.2.2
        clear hF hc hr
        have p1 := (row_six A0).1
        have p2 := (row_six A0).2.1
        have p3 := (row_six A0).2.2.1
        refine StepU.go rfl (fun K hK => ?_)
        clear hX hk hR
        go_simp
        exact hK () _ ⟨A0, A1, k3⟩
      refine StepsU.cons rfl (fun g L w' hL hr hc hF => ?_) ?_
      · have A0 : At w' w.heap.size 22 #[.int .i64 x, .int .i64 y, .int .i64 z] := hF.1
        have A1 : At w' (w.heap.size + 1) 52 (bif L 17 then #[.int .i64 x, .int .i64 y, .int .i64 z] else #[.int .i64 0, .int .i64 0, .int .i64 0]) := hF.2.1
        have k3 : Keeps w w' := hF.2.2
        clear hF hc hr
        have p1 := (row_six A0).1
        have p2 := (row_six A0).2.1
        have p3 := (row_six A0).2.2.1
        refine StepU.go rfl (fun K hK => ?_)
        clear hX hk hR
        go_simp
        exact hK () _ ⟨A0, A1, k3⟩
      refine StepsU.cons rfl (fun g L w' hL hr hc hF => ?_) ?_
      · have A0 : At w' w.heap.size 22 #[.int .i64 x, .int .i64 y, .int .i64 z] := hF.1
        have A1 : At w' (w.heap.size + 1) 52 (bif L 17 then #[.int .i64 x, .int .i64 y, .int .i64 z] else #[.int .i64 0, .int .i64 0, .int .i64 0]) := hF.2.1
        have k3 : Keeps w w' := hF.2.2
        clear hF hc hr
        have p1 := (row_six A0).1
        have p2 := (row_six A0).2.1
        have p3 := (row_six A0).2.2.1
        refine StepU.go rfl (fun K hK => ?_)
        clear hX hk hR
        go_simp
        exact hK () _ ⟨A0, A1, k3⟩
      refine StepsU.cons rfl (fun g L w' hL hr hc hF => ?_) ?_
      · have A0 : At w' w.heap.size 22 #[.int .i64 x, .int .i64 y, .int .i64 z] := hF.1
        have A1 : At w' (w.heap.size + 1) 52 (bif L 17 then #[.int .i64 x, .int .i64 y, .int .i64 z] else #[.int .i64 0, .int .i64 0, .int .i64 0]) := hF.2.1
        have k3 : Keeps w w' := hF.2.2
        clear hF hc hr
        have p1 := (row_six A0).1
        have p2 := (row_six A0).2.1
        have p3 := (row_six A0).2.2.1
        refine StepU.go rfl (fun K hK => ?_)
        clear hX hk hR
        go_simp
        exact hK () _ ⟨A0, A1, k3⟩
      refine StepsU.cons rfl (fun g L w' hL hr hc hF => ?_) ?_
      · have A0 : At w' w.heap.size 22 #[.int .i64 x, .int .i64 y, .int .i64 z] := hF.1
        have A1 : At w' (w.heap.size + 1) 52 (bif L 17 then #[.int .i64 x, .int .i64 y, .int .i64 z] else #[.int .i64 0, .int .i64 0, .int .i64 0]) := hF.2.1
        have k3 : Keeps w w' := hF.2.2
        clear hF hc hr
        have p1 := (row_six A0).1
        have p2 := (row_six A0).2.1
        have p3 := (row_six A0).2.2.1
        refine StepU.go rfl (fun K hK => ?_)
        clear hX hk hR
        go_simp
        exact hK () _ ⟨A0, A1, k3⟩
      refine StepsU.cons rfl (fun g L w' hL hr hc hF => ?_) ?_
      · have A0 : At w' w.heap.size 22 #[.int .i64 x, .int .i64 y, .int .i64 z] := hF.1
        have A1 : At w' (w.heap.size + 1) 52 (bif L 17 then #[.int .i64 x, .int .i64 y, .int .i64 z] else #[.int .i64 0, .int .i64 0, .int .i64 0]) := hF.2.1
        have k3 : Keeps w w' := hF.2.2
        clear hF hc hr
        have p1 := (row_six A0).1
        have p2 := (row_six A0).2.1
        have p3 := (row_six A0).2.2.1
        refine StepU.go rfl (fun K hK => ?_)
        clear hX hk hR
        go_simp
        exact hK () _ ⟨A0, A1, k3⟩
      refine StepsU.cons rfl (fun g L w' hL hr hc hF => ?_) ?_
      · have A0 : At w' w.heap.size 22 #[.int .i64 x, .int .i64 y, .int .i64 z] := hF.1
        have A1 : At w' (w.heap.size + 1) 52 (bif L 17 then #[.int .i64 x, .int .i64 y, .int .i64 z] else #[.int .i64 0, .int .i64 0, .int .i64 0]) := hF.2.1
        have k3 : Keeps w w' := hF.2.2
        clear hF hc hr
        have p1 := (row_six A0).1
        have p2 := (row_six A0).2.1
        have p3 := (row_six A0).2.2.1
        refine StepU.go rfl (fun K hK => ?_)
        clear hX hk hR
        go_simp
        exact hK () _ ⟨A0, A1, k3⟩
      refine StepsU.cons rfl (fun g L w' hL hr hc hF => ?_) ?_
      · have A0 : At w' w.heap.size 22 #[.int .i64 x, .int .i64 y, .int .i64 z] := hF.1
        have A1 : At w' (w.heap.size + 1) 52 (bif L 17 then #[.int .i64 x, .int .i64 y, .int .i64 z] else #[.int .i64 0, .int .i64 0, .int .i64 0]) := hF.2.1
        have k3 : Keeps w w' := hF.2.2
        clear hF hc hr
        have p1 := (row_six A0).1
        have p2 := (row_six A0).2.1
        have p3 := (row_six A0).2.2.1
        refine StepU.go rfl (fun K hK => ?_)
        clear hX hk hR
        go_simp
        exact hK () _ ⟨A0, A1, k3⟩
      refine StepsU.cons rfl (fun g L w' hL hr hc hF => ?_) ?_
      · have A0 : At w' w.heap.size 22 #[.int .i64 x, .int .i64 y, .int .i64 z] := hF.1
        have A1 : At w' (w.heap.size + 1) 52 (bif L 17 then #[.int .i64 x, .int .i64 y, .int .i64 z] else #[.int .i64 0, .int .i64 0, .int .i64 0]) := hF.2.1
        have k3 : Keeps w w' := hF.2.2
        clear hF hc hr
        have p1 := (row_six A0).1
        have p2 := (row_six A0).2.1
        have p3 := (row_six A0).2.2.1
        rw [hL, cond_false] at A1
        obtain ⟨r1, r2, r3, r4, r5, r6⟩ := row_six A1
        refine StepU.go rfl (fun K hK => ?_)
        clear hX hk hR
        go_simp
        exact hK () _ ⟨((A0.far (by simp) _).far (by simp) _).far (by simp) _, by rw [add_same, cond_true]; exact A1.three _ _ _, Below.setCell (Below.setCell (Below.setCell k3 (by simp) _) (by simp) _) (by simp) _⟩
      refine StepsU.cons rfl (fun g L w' hL hr hc hF => ?_) ?_
      · have A0 : At w' w.heap.size 22 #[.int .i64 x, .int .i64 y, .int .i64 z] := hF.1
        have A1 : At w' (w.heap.size + 1) 52 (bif L 17 then #[.int .i64 x, .int .i64 y, .int .i64 z] else #[.int .i64 0, .int .i64 0, .int .i64 0]) := hF.2.1
        have k3 : Keeps w w' := hF.2.2
        clear hF hc hr
        have p1 := (row_six A0).1
        have p2 := (row_six A0).2.1
        have p3 := (row_six A0).2.2.1
        refine StepU.go rfl (fun K hK => ?_)
        clear hX hk hR
        go_simp
        exact hK () _ ⟨A0, A1, k3⟩
      exact StepsU.nil (by simp)
    case fin1 =>
      intro g L w5 hall hF
      obtain ⟨A0, A1, k5⟩ := hF
      rw [hall 17 (by simp), cond_true] at A1
      clear hall hX hk hR
      go_wp2_with fail
      exact bodyPost_ret (v := .tuple #[.agg #[.int .i64 x, .int .i64 y, .int .i64 z], .bool (S.tdiv z == 3 * x * y - z)]) (results_row_tmp Tryd.results25 _ _ (w.heap.size + 1) _ _ _ rfl A1 Tryd.underlying52 rfl (sizeT _ _ _)) rfl ⟨rfl, k5⟩
end Go.Proofs.YteffkcnlipdgaaaDoor
