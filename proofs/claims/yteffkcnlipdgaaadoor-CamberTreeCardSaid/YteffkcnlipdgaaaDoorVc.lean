/- The reference's sorted, Exchange. -/
import Derived.Test.YteffkcnlipdgaaaDoorVa
namespace Go.Proofs.YteffkcnlipdgaaaDoor
open Go.RowKit
set_option linter.unusedVariables false
set_option linter.unusedSimpArgs false

/-- Three numbers in order, as the reference puts them. -/
def srt (a b c : Int) : Int × Int × Int := (min (min a b) c, a + b + c - min (min a b) c - max (max a b) c, max (max a b) c)
/-- What exchanging leads to. -/
def exT (e : Int × Int × Int) (k : Nat) : Int × Int × Int := if k = 0 then leftT e else if k = 1 then rightT e else upT e
theorem srt_in (a b c : Int) (h1 : a ≤ b) (h2 : b ≤ c) : srt a b c = (a, b, c) := by
  unfold srt; simp only [Prod.mk.injEq]; omega
theorem srt_up (x y t : Int) (h : x ≤ y) : srt x y t = s3 x y t := by
  unfold srt s3; split
  · simp only [Prod.mk.injEq]; omega
  · split <;> simp only [Prod.mk.injEq] <;> omega
theorem mul_ge {a b : Int} (ha : 1 ≤ a) (hb : 0 ≤ b) : b ≤ a * b := by
  have := Int.mul_le_mul_of_nonneg_right ha hb
  omega
theorem Tri.left_in {x y z : Int} (h : Tri x y z) : z ≤ 3 * y * z - x ∧ 3 * y * z - x ≤ 3000000000000000000 := by
  have hb := h.bds
  obtain ⟨⟨o1, o2, o3, o4⟩, -⟩ := h
  have := mul_ge (a := y) (b := z) (by omega) (by omega)
  have h2 := (bd_mul hb.2.1 hb.2.2).2
  have e : 3 * y * z = 3 * (y * z) := Int.mul_assoc ..
  omega
theorem Tri.up_in {x y z : Int} (h : Tri x y z) : 3 * x * y - z ≤ y ∨ (x = 1 ∧ y = 1 ∧ z = 1) := by
  rcases Int.lt_or_le z 2 with hz | hz
  · right; obtain ⟨⟨o1, o2, o3, o4⟩, -⟩ := h; omega
  · left; exact (Tri.down h hz).2.1
theorem Tri.up_four {x y z : Int} (h : Tri x y z) : (x ≤ y ∧ y ≤ 3 * x * y - z) ∨ (y ≤ x ∧ x ≤ 3 * x * y - z) ∨ (3 * x * y - z ≤ x ∧ x ≤ y) ∨ (x < 3 * x * y - z ∧ 3 * x * y - z ≤ y) := by
  have ho := h.1.2.1
  rcases h.up_in with h1 | ⟨rfl, rfl, rfl⟩
  · omega
  · decide
theorem Tri.right_in {x y z : Int} (h : Tri x y z) : z ≤ 3 * x * z - y ∧ 3 * x * z - y ≤ 3000000000000000000 := by
  have hb := h.bds
  obtain ⟨⟨o1, o2, o3, o4⟩, -⟩ := h
  have := mul_ge (a := x) (b := z) (by omega) (by omega)
  have h2 := (bd_mul hb.1 hb.2.2).2
  have e : 3 * x * z = 3 * (x * z) := Int.mul_assoc ..
  omega
set_option maxHeartbeats 2000000 in
set_option maxRecDepth 20000 in
theorem sorted_abc (a b c : Int) (ha : bd a) (hb : bd b) (hc : -1000000000 ≤ c ∧ c ≤ 3000000000000000000) (h : a ≤ b ∧ b ≤ c) (w : World) :
    Calls Tryd.prog 49 #[.int .i64 a, .int .i64 b, .int .i64 c] w fun e w' => e = .returned (.agg #[.int .i64 a, .int .i64 b, .int .i64 c]) ∧ Keeps w w' := by
  obtain ⟨a1, a2⟩ := ha
  obtain ⟨b1, b2⟩ := hb
  obtain ⟨c1, c2⟩ := hc
  obtain ⟨h1, h2⟩ := h
  have q0 : IntKind.i64.wrap a = a := IntWalk.i64_in _ (by omega)
  have q00 : IntKind.i64.wrap b = b := IntWalk.i64_in _ (by omega)
  have q01 : IntKind.i64.wrap c = c := IntWalk.i64_in _ (by omega)
  have q1 : IntKind.i64.wrap (a + b) = a + b := IntWalk.i64_in _ (by omega)
  have q2 : IntKind.i64.wrap (a + b + c) = a + b + c := IntWalk.i64_in _ (by omega)
  have q3 : IntKind.i64.wrap (a + b + c - a) = a + b + c - a := IntWalk.i64_in _ (by omega)
  have q4 : IntKind.i64.wrap (a + b + c - a - c) = a + b + c - a - c := IntWalk.i64_in _ (by omega)
  have q5 : IntKind.i64.wrap (a + b - c) = a + b - c := IntWalk.i64_in _ (by omega)
  have hmi : min (min a b) c = a := by omega
  have hma : max (max a b) c = c := by omega
  go_enter Tryd.func49, Tryd.ntmps49
  go_wp2_with fail
  all_goals first
    | (exfalso; omega)
    | (refine bodyPost_ret (results_cell_row Tryd.results49 _ _ w.heap.size _ _ _ _ rfl (At.new w _ _) Tryd.underlying22 rfl (size3 _ _ _)) rfl ⟨?_, Keeps.alloc (Below.refl _ _) _⟩; first | rfl | (simp; omega))
set_option maxHeartbeats 2000000 in
set_option maxRecDepth 20000 in
theorem sorted_bac (a b c : Int) (ha : bd a) (hb : bd b) (hc : -1000000000 ≤ c ∧ c ≤ 3000000000000000000) (h : b ≤ a ∧ a ≤ c) (w : World) :
    Calls Tryd.prog 49 #[.int .i64 a, .int .i64 b, .int .i64 c] w fun e w' => e = .returned (.agg #[.int .i64 b, .int .i64 a, .int .i64 c]) ∧ Keeps w w' := by
  obtain ⟨a1, a2⟩ := ha
  obtain ⟨b1, b2⟩ := hb
  obtain ⟨c1, c2⟩ := hc
  obtain ⟨h1, h2⟩ := h
  have q0 : IntKind.i64.wrap a = a := IntWalk.i64_in _ (by omega)
  have q00 : IntKind.i64.wrap b = b := IntWalk.i64_in _ (by omega)
  have q01 : IntKind.i64.wrap c = c := IntWalk.i64_in _ (by omega)
  have q1 : IntKind.i64.wrap (a + b) = a + b := IntWalk.i64_in _ (by omega)
  have q2 : IntKind.i64.wrap (a + b + c) = a + b + c := IntWalk.i64_in _ (by omega)
  have q3 : IntKind.i64.wrap (a + b + c - b) = a + b + c - b := IntWalk.i64_in _ (by omega)
  have q4 : IntKind.i64.wrap (a + b + c - b - c) = a + b + c - b - c := IntWalk.i64_in _ (by omega)
  have q5 : IntKind.i64.wrap (a + b - c) = a + b - c := IntWalk.i64_in _ (by omega)
  have hmi : min (min a b) c = b := by omega
  have hma : max (max a b) c = c := by omega
  go_enter Tryd.func49, Tryd.ntmps49
  go_wp2_with fail
  all_goals first
    | (exfalso; omega)
    | (refine bodyPost_ret (results_cell_row Tryd.results49 _ _ w.heap.size _ _ _ _ rfl (At.new w _ _) Tryd.underlying22 rfl (size3 _ _ _)) rfl ⟨?_, Keeps.alloc (Below.refl _ _) _⟩; first | rfl | (simp; omega))
set_option maxHeartbeats 2000000 in
set_option maxRecDepth 20000 in
theorem sorted_cab (a b c : Int) (ha : bd a) (hb : bd b) (hc : -1000000000 ≤ c ∧ c ≤ 3000000000000000000) (h : c ≤ a ∧ a ≤ b) (w : World) :
    Calls Tryd.prog 49 #[.int .i64 a, .int .i64 b, .int .i64 c] w fun e w' => e = .returned (.agg #[.int .i64 c, .int .i64 a, .int .i64 b]) ∧ Keeps w w' := by
  obtain ⟨a1, a2⟩ := ha
  obtain ⟨b1, b2⟩ := hb
  obtain ⟨c1, c2⟩ := hc
  obtain ⟨h1, h2⟩ := h
  have q0 : IntKind.i64.wrap a = a := IntWalk.i64_in _ (by omega)
  have q00 : IntKind.i64.wrap b = b := IntWalk.i64_in _ (by omega)
  have q01 : IntKind.i64.wrap c = c := IntWalk.i64_in _ (by omega)
  have q1 : IntKind.i64.wrap (a + b) = a + b := IntWalk.i64_in _ (by omega)
  have q2 : IntKind.i64.wrap (a + b + c) = a + b + c := IntWalk.i64_in _ (by omega)
  have q3 : IntKind.i64.wrap (a + b + c - c) = a + b + c - c := IntWalk.i64_in _ (by omega)
  have q4 : IntKind.i64.wrap (a + b + c - c - b) = a + b + c - c - b := IntWalk.i64_in _ (by omega)
  have q5 : IntKind.i64.wrap (a + b - b) = a + b - b := IntWalk.i64_in _ (by omega)
  have hmi : min (min a b) c = c := by omega
  have hma : max (max a b) c = b := by omega
  go_enter Tryd.func49, Tryd.ntmps49
  go_wp2_with fail
  all_goals first
    | (exfalso; omega)
    | (refine bodyPost_ret (results_cell_row Tryd.results49 _ _ w.heap.size _ _ _ _ rfl (At.new w _ _) Tryd.underlying22 rfl (size3 _ _ _)) rfl ⟨?_, Keeps.alloc (Below.refl _ _) _⟩; first | rfl | (simp; omega))
set_option maxHeartbeats 2000000 in
set_option maxRecDepth 20000 in
theorem sorted_acb (a b c : Int) (ha : bd a) (hb : bd b) (hc : -1000000000 ≤ c ∧ c ≤ 3000000000000000000) (h : a < c ∧ c ≤ b) (w : World) :
    Calls Tryd.prog 49 #[.int .i64 a, .int .i64 b, .int .i64 c] w fun e w' => e = .returned (.agg #[.int .i64 a, .int .i64 c, .int .i64 b]) ∧ Keeps w w' := by
  obtain ⟨a1, a2⟩ := ha
  obtain ⟨b1, b2⟩ := hb
  obtain ⟨c1, c2⟩ := hc
  obtain ⟨h1, h2⟩ := h
  have q0 : IntKind.i64.wrap a = a := IntWalk.i64_in _ (by omega)
  have q00 : IntKind.i64.wrap b = b := IntWalk.i64_in _ (by omega)
  have q01 : IntKind.i64.wrap c = c := IntWalk.i64_in _ (by omega)
  have q1 : IntKind.i64.wrap (a + b) = a + b := IntWalk.i64_in _ (by omega)
  have q2 : IntKind.i64.wrap (a + b + c) = a + b + c := IntWalk.i64_in _ (by omega)
  have q3 : IntKind.i64.wrap (a + b + c - a) = a + b + c - a := IntWalk.i64_in _ (by omega)
  have q4 : IntKind.i64.wrap (a + b + c - a - b) = a + b + c - a - b := IntWalk.i64_in _ (by omega)
  have q5 : IntKind.i64.wrap (a + b - b) = a + b - b := IntWalk.i64_in _ (by omega)
  have hmi : min (min a b) c = a := by omega
  have hma : max (max a b) c = b := by omega
  go_enter Tryd.func49, Tryd.ntmps49
  go_wp2_with fail
  all_goals first
    | (exfalso; omega)
    | (refine bodyPost_ret (results_cell_row Tryd.results49 _ _ w.heap.size _ _ _ _ rfl (At.new w _ _) Tryd.underlying22 rfl (size3 _ _ _)) rfl ⟨?_, Keeps.alloc (Below.refl _ _) _⟩; first | rfl | (simp; omega))
theorem sorted_c (a b c : Int) (ha : bd a) (hb : bd b) (hc : -1000000000 ≤ c ∧ c ≤ 3000000000000000000) (h : (a ≤ b ∧ b ≤ c) ∨ (b ≤ a ∧ a ≤ c) ∨ (c ≤ a ∧ a ≤ b) ∨ (a < c ∧ c ≤ b)) (w : World) :
    Calls Tryd.prog 49 #[.int .i64 a, .int .i64 b, .int .i64 c] w fun e w' => e = .returned (.agg #[.int .i64 (srt a b c).1, .int .i64 (srt a b c).2.1, .int .i64 (srt a b c).2.2]) ∧ Keeps w w' := by
  rcases h with h | h | h | h
  · rw [show srt a b c = (a, b, c) by unfold srt; simp only [Prod.mk.injEq]; omega]
    exact sorted_abc a b c ha hb hc h w
  · rw [show srt a b c = (b, a, c) by unfold srt; simp only [Prod.mk.injEq]; omega]
    exact sorted_bac a b c ha hb hc h w
  · rw [show srt a b c = (c, a, b) by unfold srt; simp only [Prod.mk.injEq]; omega]
    exact sorted_cab a b c ha hb hc h w
  · rw [show srt a b c = (a, c, b) by unfold srt; simp only [Prod.mk.injEq]; omega]
    exact sorted_acb a b c ha hb hc h w
set_option maxHeartbeats 4000000 in
set_option maxRecDepth 20000 in
theorem refEx0_c (x y z : Int) (h : Tri x y z) (w : World) :
    Calls Tryd.prog 42 #[.agg #[.int .i64 x, .int .i64 y, .int .i64 z], .int .i64 0] w fun e w' => e = .returned (.tuple #[.agg #[.int .i64 (leftT (x, y, z)).1, .int .i64 (leftT (x, y, z)).2.1, .int .i64 (leftT (x, y, z)).2.2], .bool (decide ((leftT (x, y, z)).2.2 ≤ 1000000000))]) ∧ Keeps w w' := by
  have hb := h.bds
  obtain ⟨m1, m2⟩ := bd_mul hb.2.1 hb.2.2
  have e3 : 3 * y * z = 3 * (y * z) := Int.mul_assoc ..
  have ho := h.1
  have hs : srt y z (3 * y * z - x) = leftT (x, y, z) := by
    have h1 := h.left_in
    exact srt_in _ _ _ ho.2.2.1 h1.1
  have cS := fun W => sorted_c y z (3 * y * z - x) hb.2.1 hb.2.2 (by obtain ⟨⟨x1, x2⟩, ⟨y1, y2⟩, ⟨z1, z2⟩⟩ := hb; omega) (by left; exact ⟨ho.2.2.1, h.left_in.1⟩) W
  rw [hs] at cS
  obtain ⟨⟨x1, x2⟩, ⟨y1, y2⟩, ⟨z1, z2⟩⟩ := hb
  have q0 : IntKind.i64.wrap (3 * y) = 3 * y := IntWalk.i64_in _ (by omega)
  have q1 : IntKind.i64.wrap (3 * y * z) = 3 * y * z := IntWalk.i64_in _ (by omega)
  have q2 : IntKind.i64.wrap (3 * y * z - x) = 3 * y * z - x := IntWalk.i64_in _ (by omega)
  clear hs e3 m1 m2 h ho x1 x2 y1 y2 z1 z2
  generalize leftT (x, y, z) = o at *
  obtain ⟨o1, o2, o3⟩ := o
  simp only at cS ⊢
  have hX := At.new2 w (.cells #[.int .i64 x, .int .i64 y, .int .i64 z] 22) 22 #[.int .i64 0, .int .i64 0, .int .i64 0]
  have hk : Keeps w ((w.alloc (.cells #[.int .i64 x, .int .i64 y, .int .i64 z] 22)).alloc (.cells #[.int .i64 0, .int .i64 0, .int .i64 0] 22)) := Keeps.alloc (Keeps.alloc (Below.refl _ _) _) _
  go_enter Tryd.func42, Tryd.ntmps42
  go_wp2_with fail
  go_quiet (fail)
  go_upto_region 3 with (go_at_call 49; refine (cS _).mono ?_; rintro e w1 ⟨rfl, h1⟩)
  have hA := (hX.drewN nq).later h1
  have hk1 := Keeps.next (below_drewN (n := nq) hk) h1
  have hA2 := hA.alloc (.cells #[.int .i64 o1, .int .i64 o2, .int .i64 o3] 22)
  have hB2 := At.new w1 22 #[.int .i64 o1, .int .i64 o2, .int .i64 o3]
  have hk2 : Keeps w (w1.alloc (.cells #[.int .i64 o1, .int .i64 o2, .int .i64 o3] 22)) := Keeps.alloc hk1 _
  have hne : w.heap.size + 1 < w1.heap.size := by have := h1.size; simp at this; omega
  generalize w1.alloc (.cells #[.int .i64 o1, .int .i64 o2, .int .i64 o3] 22) = Z at *
  generalize w1.heap.size = gB at *
  have hne2 : gB ≠ w.heap.size + 1 := by omega
  clear hX hk hA hk1 h1 cS
  refine region_any_inv (G := Unit) (f := ?fx0) (fun _ => [.agg #[.int .i64 o1, .int .i64 o2, .int .i64 o3], .pointer (some ⟨gB, 2, none⟩), .int .i64 o3, .bool (decide (o3 ≤ 1000000000)), undef, .bool (decide (o3 ≤ 1000000000))])
    (fun _ L w' => At w' (w.heap.size + 1) 22 (bif L 4 then #[.int .i64 o1, .int .i64 o2, .int .i64 o3] else #[.int .i64 0, .int .i64 0, .int .i64 0]) ∧ Keeps w w' ∧ At w' gB 22 #[.int .i64 o1, .int .i64 o2, .int .i64 o3]) () (fun _ => ?hfx0) (by kernel_rfl) (by kernel_rfl) ⟨hA2.drew, keeps_dr hk2, hB2.drew⟩ ?stepsx0 ?finx0
  case hfx0 =>
    simp only [fill, List.toList_toArray, List.zip_cons_cons, List.zip_nil_left, List.zip_nil_right, List.foldl_cons, List.foldl_nil, Act.put, List.setIfInBounds_toArray, List.set_cons_succ, List.set_cons_zero]
    exact rfl
  case stepsx0 =>
    refine StepsU.cons rfl (fun g L w' hL hr hc hF => ?_) ?_
    · have A0 : At w' (w.heap.size + 1) 22 (bif L 4 then #[.int .i64 o1, .int .i64 o2, .int .i64 o3] else #[.int .i64 0, .int .i64 0, .int .i64 0]) := hF.1
      have k3 : Keeps w w' := hF.2.1
      have B0 : At w' gB 22 #[.int .i64 o1, .int .i64 o2, .int .i64 o3] := hF.2.2
      have p1 := (row_six B0).1
      have p2 := (row_six B0).2.1
      have p3 := (row_six B0).2.2.1
      clear hF hc hr
      clear hA2 hB2 hk2
      refine StepU.go rfl (fun K hK => ?_)
      go_simp
      exact hK () _ ⟨A0, k3, B0⟩
    refine StepsU.cons rfl (fun g L w' hL hr hc hF => ?_) ?_
    · have A0 : At w' (w.heap.size + 1) 22 (bif L 4 then #[.int .i64 o1, .int .i64 o2, .int .i64 o3] else #[.int .i64 0, .int .i64 0, .int .i64 0]) := hF.1
      have k3 : Keeps w w' := hF.2.1
      have B0 : At w' gB 22 #[.int .i64 o1, .int .i64 o2, .int .i64 o3] := hF.2.2
      clear hF hc hr
      clear hA2 hB2 hk2
      refine StepU.go rfl (fun K hK => ?_)
      go_simp
      exact hK () _ ⟨A0, k3, B0⟩
    refine StepsU.cons rfl (fun g L w' hL hr hc hF => ?_) ?_
    · have A0 : At w' (w.heap.size + 1) 22 (bif L 4 then #[.int .i64 o1, .int .i64 o2, .int .i64 o3] else #[.int .i64 0, .int .i64 0, .int .i64 0]) := hF.1
      have k3 : Keeps w w' := hF.2.1
      have B0 : At w' gB 22 #[.int .i64 o1, .int .i64 o2, .int .i64 o3] := hF.2.2
      have p1 := (row_six B0).1
      have p2 := (row_six B0).2.1
      have p3 := (row_six B0).2.2.1
      clear hF hc hr
      clear hA2 hB2 hk2
      refine StepU.go rfl (fun K hK => ?_)
      go_simp
      exact hK () _ ⟨A0, k3, B0⟩
    refine StepsU.cons rfl (fun g L w' hL hr hc hF => ?_) ?_
    · have A0 : At w' (w.heap.size + 1) 22 (bif L 4 then #[.int .i64 o1, .int .i64 o2, .int .i64 o3] else #[.int .i64 0, .int .i64 0, .int .i64 0]) := hF.1
      have k3 : Keeps w w' := hF.2.1
      have B0 : At w' gB 22 #[.int .i64 o1, .int .i64 o2, .int .i64 o3] := hF.2.2
      clear hF hc hr
      clear hA2 hB2 hk2
      refine StepU.go rfl (fun K hK => ?_)
      go_simp
      exact hK () _ ⟨A0, k3, B0⟩
    refine StepsU.cons rfl (fun g L w' hL hr hc hF => ?_) ?_
    · have A0 : At w' (w.heap.size + 1) 22 (bif L 4 then #[.int .i64 o1, .int .i64 o2, .int .i64 o3] else #[.int .i64 0, .int .i64 0, .int .i64 0]) := hF.1
      have k3 : Keeps w w' := hF.2.1
      have B0 : At w' gB 22 #[.int .i64 o1, .int .i64 o2, .int .i64 o3] := hF.2.2
      rw [hL, cond_false] at A0
      obtain ⟨r1, r2, r3, r4, r5, r6⟩ := row_six A0
      clear hF hc hr
      clear hA2 hB2 hk2
      refine StepU.go rfl (fun K hK => ?_)
      go_simp
      exact hK () _ ⟨by rw [add_same, cond_true]; exact A0.three _ _ _, Below.setCell (Below.setCell (Below.setCell k3 (by simp; try omega) _) (by simp; try omega) _) (by simp; try omega) _, ((B0.far (hne2) _).far (hne2) _).far (hne2) _⟩
    refine StepsU.cons rfl (fun g L w' hL hr hc hF => ?_) ?_
    · have A0 : At w' (w.heap.size + 1) 22 (bif L 4 then #[.int .i64 o1, .int .i64 o2, .int .i64 o3] else #[.int .i64 0, .int .i64 0, .int .i64 0]) := hF.1
      have k3 : Keeps w w' := hF.2.1
      have B0 : At w' gB 22 #[.int .i64 o1, .int .i64 o2, .int .i64 o3] := hF.2.2
      clear hF hc hr
      clear hA2 hB2 hk2
      refine StepU.go rfl (fun K hK => ?_)
      go_simp
      exact hK () _ ⟨A0, k3, B0⟩
    exact StepsU.nil (by simp)
  case finx0 =>
  intro g L w5 hall hF
  have A1 : At w5 (w.heap.size + 1) 22 (bif L 4 then #[.int .i64 o1, .int .i64 o2, .int .i64 o3] else #[.int .i64 0, .int .i64 0, .int .i64 0]) := hF.1
  have k5 : Keeps w w5 := hF.2.1
  have B0 : At w5 gB 22 #[.int .i64 o1, .int .i64 o2, .int .i64 o3] := hF.2.2
  rw [hall 4 (by simp), cond_true] at A1
  clear hall hF
  clear hA2 hB2 hk2
  go_wp2_with fail
  exact bodyPost_ret (v := .tuple #[.agg #[.int .i64 o1, .int .i64 o2, .int .i64 o3], .bool (decide (o3 ≤ 1000000000))]) (results_row_tmp Tryd.results42 _ _ (w.heap.size + 1) _ _ _ rfl A1 Tryd.underlying22 rfl (size3 _ _ _)) rfl ⟨rfl, k5⟩
set_option maxHeartbeats 4000000 in
set_option maxRecDepth 20000 in
theorem refEx1_c (x y z : Int) (h : Tri x y z) (w : World) :
    Calls Tryd.prog 42 #[.agg #[.int .i64 x, .int .i64 y, .int .i64 z], .int .i64 1] w fun e w' => e = .returned (.tuple #[.agg #[.int .i64 (rightT (x, y, z)).1, .int .i64 (rightT (x, y, z)).2.1, .int .i64 (rightT (x, y, z)).2.2], .bool (decide ((rightT (x, y, z)).2.2 ≤ 1000000000))]) ∧ Keeps w w' := by
  have hb := h.bds
  obtain ⟨m1, m2⟩ := bd_mul hb.2.2 hb.1
  have e3 : 3 * z * x = 3 * (z * x) := Int.mul_assoc ..
  have ho := h.1
  have hs : srt z x (3 * z * x - y) = rightT (x, y, z) := by
    have h1 := h.right_in
    rw [show 3 * z * x - y = 3 * x * z - y by grind]
    have h2 : srt z x (3 * x * z - y) = srt x z (3 * x * z - y) := by unfold srt; simp only [Prod.mk.injEq]; omega
    rw [h2]
    exact srt_in _ _ _ (by unfold ord at ho; omega) h1.1
  have cS := fun W => sorted_c z x (3 * z * x - y) hb.2.2 hb.1 (by obtain ⟨⟨x1, x2⟩, ⟨y1, y2⟩, ⟨z1, z2⟩⟩ := hb; omega) (by right; left; exact ⟨by unfold ord at ho; omega, by have := h.right_in.1; rw [show 3 * z * x - y = 3 * x * z - y by grind]; exact this⟩) W
  rw [hs] at cS
  obtain ⟨⟨x1, x2⟩, ⟨y1, y2⟩, ⟨z1, z2⟩⟩ := hb
  have q0 : IntKind.i64.wrap (3 * z) = 3 * z := IntWalk.i64_in _ (by omega)
  have q1 : IntKind.i64.wrap (3 * z * x) = 3 * z * x := IntWalk.i64_in _ (by omega)
  have q2 : IntKind.i64.wrap (3 * z * x - y) = 3 * z * x - y := IntWalk.i64_in _ (by omega)
  clear hs e3 m1 m2 h ho x1 x2 y1 y2 z1 z2
  generalize rightT (x, y, z) = o at *
  obtain ⟨o1, o2, o3⟩ := o
  simp only at cS ⊢
  have hX := At.new2 w (.cells #[.int .i64 x, .int .i64 y, .int .i64 z] 22) 22 #[.int .i64 0, .int .i64 0, .int .i64 0]
  have hk : Keeps w ((w.alloc (.cells #[.int .i64 x, .int .i64 y, .int .i64 z] 22)).alloc (.cells #[.int .i64 0, .int .i64 0, .int .i64 0] 22)) := Keeps.alloc (Keeps.alloc (Below.refl _ _) _) _
  go_enter Tryd.func42, Tryd.ntmps42
  go_wp2_with fail
  go_quiet (fail)
  go_upto_region 3 with (go_at_call 49; refine (cS _).mono ?_; rintro e w1 ⟨rfl, h1⟩)
  have hA := (hX.drewN nq).later h1
  have hk1 := Keeps.next (below_drewN (n := nq) hk) h1
  have hA2 := hA.alloc (.cells #[.int .i64 o1, .int .i64 o2, .int .i64 o3] 22)
  have hB2 := At.new w1 22 #[.int .i64 o1, .int .i64 o2, .int .i64 o3]
  have hk2 : Keeps w (w1.alloc (.cells #[.int .i64 o1, .int .i64 o2, .int .i64 o3] 22)) := Keeps.alloc hk1 _
  have hne : w.heap.size + 1 < w1.heap.size := by have := h1.size; simp at this; omega
  generalize w1.alloc (.cells #[.int .i64 o1, .int .i64 o2, .int .i64 o3] 22) = Z at *
  generalize w1.heap.size = gB at *
  have hne2 : gB ≠ w.heap.size + 1 := by omega
  clear hX hk hA hk1 h1 cS
  refine region_any_inv (G := Unit) (f := ?fx1) (fun _ => [.agg #[.int .i64 o1, .int .i64 o2, .int .i64 o3], .pointer (some ⟨gB, 2, none⟩), .int .i64 o3, .bool (decide (o3 ≤ 1000000000)), undef, .bool (decide (o3 ≤ 1000000000))])
    (fun _ L w' => At w' (w.heap.size + 1) 22 (bif L 4 then #[.int .i64 o1, .int .i64 o2, .int .i64 o3] else #[.int .i64 0, .int .i64 0, .int .i64 0]) ∧ Keeps w w' ∧ At w' gB 22 #[.int .i64 o1, .int .i64 o2, .int .i64 o3]) () (fun _ => ?hfx1) (by kernel_rfl) (by kernel_rfl) ⟨hA2.drew, keeps_dr hk2, hB2.drew⟩ ?stepsx1 ?finx1
  case hfx1 =>
    simp only [fill, List.toList_toArray, List.zip_cons_cons, List.zip_nil_left, List.zip_nil_right, List.foldl_cons, List.foldl_nil, Act.put, List.setIfInBounds_toArray, List.set_cons_succ, List.set_cons_zero]
    exact rfl
  case stepsx1 =>
    refine StepsU.cons rfl (fun g L w' hL hr hc hF => ?_) ?_
    · have A0 : At w' (w.heap.size + 1) 22 (bif L 4 then #[.int .i64 o1, .int .i64 o2, .int .i64 o3] else #[.int .i64 0, .int .i64 0, .int .i64 0]) := hF.1
      have k3 : Keeps w w' := hF.2.1
      have B0 : At w' gB 22 #[.int .i64 o1, .int .i64 o2, .int .i64 o3] := hF.2.2
      have p1 := (row_six B0).1
      have p2 := (row_six B0).2.1
      have p3 := (row_six B0).2.2.1
      clear hF hc hr
      clear hA2 hB2 hk2
      refine StepU.go rfl (fun K hK => ?_)
      go_simp
      exact hK () _ ⟨A0, k3, B0⟩
    refine StepsU.cons rfl (fun g L w' hL hr hc hF => ?_) ?_
    · have A0 : At w' (w.heap.size + 1) 22 (bif L 4 then #[.int .i64 o1, .int .i64 o2, .int .i64 o3] else #[.int .i64 0, .int .i64 0, .int .i64 0]) := hF.1
      have k3 : Keeps w w' := hF.2.1
      have B0 : At w' gB 22 #[.int .i64 o1, .int .i64 o2, .int .i64 o3] := hF.2.2
      clear hF hc hr
      clear hA2 hB2 hk2
      refine StepU.go rfl (fun K hK => ?_)
      go_simp
      exact hK () _ ⟨A0, k3, B0⟩
    refine StepsU.cons rfl (fun g L w' hL hr hc hF => ?_) ?_
    · have A0 : At w' (w.heap.size + 1) 22 (bif L 4 then #[.int .i64 o1, .int .i64 o2, .int .i64 o3] else #[.int .i64 0, .int .i64 0, .int .i64 0]) := hF.1
      have k3 : Keeps w w' := hF.2.1
      have B0 : At w' gB 22 #[.int .i64 o1, .int .i64 o2, .int .i64 o3] := hF.2.2
      have p1 := (row_six B0).1
      have p2 := (row_six B0).2.1
      have p3 := (row_six B0).2.2.1
      clear hF hc hr
      clear hA2 hB2 hk2
      refine StepU.go rfl (fun K hK => ?_)
      go_simp
      exact hK () _ ⟨A0, k3, B0⟩
    refine StepsU.cons rfl (fun g L w' hL hr hc hF => ?_) ?_
    · have A0 : At w' (w.heap.size + 1) 22 (bif L 4 then #[.int .i64 o1, .int .i64 o2, .int .i64 o3] else #[.int .i64 0, .int .i64 0, .int .i64 0]) := hF.1
      have k3 : Keeps w w' := hF.2.1
      have B0 : At w' gB 22 #[.int .i64 o1, .int .i64 o2, .int .i64 o3] := hF.2.2
      clear hF hc hr
      clear hA2 hB2 hk2
      refine StepU.go rfl (fun K hK => ?_)
      go_simp
      exact hK () _ ⟨A0, k3, B0⟩
    refine StepsU.cons rfl (fun g L w' hL hr hc hF => ?_) ?_
    · have A0 : At w' (w.heap.size + 1) 22 (bif L 4 then #[.int .i64 o1, .int .i64 o2, .int .i64 o3] else #[.int .i64 0, .int .i64 0, .int .i64 0]) := hF.1
      have k3 : Keeps w w' := hF.2.1
      have B0 : At w' gB 22 #[.int .i64 o1, .int .i64 o2, .int .i64 o3] := hF.2.2
      rw [hL, cond_false] at A0
      obtain ⟨r1, r2, r3, r4, r5, r6⟩ := row_six A0
      clear hF hc hr
      clear hA2 hB2 hk2
      refine StepU.go rfl (fun K hK => ?_)
      go_simp
      exact hK () _ ⟨by rw [add_same, cond_true]; exact A0.three _ _ _, Below.setCell (Below.setCell (Below.setCell k3 (by simp; try omega) _) (by simp; try omega) _) (by simp; try omega) _, ((B0.far (hne2) _).far (hne2) _).far (hne2) _⟩
    refine StepsU.cons rfl (fun g L w' hL hr hc hF => ?_) ?_
    · have A0 : At w' (w.heap.size + 1) 22 (bif L 4 then #[.int .i64 o1, .int .i64 o2, .int .i64 o3] else #[.int .i64 0, .int .i64 0, .int .i64 0]) := hF.1
      have k3 : Keeps w w' := hF.2.1
      have B0 : At w' gB 22 #[.int .i64 o1, .int .i64 o2, .int .i64 o3] := hF.2.2
      clear hF hc hr
      clear hA2 hB2 hk2
      refine StepU.go rfl (fun K hK => ?_)
      go_simp
      exact hK () _ ⟨A0, k3, B0⟩
    exact StepsU.nil (by simp)
  case finx1 =>
  intro g L w5 hall hF
  have A1 : At w5 (w.heap.size + 1) 22 (bif L 4 then #[.int .i64 o1, .int .i64 o2, .int .i64 o3] else #[.int .i64 0, .int .i64 0, .int .i64 0]) := hF.1
  have k5 : Keeps w w5 := hF.2.1
  have B0 : At w5 gB 22 #[.int .i64 o1, .int .i64 o2, .int .i64 o3] := hF.2.2
  rw [hall 4 (by simp), cond_true] at A1
  clear hall hF
  clear hA2 hB2 hk2
  go_wp2_with fail
  exact bodyPost_ret (v := .tuple #[.agg #[.int .i64 o1, .int .i64 o2, .int .i64 o3], .bool (decide (o3 ≤ 1000000000))]) (results_row_tmp Tryd.results42 _ _ (w.heap.size + 1) _ _ _ rfl A1 Tryd.underlying22 rfl (size3 _ _ _)) rfl ⟨rfl, k5⟩
set_option maxHeartbeats 4000000 in
set_option maxRecDepth 20000 in
theorem refEx2_c (x y z : Int) (h : Tri x y z) (w : World) :
    Calls Tryd.prog 42 #[.agg #[.int .i64 x, .int .i64 y, .int .i64 z], .int .i64 2] w fun e w' => e = .returned (.tuple #[.agg #[.int .i64 (upT (x, y, z)).1, .int .i64 (upT (x, y, z)).2.1, .int .i64 (upT (x, y, z)).2.2], .bool (decide ((upT (x, y, z)).2.2 ≤ 1000000000))]) ∧ Keeps w w' := by
  have hb := h.bds
  obtain ⟨m1, m2⟩ := bd_mul hb.1 hb.2.1
  have e3 : 3 * x * y = 3 * (x * y) := Int.mul_assoc ..
  have ho := h.1
  have hs : srt x y (3 * x * y - z) = upT (x, y, z) := by
    exact srt_up _ _ _ ho.2.1
  have cS := fun W => sorted_c x y (3 * x * y - z) hb.1 hb.2.1 (by obtain ⟨⟨x1, x2⟩, ⟨y1, y2⟩, ⟨z1, z2⟩⟩ := hb; omega) (by exact h.up_four) W
  rw [hs] at cS
  obtain ⟨⟨x1, x2⟩, ⟨y1, y2⟩, ⟨z1, z2⟩⟩ := hb
  have q0 : IntKind.i64.wrap (3 * x) = 3 * x := IntWalk.i64_in _ (by omega)
  have q1 : IntKind.i64.wrap (3 * x * y) = 3 * x * y := IntWalk.i64_in _ (by omega)
  have q2 : IntKind.i64.wrap (3 * x * y - z) = 3 * x * y - z := IntWalk.i64_in _ (by omega)
  clear hs e3 m1 m2 h ho x1 x2 y1 y2 z1 z2
  generalize upT (x, y, z) = o at *
  obtain ⟨o1, o2, o3⟩ := o
  simp only at cS ⊢
  have hX := At.new2 w (.cells #[.int .i64 x, .int .i64 y, .int .i64 z] 22) 22 #[.int .i64 0, .int .i64 0, .int .i64 0]
  have hk : Keeps w ((w.alloc (.cells #[.int .i64 x, .int .i64 y, .int .i64 z] 22)).alloc (.cells #[.int .i64 0, .int .i64 0, .int .i64 0] 22)) := Keeps.alloc (Keeps.alloc (Below.refl _ _) _) _
  go_enter Tryd.func42, Tryd.ntmps42
  go_wp2_with fail
  go_quiet (fail)
  go_upto_region 3 with (go_at_call 49; refine (cS _).mono ?_; rintro e w1 ⟨rfl, h1⟩)
  have hA := (hX.drewN nq).later h1
  have hk1 := Keeps.next (below_drewN (n := nq) hk) h1
  have hA2 := hA.alloc (.cells #[.int .i64 o1, .int .i64 o2, .int .i64 o3] 22)
  have hB2 := At.new w1 22 #[.int .i64 o1, .int .i64 o2, .int .i64 o3]
  have hk2 : Keeps w (w1.alloc (.cells #[.int .i64 o1, .int .i64 o2, .int .i64 o3] 22)) := Keeps.alloc hk1 _
  have hne : w.heap.size + 1 < w1.heap.size := by have := h1.size; simp at this; omega
  generalize w1.alloc (.cells #[.int .i64 o1, .int .i64 o2, .int .i64 o3] 22) = Z at *
  generalize w1.heap.size = gB at *
  have hne2 : gB ≠ w.heap.size + 1 := by omega
  clear hX hk hA hk1 h1 cS
  refine region_any_inv (G := Unit) (f := ?fx2) (fun _ => [.agg #[.int .i64 o1, .int .i64 o2, .int .i64 o3], .pointer (some ⟨gB, 2, none⟩), .int .i64 o3, .bool (decide (o3 ≤ 1000000000)), undef, .bool (decide (o3 ≤ 1000000000))])
    (fun _ L w' => At w' (w.heap.size + 1) 22 (bif L 4 then #[.int .i64 o1, .int .i64 o2, .int .i64 o3] else #[.int .i64 0, .int .i64 0, .int .i64 0]) ∧ Keeps w w' ∧ At w' gB 22 #[.int .i64 o1, .int .i64 o2, .int .i64 o3]) () (fun _ => ?hfx2) (by kernel_rfl) (by kernel_rfl) ⟨hA2.drew, keeps_dr hk2, hB2.drew⟩ ?stepsx2 ?finx2
  case hfx2 =>
    simp only [fill, List.toList_toArray, List.zip_cons_cons, List.zip_nil_left, List.zip_nil_right, List.foldl_cons, List.foldl_nil, Act.put, List.setIfInBounds_toArray, List.set_cons_succ, List.set_cons_zero]
    exact rfl
  case stepsx2 =>
    refine StepsU.cons rfl (fun g L w' hL hr hc hF => ?_) ?_
    · have A0 : At w' (w.heap.size + 1) 22 (bif L 4 then #[.int .i64 o1, .int .i64 o2, .int .i64 o3] else #[.int .i64 0, .int .i64 0, .int .i64 0]) := hF.1
      have k3 : Keeps w w' := hF.2.1
      have B0 : At w' gB 22 #[.int .i64 o1, .int .i64 o2, .int .i64 o3] := hF.2.2
      have p1 := (row_six B0).1
      have p2 := (row_six B0).2.1
      have p3 := (row_six B0).2.2.1
      clear hF hc hr
      clear hA2 hB2 hk2
      refine StepU.go rfl (fun K hK => ?_)
      go_simp
      exact hK () _ ⟨A0, k3, B0⟩
    refine StepsU.cons rfl (fun g L w' hL hr hc hF => ?_) ?_
    · have A0 : At w' (w.heap.size + 1) 22 (bif L 4 then #[.int .i64 o1, .int .i64 o2, .int .i64 o3] else #[.int .i64 0, .int .i64 0, .int .i64 0]) := hF.1
      have k3 : Keeps w w' := hF.2.1
      have B0 : At w' gB 22 #[.int .i64 o1, .int .i64 o2, .int .i64 o3] := hF.2.2
      clear hF hc hr
      clear hA2 hB2 hk2
      refine StepU.go rfl (fun K hK => ?_)
      go_simp
      exact hK () _ ⟨A0, k3, B0⟩
    refine StepsU.cons rfl (fun g L w' hL hr hc hF => ?_) ?_
    · have A0 : At w' (w.heap.size + 1) 22 (bif L 4 then #[.int .i64 o1, .int .i64 o2, .int .i64 o3] else #[.int .i64 0, .int .i64 0, .int .i64 0]) := hF.1
      have k3 : Keeps w w' := hF.2.1
      have B0 : At w' gB 22 #[.int .i64 o1, .int .i64 o2, .int .i64 o3] := hF.2.2
      have p1 := (row_six B0).1
      have p2 := (row_six B0).2.1
      have p3 := (row_six B0).2.2.1
      clear hF hc hr
      clear hA2 hB2 hk2
      refine StepU.go rfl (fun K hK => ?_)
      go_simp
      exact hK () _ ⟨A0, k3, B0⟩
    refine StepsU.cons rfl (fun g L w' hL hr hc hF => ?_) ?_
    · have A0 : At w' (w.heap.size + 1) 22 (bif L 4 then #[.int .i64 o1, .int .i64 o2, .int .i64 o3] else #[.int .i64 0, .int .i64 0, .int .i64 0]) := hF.1
      have k3 : Keeps w w' := hF.2.1
      have B0 : At w' gB 22 #[.int .i64 o1, .int .i64 o2, .int .i64 o3] := hF.2.2
      clear hF hc hr
      clear hA2 hB2 hk2
      refine StepU.go rfl (fun K hK => ?_)
      go_simp
      exact hK () _ ⟨A0, k3, B0⟩
    refine StepsU.cons rfl (fun g L w' hL hr hc hF => ?_) ?_
    · have A0 : At w' (w.heap.size + 1) 22 (bif L 4 then #[.int .i64 o1, .int .i64 o2, .int .i64 o3] else #[.int .i64 0, .int .i64 0, .int .i64 0]) := hF.1
      have k3 : Keeps w w' := hF.2.1
      have B0 : At w' gB 22 #[.int .i64 o1, .int .i64 o2, .int .i64 o3] := hF.2.2
      rw [hL, cond_false] at A0
      obtain ⟨r1, r2, r3, r4, r5, r6⟩ := row_six A0
      clear hF hc hr
      clear hA2 hB2 hk2
      refine StepU.go rfl (fun K hK => ?_)
      go_simp
      exact hK () _ ⟨by rw [add_same, cond_true]; exact A0.three _ _ _, Below.setCell (Below.setCell (Below.setCell k3 (by simp; try omega) _) (by simp; try omega) _) (by simp; try omega) _, ((B0.far (hne2) _).far (hne2) _).far (hne2) _⟩
    refine StepsU.cons rfl (fun g L w' hL hr hc hF => ?_) ?_
    · have A0 : At w' (w.heap.size + 1) 22 (bif L 4 then #[.int .i64 o1, .int .i64 o2, .int .i64 o3] else #[.int .i64 0, .int .i64 0, .int .i64 0]) := hF.1
      have k3 : Keeps w w' := hF.2.1
      have B0 : At w' gB 22 #[.int .i64 o1, .int .i64 o2, .int .i64 o3] := hF.2.2
      clear hF hc hr
      clear hA2 hB2 hk2
      refine StepU.go rfl (fun K hK => ?_)
      go_simp
      exact hK () _ ⟨A0, k3, B0⟩
    exact StepsU.nil (by simp)
  case finx2 =>
  intro g L w5 hall hF
  have A1 : At w5 (w.heap.size + 1) 22 (bif L 4 then #[.int .i64 o1, .int .i64 o2, .int .i64 o3] else #[.int .i64 0, .int .i64 0, .int .i64 0]) := hF.1
  have k5 : Keeps w w5 := hF.2.1
  have B0 : At w5 gB 22 #[.int .i64 o1, .int .i64 o2, .int .i64 o3] := hF.2.2
  rw [hall 4 (by simp), cond_true] at A1
  clear hall hF
  clear hA2 hB2 hk2
  go_wp2_with fail
  exact bodyPost_ret (v := .tuple #[.agg #[.int .i64 o1, .int .i64 o2, .int .i64 o3], .bool (decide (o3 ≤ 1000000000))]) (results_row_tmp Tryd.results42 _ _ (w.heap.size + 1) _ _ _ rfl A1 Tryd.underlying22 rfl (size3 _ _ _)) rfl ⟨rfl, k5⟩
end Go.Proofs.YteffkcnlipdgaaaDoor
