/- The walks of times, slices.Max of four numbers. -/
import Derived.Test.YteffkcnlipdgaaaDoorAj
namespace Go.Proofs.YteffkcnlipdgaaaDoor
open Go.RowKit
set_option linter.unusedVariables false
set_option linter.unusedSimpArgs false

set_option maxHeartbeats 4000000 in
set_option maxRecDepth 20000 in
theorem times_a (a b c d : Int) (hm : bdM (a, b, c, d)) (w : World) :
    Calls Tryd.prog 39 #[.agg #[.int .i64 a, .int .i64 b, .int .i64 c, .int .i64 d], .agg #[.int .i64 2, .int .i64 1, .int .i64 1, .int .i64 1]] w fun e w' => e = .returned (.agg #[.int .i64 (a * 2 + b), .int .i64 (a + b), .int .i64 (c * 2 + d), .int .i64 (c + d)]) ∧ Keeps w w' := by
  obtain ⟨⟨a1, a2⟩, ⟨b1, b2⟩, ⟨c1, c2⟩, ⟨d1, d2⟩⟩ := hm
  simp only at a1 a2 b1 b2 c1 c2 d1 d2
  have q0 : IntKind.i64.wrap a = a := IntWalk.i64_in _ (by omega)
  have q1 : IntKind.i64.wrap b = b := IntWalk.i64_in _ (by omega)
  have q2 : IntKind.i64.wrap c = c := IntWalk.i64_in _ (by omega)
  have q3 : IntKind.i64.wrap d = d := IntWalk.i64_in _ (by omega)
  have q4 : IntKind.i64.wrap (a * 2) = a * 2 := IntWalk.i64_in _ (by omega)
  have q5 : IntKind.i64.wrap (b * 2) = b * 2 := IntWalk.i64_in _ (by omega)
  have q6 : IntKind.i64.wrap (c * 2) = c * 2 := IntWalk.i64_in _ (by omega)
  have q7 : IntKind.i64.wrap (d * 2) = d * 2 := IntWalk.i64_in _ (by omega)
  have q8 : IntKind.i64.wrap (a * 2 + b) = a * 2 + b := IntWalk.i64_in _ (by omega)
  have q9 : IntKind.i64.wrap (a + b) = a + b := IntWalk.i64_in _ (by omega)
  have q10 : IntKind.i64.wrap (c * 2 + d) = c * 2 + d := IntWalk.i64_in _ (by omega)
  have q11 : IntKind.i64.wrap (c + d) = c + d := IntWalk.i64_in _ (by omega)
  have hX := At.new3 w (.cells #[.int .i64 a, .int .i64 b, .int .i64 c, .int .i64 d] 65) (.cells #[.int .i64 2, .int .i64 1, .int .i64 1, .int .i64 1] 65) 65 #[.int .i64 0, .int .i64 0, .int .i64 0, .int .i64 0]
  have hk : Keeps w (((w.alloc (.cells #[.int .i64 a, .int .i64 b, .int .i64 c, .int .i64 d] 65)).alloc (.cells #[.int .i64 2, .int .i64 1, .int .i64 1, .int .i64 1] 65)).alloc (.cells #[.int .i64 0, .int .i64 0, .int .i64 0, .int .i64 0] 65)) := Keeps.alloc (Keeps.alloc (Keeps.alloc (Below.refl _ _) _) _) _
  clear a1 a2 b1 b2 c1 c2 d1 d2
  go_enter Tryd.func39, Tryd.ntmps39
  go_wp2_with (refine wpList_store_row rfl 65 _ _ rfl (w.heap.size + 1 + 1) #[.int .i64 (a * 2 + b), .int .i64 (a + b), .int .i64 (c * 2 + d), .int .i64 (c + d)] rfl rfl 65 #[.int .i64 0, .int .i64 0, .int .i64 0, .int .i64 0] hX (sizeM (_, _, _, _)) rfl (oneM (_, _, _, _)) ?_)
  have h3 := hX.row #[.int .i64 (a * 2 + b), .int .i64 (a + b), .int .i64 (c * 2 + d), .int .i64 (c + d)]
  refine bodyPost_ret (results_cell_row Tryd.results39 _ _ (w.heap.size + 1 + 1) _ _ _ _ rfl h3 Tryd.underlying65 rfl (sizeM (_, _, _, _))) rfl ⟨rfl, below_row hk (by omega) _⟩
set_option maxHeartbeats 4000000 in
set_option maxRecDepth 20000 in
theorem times_b (a b c d : Int) (hm : bdM (a, b, c, d)) (w : World) :
    Calls Tryd.prog 39 #[.agg #[.int .i64 a, .int .i64 b, .int .i64 c, .int .i64 d], .agg #[.int .i64 5, .int .i64 2, .int .i64 2, .int .i64 1]] w fun e w' => e = .returned (.agg #[.int .i64 (a * 5 + b * 2), .int .i64 (a * 2 + b), .int .i64 (c * 5 + d * 2), .int .i64 (c * 2 + d)]) ∧ Keeps w w' := by
  obtain ⟨⟨a1, a2⟩, ⟨b1, b2⟩, ⟨c1, c2⟩, ⟨d1, d2⟩⟩ := hm
  simp only at a1 a2 b1 b2 c1 c2 d1 d2
  have q0 : IntKind.i64.wrap a = a := IntWalk.i64_in _ (by omega)
  have q1 : IntKind.i64.wrap b = b := IntWalk.i64_in _ (by omega)
  have q2 : IntKind.i64.wrap c = c := IntWalk.i64_in _ (by omega)
  have q3 : IntKind.i64.wrap d = d := IntWalk.i64_in _ (by omega)
  have q4 : IntKind.i64.wrap (a * 5) = a * 5 := IntWalk.i64_in _ (by omega)
  have q5 : IntKind.i64.wrap (a * 2) = a * 2 := IntWalk.i64_in _ (by omega)
  have q6 : IntKind.i64.wrap (b * 5) = b * 5 := IntWalk.i64_in _ (by omega)
  have q7 : IntKind.i64.wrap (b * 2) = b * 2 := IntWalk.i64_in _ (by omega)
  have q8 : IntKind.i64.wrap (c * 5) = c * 5 := IntWalk.i64_in _ (by omega)
  have q9 : IntKind.i64.wrap (c * 2) = c * 2 := IntWalk.i64_in _ (by omega)
  have q10 : IntKind.i64.wrap (d * 5) = d * 5 := IntWalk.i64_in _ (by omega)
  have q11 : IntKind.i64.wrap (d * 2) = d * 2 := IntWalk.i64_in _ (by omega)
  have q12 : IntKind.i64.wrap (a * 5 + b * 2) = a * 5 + b * 2 := IntWalk.i64_in _ (by omega)
  have q13 : IntKind.i64.wrap (a * 2 + b) = a * 2 + b := IntWalk.i64_in _ (by omega)
  have q14 : IntKind.i64.wrap (c * 5 + d * 2) = c * 5 + d * 2 := IntWalk.i64_in _ (by omega)
  have q15 : IntKind.i64.wrap (c * 2 + d) = c * 2 + d := IntWalk.i64_in _ (by omega)
  have hX := At.new3 w (.cells #[.int .i64 a, .int .i64 b, .int .i64 c, .int .i64 d] 65) (.cells #[.int .i64 5, .int .i64 2, .int .i64 2, .int .i64 1] 65) 65 #[.int .i64 0, .int .i64 0, .int .i64 0, .int .i64 0]
  have hk : Keeps w (((w.alloc (.cells #[.int .i64 a, .int .i64 b, .int .i64 c, .int .i64 d] 65)).alloc (.cells #[.int .i64 5, .int .i64 2, .int .i64 2, .int .i64 1] 65)).alloc (.cells #[.int .i64 0, .int .i64 0, .int .i64 0, .int .i64 0] 65)) := Keeps.alloc (Keeps.alloc (Keeps.alloc (Below.refl _ _) _) _) _
  clear a1 a2 b1 b2 c1 c2 d1 d2
  go_enter Tryd.func39, Tryd.ntmps39
  go_wp2_with (refine wpList_store_row rfl 65 _ _ rfl (w.heap.size + 1 + 1) #[.int .i64 (a * 5 + b * 2), .int .i64 (a * 2 + b), .int .i64 (c * 5 + d * 2), .int .i64 (c * 2 + d)] rfl rfl 65 #[.int .i64 0, .int .i64 0, .int .i64 0, .int .i64 0] hX (sizeM (_, _, _, _)) rfl (oneM (_, _, _, _)) ?_)
  have h3 := hX.row #[.int .i64 (a * 5 + b * 2), .int .i64 (a * 2 + b), .int .i64 (c * 5 + d * 2), .int .i64 (c * 2 + d)]
  refine bodyPost_ret (results_cell_row Tryd.results39 _ _ (w.heap.size + 1 + 1) _ _ _ _ rfl h3 Tryd.underlying65 rfl (sizeM (_, _, _, _))) rfl ⟨rfl, below_row hk (by omega) _⟩
/-- The greatest of four numbers. -/
def max4 (m : Mx) : Int := max (max (max m.1 m.2.1) m.2.2.1) m.2.2.2
def mxK (m : Mx) (k : Nat) : Int := if k = 1 then m.1 else if k = 2 then max m.1 m.2.1 else if k = 3 then max (max m.1 m.2.1) m.2.2.1 else max4 m
set_option maxHeartbeats 4000000 in
set_option maxRecDepth 20000 in
theorem Max_c (g : Nat) (m : Mx) (w : World) (hg : At w g 65 (mv m)) :
    Calls Tryd.prog 41 #[.slice (some ⟨g, 0, none⟩) 4 4] w fun e w' => e = .returned (.int .i64 (max4 m)) ∧ Keeps w w' := by
  obtain ⟨p0, p1, p2, p3⟩ := row_mv hg
  go_enter Tryd.func41, Tryd.ntmps41
  go_wp2_with fail
  go_loopw [3, 4] (fun s3 s4 wr => ∃ k : Nat, 1 ≤ k ∧ k ≤ 4 ∧ s3 = .int .i64 (mxK m k) ∧ s4 = .int .i64 k ∧ wr = w) (fun _ s4 _ => 4 - (intOf s4).toNat)
  case atStart => exact ⟨1, by omega, by omega, rfl, rfl, rfl⟩
  case round =>
    obtain ⟨k, hk1, hk4, rfl, rfl, rfl⟩ := hrel
    have hk : k = 1 ∨ k = 2 ∨ k = 3 ∨ k = 4 := by omega
    rcases hk with rfl | rfl | rfl | rfl
    · go_wp2_with fail
      go_roundw
      case rel => exact ⟨2, by omega, by omega, rfl, rfl, trivial⟩
      case measure => simp [intOf]
    · go_wp2_with fail
      go_roundw
      case rel => exact ⟨3, by omega, by omega, rfl, rfl, trivial⟩
      case measure => simp [intOf]
    · go_wp2_with fail
      go_roundw
      case rel => exact ⟨4, by omega, by omega, rfl, rfl, trivial⟩
      case measure => simp [intOf]
    · go_wp2_with fail
      go_ret
      exact ⟨rfl, Below.refl _ _⟩
end Go.Proofs.YteffkcnlipdgaaaDoor
