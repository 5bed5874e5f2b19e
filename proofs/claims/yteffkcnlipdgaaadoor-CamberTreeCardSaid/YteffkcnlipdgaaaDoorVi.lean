/- The walk of Parent; the reference's Children. -/
import Derived.Test.YteffkcnlipdgaaaDoorVh
namespace Go.Proofs.YteffkcnlipdgaaaDoor
open Go.RowKit
set_option linter.unusedVariables false
set_option linter.unusedSimpArgs false

set_option maxHeartbeats 2000000 in
theorem Parent_no (x y z : Int) (hb : trB x y z = false) (w : World) :
    Calls Tryd.prog 21 #[.agg #[.int .i64 x, .int .i64 y, .int .i64 z]] w fun e w' => e = .returned (.tuple #[.agg #[.int .i64 0, .int .i64 0, .int .i64 0], .int .i64 2]) ∧ Keeps w w' := by
  have hX := At.new2 w (.cells #[.int .i64 x, .int .i64 y, .int .i64 z] 22) 22 #[.int .i64 0, .int .i64 0, .int .i64 0]
  have hk : Keeps w ((w.alloc (.cells #[.int .i64 x, .int .i64 y, .int .i64 z] 22)).alloc (.cells #[.int .i64 0, .int .i64 0, .int .i64 0] 22)) := Keeps.alloc (Keeps.alloc (Below.refl _ _) _) _
  have cN := fun W => newTriple_non x y z hb W
  have H := Lib.hid hb
  clear hb
  go_enter Tryd.func21, Tryd.ntmps21
  go_wp2_with (first
    | (go_at_call 25; refine (cN _).mono ?_; rintro e w1 ⟨b0, b1, b2, rfl, h1⟩; have hX1 := (hX.later h1).alloc (.cells #[.int .i64 b0, .int .i64 b1, .int .i64 b2] 52))
    | (refine wpList_store_row rfl 22 _ _ rfl (w.heap.size + 1) #[.int .i64 0, .int .i64 0, .int .i64 0] rfl rfl 22 #[.int .i64 0, .int .i64 0, .int .i64 0] hX1 (size3 _ _ _) rfl (oneT _ _ _) ?_))
  have h3 := hX1.row #[.int .i64 0, .int .i64 0, .int .i64 0]
  exact bodyPost_ret (v := .tuple #[.agg #[.int .i64 0, .int .i64 0, .int .i64 0], .int .i64 2]) (results_row_tmp Tryd.results21 _ _ (w.heap.size + 1) _ _ _ rfl h3 Tryd.underlying22 rfl (size3 _ _ _)) rfl ⟨rfl, below_row (Keeps.alloc (Keeps.next hk h1) _) (by omega) _⟩
set_option maxHeartbeats 4000000 in
theorem Parent_one (x y z : Int) (hb : trB x y z = true) (h1 : eq3 x y z 1 1 1 = true) (w : World) :
    Calls Tryd.prog 21 #[.agg #[.int .i64 x, .int .i64 y, .int .i64 z]] w fun e w' => e = .returned (.tuple #[.agg #[.int .i64 0, .int .i64 0, .int .i64 0], .int .i64 6]) ∧ Keeps w w' := by
  have hX := At.new2 w (.cells #[.int .i64 x, .int .i64 y, .int .i64 z] 22) 22 #[.int .i64 0, .int .i64 0, .int .i64 0]
  have hk : Keeps w ((w.alloc (.cells #[.int .i64 x, .int .i64 y, .int .i64 z] 22)).alloc (.cells #[.int .i64 0, .int .i64 0, .int .i64 0] 22)) := Keeps.alloc (Keeps.alloc (Below.refl _ _) _) _
  have cN := fun W => newTriple_yes x y z hb W
  have heq := eq3_tri x y z 1 1 1
  rw [h1] at heq
  have cU := fun W => (ex_calls x y z ((trB_iff _ _ _).1 hb) W).2.2
  generalize upT (x, y, z) = o at *
  obtain ⟨o1, o2, o3⟩ := o
  simp only at cU ⊢
  clear hb h1
  go_enter Tryd.func21, Tryd.ntmps21
  go_wp2_with (first
    | (go_at_call 25; refine (cN _).mono ?_; rintro e w1 ⟨rfl, h1⟩; have hX1 := (hX.later h1).alloc (.cells #[.int .i64 x, .int .i64 y, .int .i64 z] 52); have k1 : Keeps w (w1.alloc (.cells #[.int .i64 x, .int .i64 y, .int .i64 z] 52)) := Keeps.alloc (Keeps.next hk h1) _)
    | (go_at_call 34; refine (cU _).mono ?_; rintro e w2 ⟨rfl, h2⟩; have hX1 := hX1.later h2; have k1 := Keeps.next k1 h2)
    | (refine wpList_store_row rfl 22 _ _ rfl (w.heap.size + 1) #[.int .i64 0, .int .i64 0, .int .i64 0] rfl rfl 22 #[.int .i64 0, .int .i64 0, .int .i64 0] hX1 (size3 _ _ _) rfl (oneT _ _ _) ?_))
  have h9 := hX1.row #[.int .i64 0, .int .i64 0, .int .i64 0]
  exact bodyPost_ret (v := .tuple #[.agg #[.int .i64 0, .int .i64 0, .int .i64 0], .int .i64 6]) (results_row_tmp Tryd.results21 _ _ (w.heap.size + 1) _ _ _ rfl h9 Tryd.underlying22 rfl (size3 _ _ _)) rfl ⟨rfl, below_row k1 (by omega) _⟩
set_option maxHeartbeats 4000000 in
theorem Parent_yes (x y z : Int) (hb : trB x y z = true) (h1 : eq3 x y z 1 1 1 = false) (w : World) :
    Calls Tryd.prog 21 #[.agg #[.int .i64 x, .int .i64 y, .int .i64 z]] w fun e w' => e = .returned (.tuple #[.agg #[.int .i64 (upT (x, y, z)).1, .int .i64 (upT (x, y, z)).2.1, .int .i64 (upT (x, y, z)).2.2], .int .i64 0]) ∧ Keeps w w' := by
  have hX := At.new2 w (.cells #[.int .i64 x, .int .i64 y, .int .i64 z] 22) 22 #[.int .i64 0, .int .i64 0, .int .i64 0]
  have hk : Keeps w ((w.alloc (.cells #[.int .i64 x, .int .i64 y, .int .i64 z] 22)).alloc (.cells #[.int .i64 0, .int .i64 0, .int .i64 0] 22)) := Keeps.alloc (Keeps.alloc (Below.refl _ _) _) _
  have cN := fun W => newTriple_yes x y z hb W
  have heq := eq3_tri x y z 1 1 1
  rw [h1] at heq
  have cU := fun W => (ex_calls x y z ((trB_iff _ _ _).1 hb) W).2.2
  generalize upT (x, y, z) = o at *
  obtain ⟨o1, o2, o3⟩ := o
  simp only at cU ⊢
  clear hb h1
  go_enter Tryd.func21, Tryd.ntmps21
  go_wp2_with (first
    | (go_at_call 25; refine (cN _).mono ?_; rintro e w1 ⟨rfl, h1⟩; have hX1 := (hX.later h1).alloc (.cells #[.int .i64 x, .int .i64 y, .int .i64 z] 52); have k1 : Keeps w (w1.alloc (.cells #[.int .i64 x, .int .i64 y, .int .i64 z] 52)) := Keeps.alloc (Keeps.next hk h1) _)
    | (go_at_call 34; refine (cU _).mono ?_; rintro e w2 ⟨rfl, h2⟩; have hX1 := hX1.later h2; have k1 := Keeps.next k1 h2)
    | (refine wpList_store_row rfl 22 _ _ rfl (w.heap.size + 1) #[.int .i64 o1, .int .i64 o2, .int .i64 o3] rfl rfl 22 #[.int .i64 0, .int .i64 0, .int .i64 0] hX1 (size3 _ _ _) rfl (oneT _ _ _) ?_))
  have h9 := hX1.row #[.int .i64 o1, .int .i64 o2, .int .i64 o3]
  exact bodyPost_ret (v := .tuple #[.agg #[.int .i64 o1, .int .i64 o2, .int .i64 o3], .int .i64 0]) (results_row_tmp Tryd.results21 _ _ (w.heap.size + 1) _ _ _ rfl h9 Tryd.underlying22 rfl (size3 _ _ _)) rfl ⟨rfl, below_row k1 (by omega) _⟩
theorem chl_cases (e : Ed) : chl e = (if (leftT e).2.2 ≤ 1000000000 then (if (rightT e).2.2 ≤ 1000000000 ∧ rightT e ≠ leftT e then [leftT e, rightT e] else [leftT e]) else (if (rightT e).2.2 ≤ 1000000000 then [rightT e] else [])) := by
  unfold chl chK
  by_cases h1 : (leftT e).2.2 ≤ 1000000000 <;> by_cases h2 : (rightT e).2.2 ≤ 1000000000 <;> by_cases h3 : rightT e = leftT e <;> simp [h1, h2, h3]
end Go.Proofs.YteffkcnlipdgaaaDoor
