/- The walk of Parent; the reference's Children. -/
import Derived.Test.YtnlogppdnfhelaaDoorVh
namespace Go.Proofs.YtnlogppdnfhelaaDoor
open Go.RowKit
set_option linter.unusedVariables false
set_option linter.unusedSimpArgs false

set_option maxHeartbeats 2000000 in
theorem Parent_no (x y z : Int) (hb : trB x y z = false) (w : World) :
    Calls Tryd.prog 14 #[.agg #[.int .i64 x, .int .i64 y, .int .i64 z]] w fun e w' => e = .returned (.tuple #[.agg #[.int .i64 0, .int .i64 0, .int .i64 0], .int .i64 2]) ∧ Keeps w w' := by
  have hX := At.new2 w (.cells #[.int .i64 x, .int .i64 y, .int .i64 z] 22) 22 #[.int .i64 0, .int .i64 0, .int .i64 0]
  have hk : Keeps w ((w.alloc (.cells #[.int .i64 x, .int .i64 y, .int .i64 z] 22)).alloc (.cells #[.int .i64 0, .int .i64 0, .int .i64 0] 22)) := Keeps.alloc (Keeps.alloc (Below.refl _ _) _) _
  have cN := fun W => newTriple_non x y z hb W
  have H := Lib.hid hb
  clear hb
  go_enter Tryd.func14, Tryd.ntmps14
  go_wp2_with (first
    | (go_at_call 27; refine (cN _).mono ?_; rintro e w1 ⟨b0, b1, b2, rfl, h1⟩; have hX1 := (hX.later h1).alloc (.cells #[.int .i64 b0, .int .i64 b1, .int .i64 b2] 52))
    | (refine wpList_store_row rfl 22 _ _ rfl (w.heap.size + 1) #[.int .i64 0, .int .i64 0, .int .i64 0] rfl rfl 22 #[.int .i64 0, .int .i64 0, .int .i64 0] hX1 (size3 _ _ _) rfl (oneT _ _ _) ?_))
  have h3 := hX1.row #[.int .i64 0, .int .i64 0, .int .i64 0]
  exact bodyPost_ret (v := .tuple #[.agg #[.int .i64 0, .int .i64 0, .int .i64 0], .int .i64 2]) (results_row_tmp Tryd.results14 _ _ (w.heap.size + 1) _ _ _ rfl h3 Tryd.underlying22 rfl (size3 _ _ _)) rfl ⟨rfl, below_row (Keeps.alloc (Keeps.next hk h1) _) (by omega) _⟩
set_option maxHeartbeats 4000000 in
theorem Parent_one (x y z : Int) (hb : trB x y z = true) (h1 : eq3 x y z 1 1 1 = true) (w : World) :
    Calls Tryd.prog 14 #[.agg #[.int .i64 x, .int .i64 y, .int .i64 z]] w fun e w' => e = .returned (.tuple #[.agg #[.int .i64 0, .int .i64 0, .int .i64 0], .int .i64 6]) ∧ Keeps w w' := by
  have hX := At.new2 w (.cells #[.int .i64 x, .int .i64 y, .int .i64 z] 22) 22 #[.int .i64 0, .int .i64 0, .int .i64 0]
  have hk : Keeps w ((w.alloc (.cells #[.int .i64 x, .int .i64 y, .int .i64 z] 22)).alloc (.cells #[.int .i64 0, .int .i64 0, .int .i64 0] 22)) := Keeps.alloc (Keeps.alloc (Below.refl _ _) _) _
  have cN := fun W => newTriple_yes x y z hb W
  have heq := eq3_tri x y z 1 1 1
  rw [h1] at heq
  have cU := fun W => (ex_calls x y z ((trB_iff _ _ _).1 hb) W).2.2
  generalize upT (x, y, z) = o at *
  obtain ⟨o1, o2, o3⟩ := o
  simp only at cU ⊢
  clear hb h1
  go_enter Tryd.func14, Tryd.ntmps14
  go_wp2_with (first
    | (go_at_call 27; refine (cN _).mono ?_; rintro e w1 ⟨rfl, h1⟩; have hX1 := (hX.later h1).alloc (.cells #[.int .i64 x, .int .i64 y, .int .i64 z] 52); have k1 : Keeps w (w1.alloc (.cells #[.int .i64 x, .int .i64 y, .int .i64 z] 52)) := Keeps.alloc (Keeps.next hk h1) _)
    | (go_at_call 33; refine (cU _).mono ?_; rintro e w2 ⟨rfl, h2⟩; have hX1 := hX1.later h2; have k1 := Keeps.next k1 h2)
    | (refine wpList_store_row rfl 22 _ _ rfl (w.heap.size + 1) #[.int .i64 0, .int .i64 0, .int .i64 0] rfl rfl 22 #[.int .i64 0, .int .i64 0, .int .i64 0] hX1 (size3 _ _ _) rfl (oneT _ _ _) ?_))
  have h9 := hX1.row #[.int .i64 0, .int .i64 0, .int .i64 0]
  exact bodyPost_ret (v := .tuple #[.agg #[.int .i64 0, .int .i64 0, .int .i64 0], .int .i64 6]) (results_row_tmp Tryd.results14 _ _ (w.heap.size + 1) _ _ _ rfl h9 Tryd.underlying22 rfl (size3 _ _ _)) rfl ⟨rfl, below_row k1 (by omega) _⟩
set_option maxHeartbeats 4000000 in
theorem Parent_yes (x y z : Int) (hb : trB x y z = true) (h1 : eq3 x y z 1 1 1 = false) (w : World) :
    Calls Tryd.prog 14 #[.agg #[.int .i64 x, .int .i64 y, .int .i64 z]] w fun e w' => e = .returned (.tuple #[.agg #[.int .i64 (upT (x, y, z)).1, .int .i64 (upT (x, y, z)).2.1, .int .i64 (upT (x, y, z)).2.2], .int .i64 0]) ∧ Keeps w w' := by
  have hX := At.new2 w (.cells #[.int .i64 x, .int .i64 y, .int .i64 z] 22) 22 #[.int .i64 0, .int .i64 0, .int .i64 0]
  have hk : Keeps w ((w.alloc (.cells #[.int .i64 x, .int .i64 y, .int .i64 z] 22)).alloc (.cells #[.int .i64 0, .int .i64 0, .int .i64 0] 22)) := Keeps.alloc (Keeps.alloc (Below.refl _ _) _) _
  have cN := fun W => newTriple_yes x y z hb W
  have heq := eq3_tri x y z 1 1 1
  rw [h1] at heq
  have cU := fun W => (ex_calls x y z ((trB_iff _ _ _).1 hb) W).2.2
  generalize upT (x, y, z) = o at *
  obtain ⟨o1, o2, o3⟩ := o
  simp only at cU ⊢
  clear hb h1
  go_enter Tryd.func14, Tryd.ntmps14
  go_wp2_with (first
    | (go_at_call 27; refine (cN _).mono ?_; rintro e w1 ⟨rfl, h1⟩; have hX1 := (hX.later h1).alloc (.cells #[.int .i64 x, .int .i64 y, .int .i64 z] 52); have k1 : Keeps w (w1.alloc (.cells #[.int .i64 x, .int .i64 y, .int .i64 z] 52)) := Keeps.alloc (Keeps.next hk h1) _)
    | (go_at_call 33; refine (cU _).mono ?_; rintro e w2 ⟨rfl, h2⟩; have hX1 := hX1.later h2; have k1 := Keeps.next k1 h2)
    | (refine wpList_store_row rfl 22 _ _ rfl (w.heap.size + 1) #[.int .i64 o1, .int .i64 o2, .int .i64 o3] rfl rfl 22 #[.int .i64 0, .int .i64 0, .int .i64 0] hX1 (size3 _ _ _) rfl (oneT _ _ _) ?_))
  have h9 := hX1.row #[.int .i64 o1, .int .i64 o2, .int .i64 o3]
  exact bodyPost_ret (v := .tuple #[.agg #[.int .i64 o1, .int .i64 o2, .int .i64 o3], .int .i64 0]) (results_row_tmp Tryd.results14 _ _ (w.heap.size + 1) _ _ _ rfl h9 Tryd.underlying22 rfl (size3 _ _ _)) rfl ⟨rfl, below_row k1 (by omega) _⟩
theorem chl_cases (e : Ed) : chl e = (if (leftT e).2.2 ≤ 1000000000 then (if (rightT e).2.2 ≤ 1000000000 ∧ rightT e ≠ leftT e then [leftT e, rightT e] else [leftT e]) else (if (rightT e).2.2 ≤ 1000000000 then [rightT e] else [])) := by
  unfold chl chK
  by_cases h1 : (leftT e).2.2 ≤ 1000000000 <;> by_cases h2 : (rightT e).2.2 ≤ 1000000000 <;> by_cases h3 : rightT e = leftT e <;> simp [h1, h2, h3]
set_option maxHeartbeats 4000000 in
set_option maxRecDepth 20000 in
theorem refCh_tttn (x y z : Int) (h : Tri x y z) (h1 : (leftT (x, y, z)).2.2 ≤ 1000000000) (h2 : (rightT (x, y, z)).2.2 ≤ 1000000000) (h3 : rightT (x, y, z) ≠ leftT (x, y, z)) (w : World) :
    Calls Tryd.prog 17 #[.agg #[.int .i64 x, .int .i64 y, .int .i64 z]] w fun e w' => ∃ v, e = .returned v ∧ w'.ownsRow w.heap.size 22 3 v ([leftT (x, y, z), rightT (x, y, z)] : List Ed).length (ecs [leftT (x, y, z), rightT (x, y, z)]) ∧ Keeps w w' := by
  obtain ⟨i0, hi, hz0, hz1, hz2⟩ := info_parts infoEd
  have hX := At.new w 22 #[.int .i64 x, .int .i64 y, .int .i64 z]
  have hk : Keeps w (w.alloc (.cells #[.int .i64 x, .int .i64 y, .int .i64 z] 22)) := Keeps.alloc (Below.refl _ _) _
  have c0 := fun W => refEx0_c x y z h W
  have c1 := fun W => refEx1_c x y z h W
  rw [decide_eq_true h1] at c0
  rw [decide_eq_true h2] at c1
  have heq : eq3 (rightT (x, y, z)).1 (rightT (x, y, z)).2.1 (rightT (x, y, z)).2.2 (leftT (x, y, z)).1 (leftT (x, y, z)).2.1 (leftT (x, y, z)).2.2 = false := by rw [eq3_ev]; exact decide_eq_false h3
  clear h h1 h2 h3
  generalize leftT (x, y, z) = l at *
  generalize rightT (x, y, z) = r at *
  obtain ⟨l1, l2, l3⟩ := l
  obtain ⟨r1, r2, r3⟩ := r
  simp only at c0 c1 heq
  have hq := eq3_arr r1 r2 r3 l1 l2 l3
  rw [heq] at hq
  clear heq
  go_enter Tryd.func17, Tryd.ntmps17
  go_wp2_with (first
    | (go_at_call 13; (with_reducible refine (c0 _).mono ?_); rintro e w1 ⟨rfl, h1⟩; have hX1 := (hX.later h1).alloc (.cells #[.int .i64 l1, .int .i64 l2, .int .i64 l3] 22); have k1 : Keeps w (w1.alloc (.cells #[.int .i64 l1, .int .i64 l2, .int .i64 l3] 22)) := Keeps.alloc (Keeps.next hk h1) _; have hL := At.new w1 22 #[.int .i64 l1, .int .i64 l2, .int .i64 l3]; have p1 := (row_six hX1).1; have p2 := (row_six hX1).2.1; have p3 := (row_six hX1).2.2.1)
    | (go_at_call 13; (with_reducible refine (c1 _).mono ?_); rintro e w2 ⟨rfl, h2⟩; have kZ : Keeps w (w2.alloc (.cells #[.int .i64 r1, .int .i64 r2, .int .i64 r3] 22)) := Keeps.alloc (Keeps.next k1 h2) _; have hLZ := (hL.later h2).alloc (.cells #[.int .i64 r1, .int .i64 r2, .int .i64 r3] 22); have hRZ := At.new w2 22 #[.int .i64 r1, .int .i64 r2, .int .i64 r3]; have q1 := (row_six hLZ).1; have q2 := (row_six hLZ).2.1; have q3 := (row_six hLZ).2.2.1; have s1 := (row_six hRZ).1; have s2 := (row_six hRZ).2.1; have s3 := (row_six hRZ).2.2.1)
    | (at_builtin; refine wpList_append_own _ rfl _ _ 34 rfl w.heap.size 22 i0 _ 3 24 Tryd.underlying34 hi hz0 hz1 hz2 rfl (by decide) _ 0 [] rfl (World.ownsRow_nil _ _ _ _) ⟨w2.heap.size + 1, 0, none⟩ 1 1 [.int .i64 l1, .int .i64 l2, .int .i64 l3] rfl rfl (new_cells (w2.alloc (.cells #[.int .i64 r1, .int .i64 r2, .int .i64 r3] 22)) 22 [.int .i64 l1, .int .i64 l2, .int .i64 l3] (w2.heap.size + 1) (by simp)) (fun u hu => by simp only [List.mem_cons, List.not_mem_nil, or_false] at hu; rcases hu with rfl | rfl | rfl <;> rfl) (by unfold maxLen; decide) (by decide) (by have a1 := kZ.size; simp only [World.size_alloc] at a1 ⊢; omega) ?_; intro v7 w7 hown7 hgrow7 _; have g7 := (Keeps.alloc (Below.refl (w2.alloc (.cells #[.int .i64 r1, .int .i64 r2, .int .i64 r3] 22)).heap.size (w2.alloc (.cells #[.int .i64 r1, .int .i64 r2, .int .i64 r3] 22))) (.cells #[.int .i64 l1, .int .i64 l2, .int .i64 l3] 22)).grown hgrow7 (by simp) (fun r hr => absurd (show (Value.slice none 0 0).ownBlock = some r from hr) (by simp [Value.ownBlock])); have t1 := (row_six (hRZ.later g7)).1; have t2 := (row_six (hRZ.later g7)).2.1; have t3 := (row_six (hRZ.later g7)).2.2.1; have u1 := (row_six (hLZ.later g7)).1; have u2 := (row_six (hLZ.later g7)).2.1; have u3 := (row_six (hLZ.later g7)).2.2.1)
    | (at_builtin; refine wpList_append_own _ rfl _ _ 34 rfl w.heap.size 22 i0 _ 3 24 Tryd.underlying34 hi hz0 hz1 hz2 rfl (by decide) _ 1 [.int .i64 l1, .int .i64 l2, .int .i64 l3] rfl (own_later hown7 (Keeps.alloc (Below.refl _ _) _)) ⟨w7.heap.size, 0, none⟩ 1 1 [.int .i64 r1, .int .i64 r2, .int .i64 r3] rfl rfl (new_cells w7 22 [.int .i64 r1, .int .i64 r2, .int .i64 r3] w7.heap.size rfl) (fun u hu => by simp only [List.mem_cons, List.not_mem_nil, or_false] at hu; rcases hu with rfl | rfl | rfl <;> rfl) (by unfold maxLen; decide) (by decide) (by have a1 := kZ.size; have a2 := g7.size; simp only [World.size_alloc] at a1 a2 ⊢; omega) ?_; intro v8 w8 hown8 hgrow8 _))
  go_ret
  exact ⟨_, rfl, hown8, (Keeps.alloc (Keeps.next kZ g7) _).grown hgrow8 (by have a1 := kZ.size; have a2 := g7.size; simp only [World.size_alloc] at a1 a2 ⊢; omega) (fun r hr => own_base hown7 r hr)⟩
set_option maxHeartbeats 4000000 in
set_option maxRecDepth 20000 in
theorem refCh_ttte (x y z : Int) (h : Tri x y z) (h1 : (leftT (x, y, z)).2.2 ≤ 1000000000) (h2 : (rightT (x, y, z)).2.2 ≤ 1000000000) (h3 : rightT (x, y, z) = leftT (x, y, z)) (w : World) :
    Calls Tryd.prog 17 #[.agg #[.int .i64 x, .int .i64 y, .int .i64 z]] w fun e w' => ∃ v, e = .returned v ∧ w'.ownsRow w.heap.size 22 3 v ([leftT (x, y, z)] : List Ed).length (ecs [leftT (x, y, z)]) ∧ Keeps w w' := by
  obtain ⟨i0, hi, hz0, hz1, hz2⟩ := info_parts infoEd
  have hX := At.new w 22 #[.int .i64 x, .int .i64 y, .int .i64 z]
  have hk : Keeps w (w.alloc (.cells #[.int .i64 x, .int .i64 y, .int .i64 z] 22)) := Keeps.alloc (Below.refl _ _) _
  have c0 := fun W => refEx0_c x y z h W
  have c1 := fun W => refEx1_c x y z h W
  rw [decide_eq_true h1] at c0
  rw [decide_eq_true h2] at c1
  have heq : eq3 (rightT (x, y, z)).1 (rightT (x, y, z)).2.1 (rightT (x, y, z)).2.2 (leftT (x, y, z)).1 (leftT (x, y, z)).2.1 (leftT (x, y, z)).2.2 = true := by rw [eq3_ev]; exact decide_eq_true h3
  clear h h1 h2 h3
  generalize leftT (x, y, z) = l at *
  generalize rightT (x, y, z) = r at *
  obtain ⟨l1, l2, l3⟩ := l
  obtain ⟨r1, r2, r3⟩ := r
  simp only at c0 c1 heq
  have hq := eq3_arr r1 r2 r3 l1 l2 l3
  rw [heq] at hq
  clear heq
  go_enter Tryd.func17, Tryd.ntmps17
  go_wp2_with (first
    | (go_at_call 13; (with_reducible refine (c0 _).mono ?_); rintro e w1 ⟨rfl, h1⟩; have hX1 := (hX.later h1).alloc (.cells #[.int .i64 l1, .int .i64 l2, .int .i64 l3] 22); have k1 : Keeps w (w1.alloc (.cells #[.int .i64 l1, .int .i64 l2, .int .i64 l3] 22)) := Keeps.alloc (Keeps.next hk h1) _; have hL := At.new w1 22 #[.int .i64 l1, .int .i64 l2, .int .i64 l3]; have p1 := (row_six hX1).1; have p2 := (row_six hX1).2.1; have p3 := (row_six hX1).2.2.1)
    | (go_at_call 13; (with_reducible refine (c1 _).mono ?_); rintro e w2 ⟨rfl, h2⟩; have kZ : Keeps w (w2.alloc (.cells #[.int .i64 r1, .int .i64 r2, .int .i64 r3] 22)) := Keeps.alloc (Keeps.next k1 h2) _; have hLZ := (hL.later h2).alloc (.cells #[.int .i64 r1, .int .i64 r2, .int .i64 r3] 22); have hRZ := At.new w2 22 #[.int .i64 r1, .int .i64 r2, .int .i64 r3]; have q1 := (row_six hLZ).1; have q2 := (row_six hLZ).2.1; have q3 := (row_six hLZ).2.2.1; have s1 := (row_six hRZ).1; have s2 := (row_six hRZ).2.1; have s3 := (row_six hRZ).2.2.1)
    | (at_builtin; refine wpList_append_own _ rfl _ _ 34 rfl w.heap.size 22 i0 _ 3 24 Tryd.underlying34 hi hz0 hz1 hz2 rfl (by decide) _ 0 [] rfl (World.ownsRow_nil _ _ _ _) ⟨w2.heap.size + 1, 0, none⟩ 1 1 [.int .i64 l1, .int .i64 l2, .int .i64 l3] rfl rfl (new_cells (w2.alloc (.cells #[.int .i64 r1, .int .i64 r2, .int .i64 r3] 22)) 22 [.int .i64 l1, .int .i64 l2, .int .i64 l3] (w2.heap.size + 1) (by simp)) (fun u hu => by simp only [List.mem_cons, List.not_mem_nil, or_false] at hu; rcases hu with rfl | rfl | rfl <;> rfl) (by unfold maxLen; decide) (by decide) (by have a1 := kZ.size; simp only [World.size_alloc] at a1 ⊢; omega) ?_; intro v7 w7 hown7 hgrow7 _; have g7 := (Keeps.alloc (Below.refl (w2.alloc (.cells #[.int .i64 r1, .int .i64 r2, .int .i64 r3] 22)).heap.size (w2.alloc (.cells #[.int .i64 r1, .int .i64 r2, .int .i64 r3] 22))) (.cells #[.int .i64 l1, .int .i64 l2, .int .i64 l3] 22)).grown hgrow7 (by simp) (fun r hr => absurd (show (Value.slice none 0 0).ownBlock = some r from hr) (by simp [Value.ownBlock])); have t1 := (row_six (hRZ.later g7)).1; have t2 := (row_six (hRZ.later g7)).2.1; have t3 := (row_six (hRZ.later g7)).2.2.1; have u1 := (row_six (hLZ.later g7)).1; have u2 := (row_six (hLZ.later g7)).2.1; have u3 := (row_six (hLZ.later g7)).2.2.1))
  go_ret
  exact ⟨_, rfl, hown7, Keeps.next kZ g7⟩
set_option maxHeartbeats 4000000 in
set_option maxRecDepth 20000 in
theorem refCh_tf (x y z : Int) (h : Tri x y z) (h1 : (leftT (x, y, z)).2.2 ≤ 1000000000) (h2 : ¬ (rightT (x, y, z)).2.2 ≤ 1000000000) (w : World) :
    Calls Tryd.prog 17 #[.agg #[.int .i64 x, .int .i64 y, .int .i64 z]] w fun e w' => ∃ v, e = .returned v ∧ w'.ownsRow w.heap.size 22 3 v ([leftT (x, y, z)] : List Ed).length (ecs [leftT (x, y, z)]) ∧ Keeps w w' := by
  obtain ⟨i0, hi, hz0, hz1, hz2⟩ := info_parts infoEd
  have hX := At.new w 22 #[.int .i64 x, .int .i64 y, .int .i64 z]
  have hk : Keeps w (w.alloc (.cells #[.int .i64 x, .int .i64 y, .int .i64 z] 22)) := Keeps.alloc (Below.refl _ _) _
  have c0 := fun W => refEx0_c x y z h W
  have c1 := fun W => refEx1_c x y z h W
  rw [decide_eq_true h1] at c0
  rw [decide_eq_false h2] at c1
  clear h h1 h2
  generalize leftT (x, y, z) = l at *
  generalize rightT (x, y, z) = r at *
  obtain ⟨l1, l2, l3⟩ := l
  obtain ⟨r1, r2, r3⟩ := r
  simp only at c0 c1
  go_enter Tryd.func17, Tryd.ntmps17
  go_wp2_with (first
    | (go_at_call 13; (with_reducible refine (c0 _).mono ?_); rintro e w1 ⟨rfl, h1⟩; have hX1 := (hX.later h1).alloc (.cells #[.int .i64 l1, .int .i64 l2, .int .i64 l3] 22); have k1 : Keeps w (w1.alloc (.cells #[.int .i64 l1, .int .i64 l2, .int .i64 l3] 22)) := Keeps.alloc (Keeps.next hk h1) _; have hL := At.new w1 22 #[.int .i64 l1, .int .i64 l2, .int .i64 l3]; have p1 := (row_six hX1).1; have p2 := (row_six hX1).2.1; have p3 := (row_six hX1).2.2.1)
    | (go_at_call 13; (with_reducible refine (c1 _).mono ?_); rintro e w2 ⟨rfl, h2⟩; have kZ : Keeps w (w2.alloc (.cells #[.int .i64 r1, .int .i64 r2, .int .i64 r3] 22)) := Keeps.alloc (Keeps.next k1 h2) _; have hLZ := (hL.later h2).alloc (.cells #[.int .i64 r1, .int .i64 r2, .int .i64 r3] 22); have hRZ := At.new w2 22 #[.int .i64 r1, .int .i64 r2, .int .i64 r3]; have q1 := (row_six hLZ).1; have q2 := (row_six hLZ).2.1; have q3 := (row_six hLZ).2.2.1; have s1 := (row_six hRZ).1; have s2 := (row_six hRZ).2.1; have s3 := (row_six hRZ).2.2.1)
    | (at_builtin; refine wpList_append_own _ rfl _ _ 34 rfl w.heap.size 22 i0 _ 3 24 Tryd.underlying34 hi hz0 hz1 hz2 rfl (by decide) _ 0 [] rfl (World.ownsRow_nil _ _ _ _) ⟨w2.heap.size + 1, 0, none⟩ 1 1 [.int .i64 l1, .int .i64 l2, .int .i64 l3] rfl rfl (new_cells (w2.alloc (.cells #[.int .i64 r1, .int .i64 r2, .int .i64 r3] 22)) 22 [.int .i64 l1, .int .i64 l2, .int .i64 l3] (w2.heap.size + 1) (by simp)) (fun u hu => by simp only [List.mem_cons, List.not_mem_nil, or_false] at hu; rcases hu with rfl | rfl | rfl <;> rfl) (by unfold maxLen; decide) (by decide) (by have a1 := kZ.size; simp only [World.size_alloc] at a1 ⊢; omega) ?_; intro v7 w7 hown7 hgrow7 _; have g7 := (Keeps.alloc (Below.refl (w2.alloc (.cells #[.int .i64 r1, .int .i64 r2, .int .i64 r3] 22)).heap.size (w2.alloc (.cells #[.int .i64 r1, .int .i64 r2, .int .i64 r3] 22))) (.cells #[.int .i64 l1, .int .i64 l2, .int .i64 l3] 22)).grown hgrow7 (by simp) (fun r hr => absurd (show (Value.slice none 0 0).ownBlock = some r from hr) (by simp [Value.ownBlock])); have t1 := (row_six (hRZ.later g7)).1; have t2 := (row_six (hRZ.later g7)).2.1; have t3 := (row_six (hRZ.later g7)).2.2.1; have u1 := (row_six (hLZ.later g7)).1; have u2 := (row_six (hLZ.later g7)).2.1; have u3 := (row_six (hLZ.later g7)).2.2.1))
  go_ret
  exact ⟨_, rfl, hown7, Keeps.next kZ g7⟩
set_option maxHeartbeats 4000000 in
set_option maxRecDepth 20000 in
theorem refCh_ft (x y z : Int) (h : Tri x y z) (h1 : ¬ (leftT (x, y, z)).2.2 ≤ 1000000000) (h2 : (rightT (x, y, z)).2.2 ≤ 1000000000) (w : World) :
    Calls Tryd.prog 17 #[.agg #[.int .i64 x, .int .i64 y, .int .i64 z]] w fun e w' => ∃ v, e = .returned v ∧ w'.ownsRow w.heap.size 22 3 v ([rightT (x, y, z)] : List Ed).length (ecs [rightT (x, y, z)]) ∧ Keeps w w' := by
  obtain ⟨i0, hi, hz0, hz1, hz2⟩ := info_parts infoEd
  have hX := At.new w 22 #[.int .i64 x, .int .i64 y, .int .i64 z]
  have hk : Keeps w (w.alloc (.cells #[.int .i64 x, .int .i64 y, .int .i64 z] 22)) := Keeps.alloc (Below.refl _ _) _
  have c0 := fun W => refEx0_c x y z h W
  have c1 := fun W => refEx1_c x y z h W
  rw [decide_eq_false h1] at c0
  rw [decide_eq_true h2] at c1
  have heq : eq3 (rightT (x, y, z)).1 (rightT (x, y, z)).2.1 (rightT (x, y, z)).2.2 (leftT (x, y, z)).1 (leftT (x, y, z)).2.1 (leftT (x, y, z)).2.2 = false := by rw [eq3_ev]; exact decide_eq_false (fun e => h1 (by rw [← e]; exact h2))
  clear h h1 h2
  generalize leftT (x, y, z) = l at *
  generalize rightT (x, y, z) = r at *
  obtain ⟨l1, l2, l3⟩ := l
  obtain ⟨r1, r2, r3⟩ := r
  simp only at c0 c1 heq
  have hq := eq3_arr r1 r2 r3 l1 l2 l3
  rw [heq] at hq
  clear heq
  go_enter Tryd.func17, Tryd.ntmps17
  go_wp2_with (first
    | (go_at_call 13; (with_reducible refine (c0 _).mono ?_); rintro e w1 ⟨rfl, h1⟩; have hX1 := (hX.later h1).alloc (.cells #[.int .i64 l1, .int .i64 l2, .int .i64 l3] 22); have k1 : Keeps w (w1.alloc (.cells #[.int .i64 l1, .int .i64 l2, .int .i64 l3] 22)) := Keeps.alloc (Keeps.next hk h1) _; have hL := At.new w1 22 #[.int .i64 l1, .int .i64 l2, .int .i64 l3]; have p1 := (row_six hX1).1; have p2 := (row_six hX1).2.1; have p3 := (row_six hX1).2.2.1)
    | (go_at_call 13; (with_reducible refine (c1 _).mono ?_); rintro e w2 ⟨rfl, h2⟩; have kZ : Keeps w (w2.alloc (.cells #[.int .i64 r1, .int .i64 r2, .int .i64 r3] 22)) := Keeps.alloc (Keeps.next k1 h2) _; have hLZ := (hL.later h2).alloc (.cells #[.int .i64 r1, .int .i64 r2, .int .i64 r3] 22); have hRZ := At.new w2 22 #[.int .i64 r1, .int .i64 r2, .int .i64 r3]; have q1 := (row_six hLZ).1; have q2 := (row_six hLZ).2.1; have q3 := (row_six hLZ).2.2.1; have s1 := (row_six hRZ).1; have s2 := (row_six hRZ).2.1; have s3 := (row_six hRZ).2.2.1)
    | (at_builtin; refine wpList_append_own _ rfl _ _ 34 rfl w.heap.size 22 i0 _ 3 24 Tryd.underlying34 hi hz0 hz1 hz2 rfl (by decide) _ 0 [] rfl (World.ownsRow_nil _ _ _ _) ⟨w2.heap.size + 1, 0, none⟩ 1 1 [.int .i64 r1, .int .i64 r2, .int .i64 r3] rfl rfl (new_cells (w2.alloc (.cells #[.int .i64 r1, .int .i64 r2, .int .i64 r3] 22)) 22 [.int .i64 r1, .int .i64 r2, .int .i64 r3] (w2.heap.size + 1) (by simp)) (fun u hu => by simp only [List.mem_cons, List.not_mem_nil, or_false] at hu; rcases hu with rfl | rfl | rfl <;> rfl) (by unfold maxLen; decide) (by decide) (by have a1 := kZ.size; simp only [World.size_alloc] at a1 ⊢; omega) ?_; intro v7 w7 hown7 hgrow7 _; have g7 := (Keeps.alloc (Below.refl (w2.alloc (.cells #[.int .i64 r1, .int .i64 r2, .int .i64 r3] 22)).heap.size (w2.alloc (.cells #[.int .i64 r1, .int .i64 r2, .int .i64 r3] 22))) (.cells #[.int .i64 r1, .int .i64 r2, .int .i64 r3] 22)).grown hgrow7 (by simp) (fun r hr => absurd (show (Value.slice none 0 0).ownBlock = some r from hr) (by simp [Value.ownBlock])); skip))
  go_ret
  exact ⟨_, rfl, hown7, Keeps.next kZ g7⟩
set_option maxHeartbeats 4000000 in
set_option maxRecDepth 20000 in
theorem refCh_ff (x y z : Int) (h : Tri x y z) (h1 : ¬ (leftT (x, y, z)).2.2 ≤ 1000000000) (h2 : ¬ (rightT (x, y, z)).2.2 ≤ 1000000000) (w : World) :
    Calls Tryd.prog 17 #[.agg #[.int .i64 x, .int .i64 y, .int .i64 z]] w fun e w' => ∃ v, e = .returned v ∧ w'.ownsRow w.heap.size 22 3 v ([] : List Ed).length (ecs []) ∧ Keeps w w' := by
  obtain ⟨i0, hi, hz0, hz1, hz2⟩ := info_parts infoEd
  have hX := At.new w 22 #[.int .i64 x, .int .i64 y, .int .i64 z]
  have hk : Keeps w (w.alloc (.cells #[.int .i64 x, .int .i64 y, .int .i64 z] 22)) := Keeps.alloc (Below.refl _ _) _
  have c0 := fun W => refEx0_c x y z h W
  have c1 := fun W => refEx1_c x y z h W
  rw [decide_eq_false h1] at c0
  rw [decide_eq_false h2] at c1
  clear h h1 h2
  generalize leftT (x, y, z) = l at *
  generalize rightT (x, y, z) = r at *
  obtain ⟨l1, l2, l3⟩ := l
  obtain ⟨r1, r2, r3⟩ := r
  simp only at c0 c1
  go_enter Tryd.func17, Tryd.ntmps17
  go_wp2_with (first
    | (go_at_call 13; (with_reducible refine (c0 _).mono ?_); rintro e w1 ⟨rfl, h1⟩; have hX1 := (hX.later h1).alloc (.cells #[.int .i64 l1, .int .i64 l2, .int .i64 l3] 22); have k1 : Keeps w (w1.alloc (.cells #[.int .i64 l1, .int .i64 l2, .int .i64 l3] 22)) := Keeps.alloc (Keeps.next hk h1) _; have hL := At.new w1 22 #[.int .i64 l1, .int .i64 l2, .int .i64 l3]; have p1 := (row_six hX1).1; have p2 := (row_six hX1).2.1; have p3 := (row_six hX1).2.2.1)
    | (go_at_call 13; (with_reducible refine (c1 _).mono ?_); rintro e w2 ⟨rfl, h2⟩; have kZ : Keeps w (w2.alloc (.cells #[.int .i64 r1, .int .i64 r2, .int .i64 r3] 22)) := Keeps.alloc (Keeps.next k1 h2) _; have hLZ := (hL.later h2).alloc (.cells #[.int .i64 r1, .int .i64 r2, .int .i64 r3] 22); have hRZ := At.new w2 22 #[.int .i64 r1, .int .i64 r2, .int .i64 r3]; have q1 := (row_six hLZ).1; have q2 := (row_six hLZ).2.1; have q3 := (row_six hLZ).2.2.1; have s1 := (row_six hRZ).1; have s2 := (row_six hRZ).2.1; have s3 := (row_six hRZ).2.2.1))
  go_ret
  exact ⟨_, rfl, World.ownsRow_nil _ _ _ _, kZ⟩
theorem refChildren_c (x y z : Int) (h : Tri x y z) (w : World) :
    Calls Tryd.prog 17 #[.agg #[.int .i64 x, .int .i64 y, .int .i64 z]] w fun e w' => ∃ v, e = .returned v ∧ w'.ownsRow w.heap.size 22 3 v (chl (x, y, z)).length (ecs (chl (x, y, z))) ∧ Keeps w w' := by
  rw [chl_cases]
  by_cases h1 : (leftT (x, y, z)).2.2 ≤ 1000000000
  · rw [if_pos h1]
    by_cases h2 : (rightT (x, y, z)).2.2 ≤ 1000000000
    · by_cases h3 : rightT (x, y, z) = leftT (x, y, z)
      · rw [if_neg (fun h => h.2 h3)]
        exact refCh_ttte x y z h h1 h2 h3 w
      · rw [if_pos ⟨h2, h3⟩]
        exact refCh_tttn x y z h h1 h2 h3 w
    · rw [if_neg (fun h => h2 h.1)]
      exact refCh_tf x y z h h1 h2 w
  · rw [if_neg h1]
    by_cases h2 : (rightT (x, y, z)).2.2 ≤ 1000000000
    · rw [if_pos h2]
      exact refCh_ft x y z h h1 h2 w
    · rw [if_neg h2]
      exact refCh_ff x y z h h1 h2 w
end Go.Proofs.YtnlogppdnfhelaaDoor
