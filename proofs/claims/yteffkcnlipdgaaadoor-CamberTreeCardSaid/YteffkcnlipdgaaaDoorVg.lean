/- The walks of exchanges, Exchange. -/
import Derived.Test.YteffkcnlipdgaaaDoorVc
namespace Go.Proofs.YteffkcnlipdgaaaDoor
open Go.RowKit
set_option linter.unusedVariables false
set_option linter.unusedSimpArgs false

set_option maxHeartbeats 2000000 in
theorem exchanges_c (x y z : Int) (w : World) :
    Calls Tryd.prog 26 #[.agg #[.int .i64 x, .int .i64 y, .int .i64 z]] w fun e w' => ∃ g, e = .returned (.slice (some ⟨g, 0, none⟩) 3 3) ∧ At w' g 55 #[.func (.func 35) #[.agg #[.int .i64 x, .int .i64 y, .int .i64 z]] #[], .func (.func 36) #[.agg #[.int .i64 x, .int .i64 y, .int .i64 z]] #[], .func (.func 34) #[.agg #[.int .i64 x, .int .i64 y, .int .i64 z]] #[]] ∧ w.heap.size ≤ g ∧ Keeps w w' := by
  have hmf : ∀ (fn : Fn) (first cap : Array Value) (w : World), (Instr.makeFunc fn first cap).run Tryd.prog w = .ok (.func fn first cap) w := fun _ _ _ _ => rfl
  have hX := At.new2 w (.cells #[.int .i64 x, .int .i64 y, .int .i64 z] 52) 55 #[.func (.func 35) #[.agg #[.int .i64 x, .int .i64 y, .int .i64 z]] #[], .func (.func 36) #[.agg #[.int .i64 x, .int .i64 y, .int .i64 z]] #[], .func (.func 34) #[.agg #[.int .i64 x, .int .i64 y, .int .i64 z]] #[]]
  have hk : Keeps w ((w.alloc (.cells #[.int .i64 x, .int .i64 y, .int .i64 z] 52)).alloc (.cells #[.func (.func 35) #[.agg #[.int .i64 x, .int .i64 y, .int .i64 z]] #[], .func (.func 36) #[.agg #[.int .i64 x, .int .i64 y, .int .i64 z]] #[], .func (.func 34) #[.agg #[.int .i64 x, .int .i64 y, .int .i64 z]] #[]] 55)) := Keeps.alloc (Keeps.alloc (Below.refl _ _) _) _
  go_enter Tryd.func26, Tryd.ntmps26
  go_wp2_with fail
  go_ret
  exact ⟨w.heap.size + 1, rfl, hX, by omega, hk⟩
/-- What an exchange leads to, from the function values. -/
theorem ex_calls (x y z : Int) (h : Tri x y z) (w : World) :
    (Calls Tryd.prog 35 #[.agg #[.int .i64 x, .int .i64 y, .int .i64 z]] w fun e w' => e = .returned (.agg #[.int .i64 (leftT (x, y, z)).1, .int .i64 (leftT (x, y, z)).2.1, .int .i64 (leftT (x, y, z)).2.2]) ∧ Keeps w w') ∧
    (Calls Tryd.prog 36 #[.agg #[.int .i64 x, .int .i64 y, .int .i64 z]] w fun e w' => e = .returned (.agg #[.int .i64 (rightT (x, y, z)).1, .int .i64 (rightT (x, y, z)).2.1, .int .i64 (rightT (x, y, z)).2.2]) ∧ Keeps w w') ∧
    (Calls Tryd.prog 34 #[.agg #[.int .i64 x, .int .i64 y, .int .i64 z]] w fun e w' => e = .returned (.agg #[.int .i64 (upT (x, y, z)).1, .int .i64 (upT (x, y, z)).2.1, .int .i64 (upT (x, y, z)).2.2]) ∧ Keeps w w') := by
  have hb := h.bds
  exact ⟨left_c x y z hb.1 hb.2.1 hb.2.2 w, right_c x y z hb.1 hb.2.1 hb.2.2 w, up_c x y z hb.1 hb.2.1 hb.2.2 h.1.2.1 w⟩
set_option maxHeartbeats 2000000 in
theorem Exchange_no (x y z a : Int) (hb : trB x y z = false) (w : World) :
    Calls Tryd.prog 11 #[.agg #[.int .i64 x, .int .i64 y, .int .i64 z], .int .i64 a] w fun e w' => e = .returned (.tuple #[.agg #[.int .i64 0, .int .i64 0, .int .i64 0], .int .i64 2]) ∧ Keeps w w' := by
  have hX := At.new2 w (.cells #[.int .i64 x, .int .i64 y, .int .i64 z] 22) 22 #[.int .i64 0, .int .i64 0, .int .i64 0]
  have hk : Keeps w ((w.alloc (.cells #[.int .i64 x, .int .i64 y, .int .i64 z] 22)).alloc (.cells #[.int .i64 0, .int .i64 0, .int .i64 0] 22)) := Keeps.alloc (Keeps.alloc (Below.refl _ _) _) _
  have cN := fun W => newTriple_non x y z hb W
  have H := Lib.hid hb
  clear hb
  go_enter Tryd.func11, Tryd.ntmps11
  go_wp2_with (first
    | (go_at_call 25; refine (cN _).mono ?_; rintro e w1 ⟨b0, b1, b2, rfl, h1⟩; have hX1 := (hX.later h1).alloc (.cells #[.int .i64 b0, .int .i64 b1, .int .i64 b2] 52))
    | (refine wpList_store_row rfl 22 _ _ rfl (w.heap.size + 1) #[.int .i64 0, .int .i64 0, .int .i64 0] rfl rfl 22 #[.int .i64 0, .int .i64 0, .int .i64 0] hX1 (size3 _ _ _) rfl (oneT _ _ _) ?_))
  have h3 := hX1.row #[.int .i64 0, .int .i64 0, .int .i64 0]
  exact bodyPost_ret (v := .tuple #[.agg #[.int .i64 0, .int .i64 0, .int .i64 0], .int .i64 2]) (results_row_tmp Tryd.results11 _ _ (w.heap.size + 1) _ _ _ rfl h3 Tryd.underlying22 rfl (size3 _ _ _)) rfl ⟨rfl, below_row (Keeps.alloc (Keeps.next hk h1) _) (by omega) _⟩
set_option maxHeartbeats 2000000 in
theorem Exchange_low (x y z a : Int) (hb : trB x y z = true) (ha : a < 0) (w : World) :
    Calls Tryd.prog 11 #[.agg #[.int .i64 x, .int .i64 y, .int .i64 z], .int .i64 a] w fun e w' => e = .returned (.tuple #[.agg #[.int .i64 0, .int .i64 0, .int .i64 0], .int .i64 2]) ∧ Keeps w w' := by
  have hX := At.new2 w (.cells #[.int .i64 x, .int .i64 y, .int .i64 z] 22) 22 #[.int .i64 0, .int .i64 0, .int .i64 0]
  have hk : Keeps w ((w.alloc (.cells #[.int .i64 x, .int .i64 y, .int .i64 z] 22)).alloc (.cells #[.int .i64 0, .int .i64 0, .int .i64 0] 22)) := Keeps.alloc (Keeps.alloc (Below.refl _ _) _) _
  have cN := fun W => newTriple_yes x y z hb W
  have H := Lib.hid hb
  have hd : decide (a < 0) = true := by simpa using ha
  clear hb ha
  go_enter Tryd.func11, Tryd.ntmps11
  go_wp2_with (first
    | (go_at_call 25; refine (cN _).mono ?_; rintro e w1 ⟨rfl, h1⟩; have hX1 := (hX.later h1).alloc (.cells #[.int .i64 x, .int .i64 y, .int .i64 z] 52))
    | (refine wpList_store_row rfl 22 _ _ rfl (w.heap.size + 1) #[.int .i64 0, .int .i64 0, .int .i64 0] rfl rfl 22 #[.int .i64 0, .int .i64 0, .int .i64 0] hX1 (size3 _ _ _) rfl (oneT _ _ _) ?_))
  have h3 := hX1.row #[.int .i64 0, .int .i64 0, .int .i64 0]
  exact bodyPost_ret (v := .tuple #[.agg #[.int .i64 0, .int .i64 0, .int .i64 0], .int .i64 2]) (results_row_tmp Tryd.results11 _ _ (w.heap.size + 1) _ _ _ rfl h3 Tryd.underlying22 rfl (size3 _ _ _)) rfl ⟨rfl, below_row (Keeps.alloc (Keeps.next hk h1) _) (by omega) _⟩
set_option maxHeartbeats 2000000 in
theorem Exchange_high (x y z a : Int) (hb : trB x y z = true) (ha : 3 ≤ a) (w : World) :
    Calls Tryd.prog 11 #[.agg #[.int .i64 x, .int .i64 y, .int .i64 z], .int .i64 a] w fun e w' => e = .returned (.tuple #[.agg #[.int .i64 0, .int .i64 0, .int .i64 0], .int .i64 2]) ∧ Keeps w w' := by
  have hX := At.new2 w (.cells #[.int .i64 x, .int .i64 y, .int .i64 z] 22) 22 #[.int .i64 0, .int .i64 0, .int .i64 0]
  have hk : Keeps w ((w.alloc (.cells #[.int .i64 x, .int .i64 y, .int .i64 z] 22)).alloc (.cells #[.int .i64 0, .int .i64 0, .int .i64 0] 22)) := Keeps.alloc (Keeps.alloc (Below.refl _ _) _) _
  have cN := fun W => newTriple_yes x y z hb W
  have H := Lib.hid hb
  have hd : decide (a < 0) = false := by simp; omega
  have hd2 : decide (3 ≤ a) = true := by simpa using ha
  clear hb ha
  go_enter Tryd.func11, Tryd.ntmps11
  go_wp2_with (first
    | (go_at_call 25; refine (cN _).mono ?_; rintro e w1 ⟨rfl, h1⟩; have hX1 := (hX.later h1).alloc (.cells #[.int .i64 x, .int .i64 y, .int .i64 z] 52))
    | (refine wpList_store_row rfl 22 _ _ rfl (w.heap.size + 1) #[.int .i64 0, .int .i64 0, .int .i64 0] rfl rfl 22 #[.int .i64 0, .int .i64 0, .int .i64 0] hX1 (size3 _ _ _) rfl (oneT _ _ _) ?_))
  have h3 := hX1.row #[.int .i64 0, .int .i64 0, .int .i64 0]
  exact bodyPost_ret (v := .tuple #[.agg #[.int .i64 0, .int .i64 0, .int .i64 0], .int .i64 2]) (results_row_tmp Tryd.results11 _ _ (w.heap.size + 1) _ _ _ rfl h3 Tryd.underlying22 rfl (size3 _ _ _)) rfl ⟨rfl, below_row (Keeps.alloc (Keeps.next hk h1) _) (by omega) _⟩
set_option maxHeartbeats 4000000 in
set_option maxRecDepth 20000 in
theorem Exchange_0full (x y z : Int) (hb : trB x y z = true) (hf : 1000000000 < (leftT (x, y, z)).2.2) (w : World) :
    Calls Tryd.prog 11 #[.agg #[.int .i64 x, .int .i64 y, .int .i64 z], .int .i64 0] w fun e w' => e = .returned (.tuple #[.agg #[.int .i64 0, .int .i64 0, .int .i64 0], .int .i64 5]) ∧ Keeps w w' := by
  have hX := At.new2 w (.cells #[.int .i64 x, .int .i64 y, .int .i64 z] 22) 22 #[.int .i64 0, .int .i64 0, .int .i64 0]
  have hk : Keeps w ((w.alloc (.cells #[.int .i64 x, .int .i64 y, .int .i64 z] 22)).alloc (.cells #[.int .i64 0, .int .i64 0, .int .i64 0] 22)) := Keeps.alloc (Keeps.alloc (Below.refl _ _) _) _
  have cN := fun W => newTriple_yes x y z hb W
  have cE := fun W => exchanges_c x y z W
  have cK := fun W => (ex_calls x y z ((trB_iff _ _ _).1 hb) W).1
  have H := Lib.hid hb
  clear hb
  generalize leftT (x, y, z) = o at *
  obtain ⟨o1, o2, o3⟩ := o
  simp only at cK hf ⊢
  have cF := fun W => isFull_c o1 o2 o3 W
  have hd : decide (o3 > 1000000000) = true := by simp; omega
  rw [hd] at cF
  clear hd hf
  go_enter Tryd.func11, Tryd.ntmps11
  go_wp2_with (first
    | (go_at_call 25; refine (cN _).mono ?_; rintro e w1 ⟨rfl, h1⟩; have hX1 := (hX.later h1).alloc (.cells #[.int .i64 x, .int .i64 y, .int .i64 z] 52); have k1 : Keeps w (w1.alloc (.cells #[.int .i64 x, .int .i64 y, .int .i64 z] 52)) := Keeps.alloc (Keeps.next hk h1) _)
    | (go_at_call 26; refine (cE _).mono ?_; rintro e w2 ⟨g, rfl, hf2, hg2, h2⟩; have hX2 := hX1.later h2; have k2 := Keeps.next k1 h2; have cf : w2.cell? ⟨g, 0, none⟩ = some _ := (hf2.cell 0).trans rfl)
    | (go_at_call 35; refine (cK _).mono ?_; rintro e w3 ⟨rfl, h3⟩; have hX3 := (hX2.later h3).alloc (.cells #[.int .i64 o1, .int .i64 o2, .int .i64 o3] 52); have k3 : Keeps w (w3.alloc (.cells #[.int .i64 o1, .int .i64 o2, .int .i64 o3] 52)) := Keeps.alloc (Keeps.next k2 h3) _; have hO3 := At.new w3 52 #[.int .i64 o1, .int .i64 o2, .int .i64 o3])
    | (go_at_call 27; refine (cF _).mono ?_; rintro e w4 ⟨rfl, h4⟩; have hX4 := hX3.later h4; have k4 := Keeps.next k3 h4; have p1 := (row_six (hO3.later h4)).1; have p2 := (row_six (hO3.later h4)).2.1; have p3 := (row_six (hO3.later h4)).2.2.1)
    | (refine wpList_store_row rfl 22 _ _ rfl (w.heap.size + 1) #[.int .i64 0, .int .i64 0, .int .i64 0] rfl rfl 22 #[.int .i64 0, .int .i64 0, .int .i64 0] hX4 (size3 _ _ _) rfl (oneT _ _ _) ?_))
  have h9 := hX4.row #[.int .i64 0, .int .i64 0, .int .i64 0]
  exact bodyPost_ret (v := .tuple #[.agg #[.int .i64 0, .int .i64 0, .int .i64 0], .int .i64 5]) (results_row_tmp Tryd.results11 _ _ (w.heap.size + 1) _ _ _ rfl h9 Tryd.underlying22 rfl (size3 _ _ _)) rfl ⟨rfl, below_row k4 (by omega) _⟩
set_option maxHeartbeats 4000000 in
set_option maxRecDepth 20000 in
theorem Exchange_0ok (x y z : Int) (hb : trB x y z = true) (hf : (leftT (x, y, z)).2.2 ≤ 1000000000) (w : World) :
    Calls Tryd.prog 11 #[.agg #[.int .i64 x, .int .i64 y, .int .i64 z], .int .i64 0] w fun e w' => e = .returned (.tuple #[.agg #[.int .i64 (leftT (x, y, z)).1, .int .i64 (leftT (x, y, z)).2.1, .int .i64 (leftT (x, y, z)).2.2], .int .i64 0]) ∧ Keeps w w' := by
  have hX := At.new2 w (.cells #[.int .i64 x, .int .i64 y, .int .i64 z] 22) 22 #[.int .i64 0, .int .i64 0, .int .i64 0]
  have hk : Keeps w ((w.alloc (.cells #[.int .i64 x, .int .i64 y, .int .i64 z] 22)).alloc (.cells #[.int .i64 0, .int .i64 0, .int .i64 0] 22)) := Keeps.alloc (Keeps.alloc (Below.refl _ _) _) _
  have cN := fun W => newTriple_yes x y z hb W
  have cE := fun W => exchanges_c x y z W
  have cK := fun W => (ex_calls x y z ((trB_iff _ _ _).1 hb) W).1
  have H := Lib.hid hb
  clear hb
  generalize leftT (x, y, z) = o at *
  obtain ⟨o1, o2, o3⟩ := o
  simp only at cK hf ⊢
  have cF := fun W => isFull_c o1 o2 o3 W
  have hd : decide (o3 > 1000000000) = false := by simp; omega
  rw [hd] at cF
  clear hd hf
  go_enter Tryd.func11, Tryd.ntmps11
  go_wp2_with (first
    | (go_at_call 25; refine (cN _).mono ?_; rintro e w1 ⟨rfl, h1⟩; have hX1 := (hX.later h1).alloc (.cells #[.int .i64 x, .int .i64 y, .int .i64 z] 52); have k1 : Keeps w (w1.alloc (.cells #[.int .i64 x, .int .i64 y, .int .i64 z] 52)) := Keeps.alloc (Keeps.next hk h1) _)
    | (go_at_call 26; refine (cE _).mono ?_; rintro e w2 ⟨g, rfl, hf2, hg2, h2⟩; have hX2 := hX1.later h2; have k2 := Keeps.next k1 h2; have cf : w2.cell? ⟨g, 0, none⟩ = some _ := (hf2.cell 0).trans rfl)
    | (go_at_call 35; refine (cK _).mono ?_; rintro e w3 ⟨rfl, h3⟩; have hX3 := (hX2.later h3).alloc (.cells #[.int .i64 o1, .int .i64 o2, .int .i64 o3] 52); have k3 : Keeps w (w3.alloc (.cells #[.int .i64 o1, .int .i64 o2, .int .i64 o3] 52)) := Keeps.alloc (Keeps.next k2 h3) _; have hO3 := At.new w3 52 #[.int .i64 o1, .int .i64 o2, .int .i64 o3])
    | (go_at_call 27; refine (cF _).mono ?_; rintro e w4 ⟨rfl, h4⟩; have hX4 := hX3.later h4; have k4 := Keeps.next k3 h4; have p1 := (row_six (hO3.later h4)).1; have p2 := (row_six (hO3.later h4)).2.1; have p3 := (row_six (hO3.later h4)).2.2.1)
    | (refine wpList_store_row rfl 22 _ _ rfl (w.heap.size + 1) #[.int .i64 o1, .int .i64 o2, .int .i64 o3] rfl rfl 22 #[.int .i64 0, .int .i64 0, .int .i64 0] hX4 (size3 _ _ _) rfl (oneT _ _ _) ?_))
  have h9 := hX4.row #[.int .i64 o1, .int .i64 o2, .int .i64 o3]
  exact bodyPost_ret (v := .tuple #[.agg #[.int .i64 o1, .int .i64 o2, .int .i64 o3], .int .i64 0]) (results_row_tmp Tryd.results11 _ _ (w.heap.size + 1) _ _ _ rfl h9 Tryd.underlying22 rfl (size3 _ _ _)) rfl ⟨rfl, below_row k4 (by omega) _⟩
set_option maxHeartbeats 4000000 in
set_option maxRecDepth 20000 in
theorem Exchange_1full (x y z : Int) (hb : trB x y z = true) (hf : 1000000000 < (rightT (x, y, z)).2.2) (w : World) :
    Calls Tryd.prog 11 #[.agg #[.int .i64 x, .int .i64 y, .int .i64 z], .int .i64 1] w fun e w' => e = .returned (.tuple #[.agg #[.int .i64 0, .int .i64 0, .int .i64 0], .int .i64 5]) ∧ Keeps w w' := by
  have hX := At.new2 w (.cells #[.int .i64 x, .int .i64 y, .int .i64 z] 22) 22 #[.int .i64 0, .int .i64 0, .int .i64 0]
  have hk : Keeps w ((w.alloc (.cells #[.int .i64 x, .int .i64 y, .int .i64 z] 22)).alloc (.cells #[.int .i64 0, .int .i64 0, .int .i64 0] 22)) := Keeps.alloc (Keeps.alloc (Below.refl _ _) _) _
  have cN := fun W => newTriple_yes x y z hb W
  have cE := fun W => exchanges_c x y z W
  have cK := fun W => (ex_calls x y z ((trB_iff _ _ _).1 hb) W).2.1
  have H := Lib.hid hb
  clear hb
  generalize rightT (x, y, z) = o at *
  obtain ⟨o1, o2, o3⟩ := o
  simp only at cK hf ⊢
  have cF := fun W => isFull_c o1 o2 o3 W
  have hd : decide (o3 > 1000000000) = true := by simp; omega
  rw [hd] at cF
  clear hd hf
  go_enter Tryd.func11, Tryd.ntmps11
  go_wp2_with (first
    | (go_at_call 25; refine (cN _).mono ?_; rintro e w1 ⟨rfl, h1⟩; have hX1 := (hX.later h1).alloc (.cells #[.int .i64 x, .int .i64 y, .int .i64 z] 52); have k1 : Keeps w (w1.alloc (.cells #[.int .i64 x, .int .i64 y, .int .i64 z] 52)) := Keeps.alloc (Keeps.next hk h1) _)
    | (go_at_call 26; refine (cE _).mono ?_; rintro e w2 ⟨g, rfl, hf2, hg2, h2⟩; have hX2 := hX1.later h2; have k2 := Keeps.next k1 h2; have cf : w2.cell? ⟨g, 1, none⟩ = some _ := (hf2.cell 1).trans rfl)
    | (go_at_call 36; refine (cK _).mono ?_; rintro e w3 ⟨rfl, h3⟩; have hX3 := (hX2.later h3).alloc (.cells #[.int .i64 o1, .int .i64 o2, .int .i64 o3] 52); have k3 : Keeps w (w3.alloc (.cells #[.int .i64 o1, .int .i64 o2, .int .i64 o3] 52)) := Keeps.alloc (Keeps.next k2 h3) _; have hO3 := At.new w3 52 #[.int .i64 o1, .int .i64 o2, .int .i64 o3])
    | (go_at_call 27; refine (cF _).mono ?_; rintro e w4 ⟨rfl, h4⟩; have hX4 := hX3.later h4; have k4 := Keeps.next k3 h4; have p1 := (row_six (hO3.later h4)).1; have p2 := (row_six (hO3.later h4)).2.1; have p3 := (row_six (hO3.later h4)).2.2.1)
    | (refine wpList_store_row rfl 22 _ _ rfl (w.heap.size + 1) #[.int .i64 0, .int .i64 0, .int .i64 0] rfl rfl 22 #[.int .i64 0, .int .i64 0, .int .i64 0] hX4 (size3 _ _ _) rfl (oneT _ _ _) ?_))
  have h9 := hX4.row #[.int .i64 0, .int .i64 0, .int .i64 0]
  exact bodyPost_ret (v := .tuple #[.agg #[.int .i64 0, .int .i64 0, .int .i64 0], .int .i64 5]) (results_row_tmp Tryd.results11 _ _ (w.heap.size + 1) _ _ _ rfl h9 Tryd.underlying22 rfl (size3 _ _ _)) rfl ⟨rfl, below_row k4 (by omega) _⟩
set_option maxHeartbeats 4000000 in
set_option maxRecDepth 20000 in
theorem Exchange_1ok (x y z : Int) (hb : trB x y z = true) (hf : (rightT (x, y, z)).2.2 ≤ 1000000000) (w : World) :
    Calls Tryd.prog 11 #[.agg #[.int .i64 x, .int .i64 y, .int .i64 z], .int .i64 1] w fun e w' => e = .returned (.tuple #[.agg #[.int .i64 (rightT (x, y, z)).1, .int .i64 (rightT (x, y, z)).2.1, .int .i64 (rightT (x, y, z)).2.2], .int .i64 0]) ∧ Keeps w w' := by
  have hX := At.new2 w (.cells #[.int .i64 x, .int .i64 y, .int .i64 z] 22) 22 #[.int .i64 0, .int .i64 0, .int .i64 0]
  have hk : Keeps w ((w.alloc (.cells #[.int .i64 x, .int .i64 y, .int .i64 z] 22)).alloc (.cells #[.int .i64 0, .int .i64 0, .int .i64 0] 22)) := Keeps.alloc (Keeps.alloc (Below.refl _ _) _) _
  have cN := fun W => newTriple_yes x y z hb W
  have cE := fun W => exchanges_c x y z W
  have cK := fun W => (ex_calls x y z ((trB_iff _ _ _).1 hb) W).2.1
  have H := Lib.hid hb
  clear hb
  generalize rightT (x, y, z) = o at *
  obtain ⟨o1, o2, o3⟩ := o
  simp only at cK hf ⊢
  have cF := fun W => isFull_c o1 o2 o3 W
  have hd : decide (o3 > 1000000000) = false := by simp; omega
  rw [hd] at cF
  clear hd hf
  go_enter Tryd.func11, Tryd.ntmps11
  go_wp2_with (first
    | (go_at_call 25; refine (cN _).mono ?_; rintro e w1 ⟨rfl, h1⟩; have hX1 := (hX.later h1).alloc (.cells #[.int .i64 x, .int .i64 y, .int .i64 z] 52); have k1 : Keeps w (w1.alloc (.cells #[.int .i64 x, .int .i64 y, .int .i64 z] 52)) := Keeps.alloc (Keeps.next hk h1) _)
    | (go_at_call 26; refine (cE _).mono ?_; rintro e w2 ⟨g, rfl, hf2, hg2, h2⟩; have hX2 := hX1.later h2; have k2 := Keeps.next k1 h2; have cf : w2.cell? ⟨g, 1, none⟩ = some _ := (hf2.cell 1).trans rfl)
    | (go_at_call 36; refine (cK _).mono ?_; rintro e w3 ⟨rfl, h3⟩; have hX3 := (hX2.later h3).alloc (.cells #[.int .i64 o1, .int .i64 o2, .int .i64 o3] 52); have k3 : Keeps w (w3.alloc (.cells #[.int .i64 o1, .int .i64 o2, .int .i64 o3] 52)) := Keeps.alloc (Keeps.next k2 h3) _; have hO3 := At.new w3 52 #[.int .i64 o1, .int .i64 o2, .int .i64 o3])
    | (go_at_call 27; refine (cF _).mono ?_; rintro e w4 ⟨rfl, h4⟩; have hX4 := hX3.later h4; have k4 := Keeps.next k3 h4; have p1 := (row_six (hO3.later h4)).1; have p2 := (row_six (hO3.later h4)).2.1; have p3 := (row_six (hO3.later h4)).2.2.1)
    | (refine wpList_store_row rfl 22 _ _ rfl (w.heap.size + 1) #[.int .i64 o1, .int .i64 o2, .int .i64 o3] rfl rfl 22 #[.int .i64 0, .int .i64 0, .int .i64 0] hX4 (size3 _ _ _) rfl (oneT _ _ _) ?_))
  have h9 := hX4.row #[.int .i64 o1, .int .i64 o2, .int .i64 o3]
  exact bodyPost_ret (v := .tuple #[.agg #[.int .i64 o1, .int .i64 o2, .int .i64 o3], .int .i64 0]) (results_row_tmp Tryd.results11 _ _ (w.heap.size + 1) _ _ _ rfl h9 Tryd.underlying22 rfl (size3 _ _ _)) rfl ⟨rfl, below_row k4 (by omega) _⟩
set_option maxHeartbeats 4000000 in
set_option maxRecDepth 20000 in
theorem Exchange_2full (x y z : Int) (hb : trB x y z = true) (hf : 1000000000 < (upT (x, y, z)).2.2) (w : World) :
    Calls Tryd.prog 11 #[.agg #[.int .i64 x, .int .i64 y, .int .i64 z], .int .i64 2] w fun e w' => e = .returned (.tuple #[.agg #[.int .i64 0, .int .i64 0, .int .i64 0], .int .i64 5]) ∧ Keeps w w' := by
  have hX := At.new2 w (.cells #[.int .i64 x, .int .i64 y, .int .i64 z] 22) 22 #[.int .i64 0, .int .i64 0, .int .i64 0]
  have hk : Keeps w ((w.alloc (.cells #[.int .i64 x, .int .i64 y, .int .i64 z] 22)).alloc (.cells #[.int .i64 0, .int .i64 0, .int .i64 0] 22)) := Keeps.alloc (Keeps.alloc (Below.refl _ _) _) _
  have cN := fun W => newTriple_yes x y z hb W
  have cE := fun W => exchanges_c x y z W
  have cK := fun W => (ex_calls x y z ((trB_iff _ _ _).1 hb) W).2.2
  have H := Lib.hid hb
  clear hb
  generalize upT (x, y, z) = o at *
  obtain ⟨o1, o2, o3⟩ := o
  simp only at cK hf ⊢
  have cF := fun W => isFull_c o1 o2 o3 W
  have hd : decide (o3 > 1000000000) = true := by simp; omega
  rw [hd] at cF
  clear hd hf
  go_enter Tryd.func11, Tryd.ntmps11
  go_wp2_with (first
    | (go_at_call 25; refine (cN _).mono ?_; rintro e w1 ⟨rfl, h1⟩; have hX1 := (hX.later h1).alloc (.cells #[.int .i64 x, .int .i64 y, .int .i64 z] 52); have k1 : Keeps w (w1.alloc (.cells #[.int .i64 x, .int .i64 y, .int .i64 z] 52)) := Keeps.alloc (Keeps.next hk h1) _)
    | (go_at_call 26; refine (cE _).mono ?_; rintro e w2 ⟨g, rfl, hf2, hg2, h2⟩; have hX2 := hX1.later h2; have k2 := Keeps.next k1 h2; have cf : w2.cell? ⟨g, 2, none⟩ = some _ := (hf2.cell 2).trans rfl)
    | (go_at_call 34; refine (cK _).mono ?_; rintro e w3 ⟨rfl, h3⟩; have hX3 := (hX2.later h3).alloc (.cells #[.int .i64 o1, .int .i64 o2, .int .i64 o3] 52); have k3 : Keeps w (w3.alloc (.cells #[.int .i64 o1, .int .i64 o2, .int .i64 o3] 52)) := Keeps.alloc (Keeps.next k2 h3) _; have hO3 := At.new w3 52 #[.int .i64 o1, .int .i64 o2, .int .i64 o3])
    | (go_at_call 27; refine (cF _).mono ?_; rintro e w4 ⟨rfl, h4⟩; have hX4 := hX3.later h4; have k4 := Keeps.next k3 h4; have p1 := (row_six (hO3.later h4)).1; have p2 := (row_six (hO3.later h4)).2.1; have p3 := (row_six (hO3.later h4)).2.2.1)
    | (refine wpList_store_row rfl 22 _ _ rfl (w.heap.size + 1) #[.int .i64 0, .int .i64 0, .int .i64 0] rfl rfl 22 #[.int .i64 0, .int .i64 0, .int .i64 0] hX4 (size3 _ _ _) rfl (oneT _ _ _) ?_))
  have h9 := hX4.row #[.int .i64 0, .int .i64 0, .int .i64 0]
  exact bodyPost_ret (v := .tuple #[.agg #[.int .i64 0, .int .i64 0, .int .i64 0], .int .i64 5]) (results_row_tmp Tryd.results11 _ _ (w.heap.size + 1) _ _ _ rfl h9 Tryd.underlying22 rfl (size3 _ _ _)) rfl ⟨rfl, below_row k4 (by omega) _⟩
set_option maxHeartbeats 4000000 in
set_option maxRecDepth 20000 in
theorem Exchange_2ok (x y z : Int) (hb : trB x y z = true) (hf : (upT (x, y, z)).2.2 ≤ 1000000000) (w : World) :
    Calls Tryd.prog 11 #[.agg #[.int .i64 x, .int .i64 y, .int .i64 z], .int .i64 2] w fun e w' => e = .returned (.tuple #[.agg #[.int .i64 (upT (x, y, z)).1, .int .i64 (upT (x, y, z)).2.1, .int .i64 (upT (x, y, z)).2.2], .int .i64 0]) ∧ Keeps w w' := by
  have hX := At.new2 w (.cells #[.int .i64 x, .int .i64 y, .int .i64 z] 22) 22 #[.int .i64 0, .int .i64 0, .int .i64 0]
  have hk : Keeps w ((w.alloc (.cells #[.int .i64 x, .int .i64 y, .int .i64 z] 22)).alloc (.cells #[.int .i64 0, .int .i64 0, .int .i64 0] 22)) := Keeps.alloc (Keeps.alloc (Below.refl _ _) _) _
  have cN := fun W => newTriple_yes x y z hb W
  have cE := fun W => exchanges_c x y z W
  have cK := fun W => (ex_calls x y z ((trB_iff _ _ _).1 hb) W).2.2
  have H := Lib.hid hb
  clear hb
  generalize upT (x, y, z) = o at *
  obtain ⟨o1, o2, o3⟩ := o
  simp only at cK hf ⊢
  have cF := fun W => isFull_c o1 o2 o3 W
  have hd : decide (o3 > 1000000000) = false := by simp; omega
  rw [hd] at cF
  clear hd hf
  go_enter Tryd.func11, Tryd.ntmps11
  go_wp2_with (first
    | (go_at_call 25; refine (cN _).mono ?_; rintro e w1 ⟨rfl, h1⟩; have hX1 := (hX.later h1).alloc (.cells #[.int .i64 x, .int .i64 y, .int .i64 z] 52); have k1 : Keeps w (w1.alloc (.cells #[.int .i64 x, .int .i64 y, .int .i64 z] 52)) := Keeps.alloc (Keeps.next hk h1) _)
    | (go_at_call 26; refine (cE _).mono ?_; rintro e w2 ⟨g, rfl, hf2, hg2, h2⟩; have hX2 := hX1.later h2; have k2 := Keeps.next k1 h2; have cf : w2.cell? ⟨g, 2, none⟩ = some _ := (hf2.cell 2).trans rfl)
    | (go_at_call 34; refine (cK _).mono ?_; rintro e w3 ⟨rfl, h3⟩; have hX3 := (hX2.later h3).alloc (.cells #[.int .i64 o1, .int .i64 o2, .int .i64 o3] 52); have k3 : Keeps w (w3.alloc (.cells #[.int .i64 o1, .int .i64 o2, .int .i64 o3] 52)) := Keeps.alloc (Keeps.next k2 h3) _; have hO3 := At.new w3 52 #[.int .i64 o1, .int .i64 o2, .int .i64 o3])
    | (go_at_call 27; refine (cF _).mono ?_; rintro e w4 ⟨rfl, h4⟩; have hX4 := hX3.later h4; have k4 := Keeps.next k3 h4; have p1 := (row_six (hO3.later h4)).1; have p2 := (row_six (hO3.later h4)).2.1; have p3 := (row_six (hO3.later h4)).2.2.1)
    | (refine wpList_store_row rfl 22 _ _ rfl (w.heap.size + 1) #[.int .i64 o1, .int .i64 o2, .int .i64 o3] rfl rfl 22 #[.int .i64 0, .int .i64 0, .int .i64 0] hX4 (size3 _ _ _) rfl (oneT _ _ _) ?_))
  have h9 := hX4.row #[.int .i64 o1, .int .i64 o2, .int .i64 o3]
  exact bodyPost_ret (v := .tuple #[.agg #[.int .i64 o1, .int .i64 o2, .int .i64 o3], .int .i64 0]) (results_row_tmp Tryd.results11 _ _ (w.heap.size + 1) _ _ _ rfl h9 Tryd.underlying22 rfl (size3 _ _ _)) rfl ⟨rfl, below_row k4 (by omega) _⟩
end Go.Proofs.YteffkcnlipdgaaaDoor
