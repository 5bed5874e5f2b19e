/- The walks of read: texts with a point, and wrong ones. -/
import Derived.Test.YtfekggmdhmkemaaDoorZp
namespace Go.Proofs.YtfekggmdhmkemaaDoor
open Go.RowKit
set_option linter.unusedVariables false
set_option linter.unusedSimpArgs false

theorem pre_no (c : UInt8) (R : List UInt8) (h : c ≠ 46) : Lib.hasPrefix (c :: R) [46] = false := by
  rw [show Lib.hasPrefix (c :: R) [46] = ((46 : UInt8) == c && List.isPrefixOf [] R) from rfl, beq_eq_false_iff_ne.2 (Ne.symm h)]; rfl
theorem trim_no (c : UInt8) (R : List UInt8) (h : c ≠ 46) : Lib.trimPrefix (c :: R) [46] = c :: R := by
  unfold Lib.trimPrefix
  rw [pre_no c R h]; rfl
theorem pre_yes (R : List UInt8) : Lib.hasPrefix (46 :: R) [46] = true := by
  rw [show Lib.hasPrefix (46 :: R) [46] = ((46 : UInt8) == 46 && List.isPrefixOf [] R) from rfl]; cases R <;> rfl
theorem trim_yes (R : List UInt8) : Lib.trimPrefix (46 :: R) [46] = R := by
  unfold Lib.trimPrefix
  rw [pre_yes R]; rfl
theorem trim_yes2 (R : List UInt8) : Lib.trimPrefix (46 :: R) [46] = R ++ [] := by rw [trim_yes, List.append_nil]
set_option maxHeartbeats 2000000 in
set_option maxRecDepth 100000 in
theorem read_a (F R : List UInt8) (hF : ∀ c ∈ F, okD c) (hR : ∀ c, R.head? = some c → ¬ okD c) (hbad : F.length < 1 ∨ 40 < F.length) (hl : F.length ≤ 500) (hr : R.length ≤ 500) (w : World) :
    Calls Tryd.prog 21 #[.string ⟨(F ++ R).toArray⟩] w fun e w' => e = .returned (.tuple #[(.agg (dB (List.replicate 80 0))), .int .i64 4]) ∧ Keeps w w' := by
  have hmf : ∀ (fn : Fn) (first cap : Array Value) (w : World), (Instr.makeFunc fn first cap).run Tryd.prog w = .ok (.func fn first cap) w := fun _ _ _ _ => rfl
  have hz : Tryd.zeroCells44 = dB (List.replicate 80 0) := by kernel_rfl
  obtain ⟨X, hX⟩ : ∃ X, ((w.alloc (.cells Tryd.zeroCells44 44)).alloc (.cells #[.int .i64 0] 25)).alloc (.cells #[.string ⟨(F ++ R).toArray⟩] 60) = X := ⟨_, rfl⟩
  have a0 : At X w.heap.size 44 (dB (List.replicate 80 0)) := by rw [← hX, ← hz]; exact ((At.new w _ _).alloc _).alloc _
  have b0 : At X (w.heap.size + 1) 25 #[.int .i64 0] := by rw [← hX]; exact (At.new2 w _ _ _).alloc _
  have c0 : At X (w.heap.size + 1 + 1) 60 #[.string ⟨(F ++ R).toArray⟩] := by rw [← hX]; exact At.new3 w _ _ _ _
  have hk : Keeps w X := by rw [← hX]; exact Keeps.alloc (Keeps.alloc (Keeps.alloc (Below.refl _ _) _) _) _
  have l0 : Holds (fun r => r < w.heap.size) w X := Holds.of_keeps hk _
  have HX := Lib.hid hX
  have p1 := fun x hx => run_no (w.heap.size + 1 + 1) (F) (R) hF hR hbad (by omega) (by omega) x hx
  clear hz hX
  go_enter_defers Tryd.func21, Tryd.ntmps21
  go_upto_region 3 with (fail)
  rw [HX.out]
  go_wp2_with (first
    | (go_at_call 34
       refine (p1 _ c0).mono ?_
       rintro e w1 ⟨rfl, g1⟩
       have h1 : Holds (fun r => r ≠ w.heap.size + 1 + 1) X w1 := Holds.of_keeps g1 _
       have a1 := a0.holds h1 (by omega)
       have b1 := b0.holds h1 (by omega)
       have l1 := l0.trans (h1.mono (fun r _ h => by omega))
       clear p1))
  refine leaves_cons (f := 33) (args := #[.pointer (some ⟨w.heap.size, 0, none⟩), .pointer (some ⟨w.heap.size + 1, 0, none⟩)]) (by simp) (by simp [go_sem]) ?_
  refine (catch_panic _ _ _ _ (by simp) _ _ a1 b1 (by omega)).mono ?_
  rintro e u' w' ⟨rfl, rfl, rfl⟩
  have z0 := ((a1.row (dB (List.replicate 80 0))).far (p := ⟨w.heap.size + 1, 0, none⟩) (by simp) (.int .i64 4))
  have z1 := (b1.rowfar (by omega) (dB (List.replicate 80 0)) (g' := w.heap.size)).set 0 (.int .i64 4)
  refine ⟨_, results_row_cell Tryd.results21 _ _ w.heap.size _ _ _ ⟨w.heap.size + 1, 0, none⟩ (.int .i64 4) rfl rfl z0 Tryd.underlying44 rfl (sizeD _ (by simp)) (Tryd.isAgg25 _) (by rw [z1.cell]; rfl), rfl, ?_⟩
  exact ((l1.row _ (by omega) _).set _ (by simp) _).below (Nat.le_refl _)
set_option maxHeartbeats 2000000 in
set_option maxRecDepth 100000 in
theorem read_e (F : List UInt8) (c : UInt8) (R : List UInt8) (hF : ∀ c ∈ F, okD c) (hc : ¬ okD c) (hc46 : c ≠ 46) (f1 : 1 ≤ F.length) (f2 : F.length ≤ 40) (hr : R.length ≤ 500) (w : World) :
    Calls Tryd.prog 21 #[.string ⟨(F ++ c :: R).toArray⟩] w fun e w' => e = .returned (.tuple #[(.agg (dB (List.replicate 80 0))), .int .i64 4]) ∧ Keeps w w' := by
  have hmf : ∀ (fn : Fn) (first cap : Array Value) (w : World), (Instr.makeFunc fn first cap).run Tryd.prog w = .ok (.func fn first cap) w := fun _ _ _ _ => rfl
  have hz : Tryd.zeroCells44 = dB (List.replicate 80 0) := by kernel_rfl
  obtain ⟨X, hX⟩ : ∃ X, ((w.alloc (.cells Tryd.zeroCells44 44)).alloc (.cells #[.int .i64 0] 25)).alloc (.cells #[.string ⟨(F ++ c :: R).toArray⟩] 60) = X := ⟨_, rfl⟩
  have a0 : At X w.heap.size 44 (dB (List.replicate 80 0)) := by rw [← hX, ← hz]; exact ((At.new w _ _).alloc _).alloc _
  have b0 : At X (w.heap.size + 1) 25 #[.int .i64 0] := by rw [← hX]; exact (At.new2 w _ _ _).alloc _
  have c0 : At X (w.heap.size + 1 + 1) 60 #[.string ⟨(F ++ c :: R).toArray⟩] := by rw [← hX]; exact At.new3 w _ _ _ _
  have hk : Keeps w X := by rw [← hX]; exact Keeps.alloc (Keeps.alloc (Keeps.alloc (Below.refl _ _) _) _) _
  have l0 : Holds (fun r => r < w.heap.size) w X := Holds.of_keeps hk _
  have HX := Lib.hid hX
  have p1 := fun x hx => run_yes (w.heap.size + 1 + 1) (F) (c :: R) hF (fun d h => by obtain rfl := Option.some.inj h; exact hc) f1 f2 (by simp; omega) x hx
  have p2 := fun x hx => point_c (w.heap.size + 1 + 1) (c :: R) x hx
  rw [pre_no c R hc46, trim_no c R hc46] at p2
  have p3 := fun x hx => end_no (w.heap.size + 1 + 1) (c :: R) (by simp) x hx
  clear hz hX
  go_enter_defers Tryd.func21, Tryd.ntmps21
  go_upto_region 3 with (fail)
  rw [HX.out]
  go_wp2_with (first
    | (go_at_call 34
       refine (p1 _ c0).mono ?_
       rintro e w1 ⟨rfl, c1, h1⟩
       have a1 := a0.holds h1 (by omega)
       have b1 := b0.holds h1 (by omega)
       have l1 := l0.trans (h1.mono (fun r _ h => by omega))
       clear p1)
    | (go_at_call 35
       refine (p2 _ c1).mono ?_
       rintro e w2 ⟨rfl, c2, h2⟩
       have a2 := a1.holds h2 (by omega)
       have b2 := b1.holds h2 (by omega)
       have l2 := l1.trans (h2.mono (fun r _ h => by omega))
       clear p2)
    | (go_at_call 36
       refine (p3 _ c2).mono ?_
       rintro e w3 ⟨rfl, rfl⟩
       have a3 := a2
       have b3 := b2
       have l3 := l2
       clear p3))
  refine leaves_cons (f := 33) (args := #[.pointer (some ⟨w.heap.size, 0, none⟩), .pointer (some ⟨w.heap.size + 1, 0, none⟩)]) (by simp) (by simp [go_sem]) ?_
  refine (catch_panic _ _ _ _ (by simp) _ _ a3 b3 (by omega)).mono ?_
  rintro e u' w' ⟨rfl, rfl, rfl⟩
  have z0 := ((a3.row (dB (List.replicate 80 0))).far (p := ⟨w.heap.size + 1, 0, none⟩) (by simp) (.int .i64 4))
  have z1 := (b3.rowfar (by omega) (dB (List.replicate 80 0)) (g' := w.heap.size)).set 0 (.int .i64 4)
  refine ⟨_, results_row_cell Tryd.results21 _ _ w.heap.size _ _ _ ⟨w.heap.size + 1, 0, none⟩ (.int .i64 4) rfl rfl z0 Tryd.underlying44 rfl (sizeD _ (by simp)) (Tryd.isAgg25 _) (by rw [z1.cell]; rfl), rfl, ?_⟩
  exact ((l3.row _ (by omega) _).set _ (by simp) _).below (Nat.le_refl _)
set_option maxHeartbeats 2000000 in
set_option maxRecDepth 100000 in
theorem read_c (F G R : List UInt8) (hF : ∀ c ∈ F, okD c) (hG : ∀ c ∈ G, okD c) (hR : ∀ c, R.head? = some c → ¬ okD c) (f1 : 1 ≤ F.length) (f2 : F.length ≤ 40) (hbad : G.length < 1 ∨ 40 < G.length) (gl : G.length ≤ 500) (hr : R.length ≤ 400) (w : World) :
    Calls Tryd.prog 21 #[.string ⟨(F ++ 46 :: (G ++ R)).toArray⟩] w fun e w' => e = .returned (.tuple #[(.agg (dB (List.replicate 80 0))), .int .i64 4]) ∧ Keeps w w' := by
  have hmf : ∀ (fn : Fn) (first cap : Array Value) (w : World), (Instr.makeFunc fn first cap).run Tryd.prog w = .ok (.func fn first cap) w := fun _ _ _ _ => rfl
  have hz : Tryd.zeroCells44 = dB (List.replicate 80 0) := by kernel_rfl
  obtain ⟨X, hX⟩ : ∃ X, ((w.alloc (.cells Tryd.zeroCells44 44)).alloc (.cells #[.int .i64 0] 25)).alloc (.cells #[.string ⟨(F ++ 46 :: (G ++ R)).toArray⟩] 60) = X := ⟨_, rfl⟩
  have a0 : At X w.heap.size 44 (dB (List.replicate 80 0)) := by rw [← hX, ← hz]; exact ((At.new w _ _).alloc _).alloc _
  have b0 : At X (w.heap.size + 1) 25 #[.int .i64 0] := by rw [← hX]; exact (At.new2 w _ _ _).alloc _
  have c0 : At X (w.heap.size + 1 + 1) 60 #[.string ⟨(F ++ 46 :: (G ++ R)).toArray⟩] := by rw [← hX]; exact At.new3 w _ _ _ _
  have hk : Keeps w X := by rw [← hX]; exact Keeps.alloc (Keeps.alloc (Keeps.alloc (Below.refl _ _) _) _) _
  have l0 : Holds (fun r => r < w.heap.size) w X := Holds.of_keeps hk _
  have HX := Lib.hid hX
  have p1 := fun x hx => run_yes (w.heap.size + 1 + 1) (F) (46 :: (G ++ R)) hF (fun d h => by obtain rfl := Option.some.inj h; unfold okD; decide) f1 f2 (by simp; omega) x hx
  have p2 := fun x hx => point_c (w.heap.size + 1 + 1) (46 :: (G ++ R)) x hx
  rw [pre_yes (G ++ R), trim_yes (G ++ R)] at p2
  have p3 := fun x hx => run_no (w.heap.size + 1 + 1) (G) (R) hG hR hbad (by omega) (by omega) x hx
  clear hz hX
  go_enter_defers Tryd.func21, Tryd.ntmps21
  go_upto_region 3 with (fail)
  rw [HX.out]
  go_wp2_with (first
    | (go_at_call 34
       refine (p1 _ c0).mono ?_
       rintro e w1 ⟨rfl, c1, h1⟩
       have a1 := a0.holds h1 (by omega)
       have b1 := b0.holds h1 (by omega)
       have l1 := l0.trans (h1.mono (fun r _ h => by omega))
       clear p1)
    | (go_at_call 35
       refine (p2 _ c1).mono ?_
       rintro e w2 ⟨rfl, c2, h2⟩
       have a2 := a1.holds h2 (by omega)
       have b2 := b1.holds h2 (by omega)
       have l2 := l1.trans (h2.mono (fun r _ h => by omega))
       clear p2)
    | (go_at_call 34
       refine (p3 _ c2).mono ?_
       rintro e w3 ⟨rfl, g3⟩
       have h3 : Holds (fun r => r ≠ w.heap.size + 1 + 1) w2 w3 := Holds.of_keeps g3 _
       have a3 := a2.holds h3 (by omega)
       have b3 := b2.holds h3 (by omega)
       have l3 := l2.trans (h3.mono (fun r _ h => by omega))
       clear p3))
  refine leaves_cons (f := 33) (args := #[.pointer (some ⟨w.heap.size, 0, none⟩), .pointer (some ⟨w.heap.size + 1, 0, none⟩)]) (by simp) (by simp [go_sem]) ?_
  refine (catch_panic _ _ _ _ (by simp) _ _ a3 b3 (by omega)).mono ?_
  rintro e u' w' ⟨rfl, rfl, rfl⟩
  have z0 := ((a3.row (dB (List.replicate 80 0))).far (p := ⟨w.heap.size + 1, 0, none⟩) (by simp) (.int .i64 4))
  have z1 := (b3.rowfar (by omega) (dB (List.replicate 80 0)) (g' := w.heap.size)).set 0 (.int .i64 4)
  refine ⟨_, results_row_cell Tryd.results21 _ _ w.heap.size _ _ _ ⟨w.heap.size + 1, 0, none⟩ (.int .i64 4) rfl rfl z0 Tryd.underlying44 rfl (sizeD _ (by simp)) (Tryd.isAgg25 _) (by rw [z1.cell]; rfl), rfl, ?_⟩
  exact ((l3.row _ (by omega) _).set _ (by simp) _).below (Nat.le_refl _)
set_option maxHeartbeats 2000000 in
set_option maxRecDepth 100000 in
theorem read_d (F G R : List UInt8) (hF : ∀ c ∈ F, okD c) (hG : ∀ c ∈ G, okD c) (hR : ∀ c, R.head? = some c → ¬ okD c) (f1 : 1 ≤ F.length) (f2 : F.length ≤ 40) (g1 : 1 ≤ G.length) (g2 : G.length ≤ 40) (hne : R ≠ []) (hr : R.length ≤ 400) (w : World) :
    Calls Tryd.prog 21 #[.string ⟨(F ++ 46 :: (G ++ R)).toArray⟩] w fun e w' => e = .returned (.tuple #[(.agg (dB (List.replicate 80 0))), .int .i64 4]) ∧ Keeps w w' := by
  have hmf : ∀ (fn : Fn) (first cap : Array Value) (w : World), (Instr.makeFunc fn first cap).run Tryd.prog w = .ok (.func fn first cap) w := fun _ _ _ _ => rfl
  have hz : Tryd.zeroCells44 = dB (List.replicate 80 0) := by kernel_rfl
  obtain ⟨X, hX⟩ : ∃ X, ((w.alloc (.cells Tryd.zeroCells44 44)).alloc (.cells #[.int .i64 0] 25)).alloc (.cells #[.string ⟨(F ++ 46 :: (G ++ R)).toArray⟩] 60) = X := ⟨_, rfl⟩
  have a0 : At X w.heap.size 44 (dB (List.replicate 80 0)) := by rw [← hX, ← hz]; exact ((At.new w _ _).alloc _).alloc _
  have b0 : At X (w.heap.size + 1) 25 #[.int .i64 0] := by rw [← hX]; exact (At.new2 w _ _ _).alloc _
  have c0 : At X (w.heap.size + 1 + 1) 60 #[.string ⟨(F ++ 46 :: (G ++ R)).toArray⟩] := by rw [← hX]; exact At.new3 w _ _ _ _
  have hk : Keeps w X := by rw [← hX]; exact Keeps.alloc (Keeps.alloc (Keeps.alloc (Below.refl _ _) _) _) _
  have l0 : Holds (fun r => r < w.heap.size) w X := Holds.of_keeps hk _
  have HX := Lib.hid hX
  have p1 := fun x hx => run_yes (w.heap.size + 1 + 1) (F) (46 :: (G ++ R)) hF (fun d h => by obtain rfl := Option.some.inj h; unfold okD; decide) f1 f2 (by simp; omega) x hx
  have p2 := fun x hx => point_c (w.heap.size + 1 + 1) (46 :: (G ++ R)) x hx
  rw [pre_yes (G ++ R), trim_yes (G ++ R)] at p2
  have p3 := fun x hx => run_yes (w.heap.size + 1 + 1) (G) (R) hG hR g1 g2 (by omega) x hx
  have p4 := fun x hx => end_no (w.heap.size + 1 + 1) (R) (hne) x hx
  clear hz hX
  go_enter_defers Tryd.func21, Tryd.ntmps21
  go_upto_region 3 with (fail)
  rw [HX.out]
  go_wp2_with (first
    | (go_at_call 34
       refine (p1 _ c0).mono ?_
       rintro e w1 ⟨rfl, c1, h1⟩
       have a1 := a0.holds h1 (by omega)
       have b1 := b0.holds h1 (by omega)
       have l1 := l0.trans (h1.mono (fun r _ h => by omega))
       clear p1)
    | (go_at_call 35
       refine (p2 _ c1).mono ?_
       rintro e w2 ⟨rfl, c2, h2⟩
       have a2 := a1.holds h2 (by omega)
       have b2 := b1.holds h2 (by omega)
       have l2 := l1.trans (h2.mono (fun r _ h => by omega))
       clear p2)
    | (go_at_call 34
       refine (p3 _ c2).mono ?_
       rintro e w3 ⟨rfl, c3, h3⟩
       have a3 := a2.holds h3 (by omega)
       have b3 := b2.holds h3 (by omega)
       have l3 := l2.trans (h3.mono (fun r _ h => by omega))
       clear p3)
    | (go_at_call 36
       refine (p4 _ c3).mono ?_
       rintro e w4 ⟨rfl, rfl⟩
       have a4 := a3
       have b4 := b3
       have l4 := l3
       clear p4))
  refine leaves_cons (f := 33) (args := #[.pointer (some ⟨w.heap.size, 0, none⟩), .pointer (some ⟨w.heap.size + 1, 0, none⟩)]) (by simp) (by simp [go_sem]) ?_
  refine (catch_panic _ _ _ _ (by simp) _ _ a4 b4 (by omega)).mono ?_
  rintro e u' w' ⟨rfl, rfl, rfl⟩
  have z0 := ((a4.row (dB (List.replicate 80 0))).far (p := ⟨w.heap.size + 1, 0, none⟩) (by simp) (.int .i64 4))
  have z1 := (b4.rowfar (by omega) (dB (List.replicate 80 0)) (g' := w.heap.size)).set 0 (.int .i64 4)
  refine ⟨_, results_row_cell Tryd.results21 _ _ w.heap.size _ _ _ ⟨w.heap.size + 1, 0, none⟩ (.int .i64 4) rfl rfl z0 Tryd.underlying44 rfl (sizeD _ (by simp)) (Tryd.isAgg25 _) (by rw [z1.cell]; rfl), rfl, ?_⟩
  exact ((l4.row _ (by omega) _).set _ (by simp) _).below (Nat.le_refl _)
set_option maxHeartbeats 2000000 in
set_option maxRecDepth 100000 in
theorem read_f (F G : List UInt8) (hF : ∀ c ∈ F, okD c) (hG : ∀ c ∈ G, okD c) (f1 : 1 ≤ F.length) (f2 : F.length ≤ 40) (g1 : 1 ≤ G.length) (g2 : G.length ≤ 40) (w : World) :
    Calls Tryd.prog 21 #[.string ⟨(F ++ 46 :: G).toArray⟩] w fun e w' => e = .returned (.tuple #[(.agg (dB (digL F G))), .int .i64 0]) ∧ Keeps w w' := by
  have hmf : ∀ (fn : Fn) (first cap : Array Value) (w : World), (Instr.makeFunc fn first cap).run Tryd.prog w = .ok (.func fn first cap) w := fun _ _ _ _ => rfl
  have hz : Tryd.zeroCells44 = dB (List.replicate 80 0) := by kernel_rfl
  obtain ⟨X, hX⟩ : ∃ X, ((w.alloc (.cells Tryd.zeroCells44 44)).alloc (.cells #[.int .i64 0] 25)).alloc (.cells #[.string ⟨(F ++ 46 :: G).toArray⟩] 60) = X := ⟨_, rfl⟩
  have a0 : At X w.heap.size 44 (dB (List.replicate 80 0)) := by rw [← hX, ← hz]; exact ((At.new w _ _).alloc _).alloc _
  have b0 : At X (w.heap.size + 1) 25 #[.int .i64 0] := by rw [← hX]; exact (At.new2 w _ _ _).alloc _
  have c0 : At X (w.heap.size + 1 + 1) 60 #[.string ⟨(F ++ 46 :: G).toArray⟩] := by rw [← hX]; exact At.new3 w _ _ _ _
  have hk : Keeps w X := by rw [← hX]; exact Keeps.alloc (Keeps.alloc (Keeps.alloc (Below.refl _ _) _) _) _
  have l0 : Holds (fun r => r < w.heap.size) w X := Holds.of_keeps hk _
  have HX := Lib.hid hX
  have p1 := fun x hx => run_yes (w.heap.size + 1 + 1) (F) (46 :: G) hF (fun d h => by obtain rfl := Option.some.inj h; unfold okD; decide) f1 f2 (by simp; omega) x hx
  have p2 := fun x hx => point_c (w.heap.size + 1 + 1) (46 :: G) x hx
  rw [pre_yes G, trim_yes2 G] at p2
  have p3 := fun x hx => run_yes (w.heap.size + 1 + 1) (G) ([]) hG (fun c h => by cases h) g1 g2 (by simp) x hx
  have p4 := fun x hx => end_c (w.heap.size + 1 + 1) x hx
  have hnd := fun x => newDigits_c ⟨F.toArray⟩ ⟨G.toArray⟩ (by show F.toArray.size ≤ 40; simpa using f2) (by show G.toArray.size ≤ 40; simpa using g2) x
  rw [show (⟨F.toArray⟩ : ByteArray).data.toList = F from List.toList_toArray, show (⟨G.toArray⟩ : ByteArray).data.toList = G from List.toList_toArray] at hnd
  have hdl : (digL F G).length = 80 := by simp [digL]; omega
  have Hd := Lib.hid hdl
  clear hdl
  generalize digL F G = D at *
  clear hz hX
  go_enter_defers Tryd.func21, Tryd.ntmps21
  go_upto_region 3 with (fail)
  rw [HX.out]
  go_wp2_with (first
    | (go_at_call 34
       refine (p1 _ c0).mono ?_
       rintro e w1 ⟨rfl, c1, h1⟩
       have a1 := a0.holds h1 (by omega)
       have b1 := b0.holds h1 (by omega)
       have l1 := l0.trans (h1.mono (fun r _ h => by omega))
       clear p1)
    | (go_at_call 35
       refine (p2 _ c1).mono ?_
       rintro e w2 ⟨rfl, c2, h2⟩
       have a2 := a1.holds h2 (by omega)
       have b2 := b1.holds h2 (by omega)
       have l2 := l1.trans (h2.mono (fun r _ h => by omega))
       clear p2)
    | (go_at_call 34
       refine (p3 _ c2).mono ?_
       rintro e w3 ⟨rfl, c3, h3⟩
       have a3 := a2.holds h3 (by omega)
       have b3 := b2.holds h3 (by omega)
       have l3 := l2.trans (h3.mono (fun r _ h => by omega))
       clear p3)
    | (go_at_call 36
       refine (p4 _ c3).mono ?_
       rintro e w4 ⟨rfl, rfl⟩
       have a4 := a3
       have b4 := b3
       have l4 := l3
       clear p4)
    | (go_at_call 37
       refine (hnd _).mono ?_
       rintro e w9 ⟨rfl, k9⟩
       have d0 := a4.later k9
       have d1 := (b4.later k9).rowfar (by omega) (dB D) (g' := w.heap.size)
       have f1 := d1.frozen 0
       have e1 := d1.cell 0
       simp only [List.getElem?_toArray, List.getElem?_cons_zero] at e1)
    | (refine wpList_store_row rfl 44 _ _ rfl w.heap.size (dB D) rfl rfl 44 _ d0 (sizeD _ Hd.out) (by rw [dB_size, dB_size, Hd.out]; simp) (oneD _) ?_))
  refine leaves_cons (f := 33) (args := #[.pointer (some ⟨w.heap.size, 0, none⟩), .pointer (some ⟨w.heap.size + 1, 0, none⟩)]) (by simp) (by simp [go_sem]) ?_
  refine (catch_idle _ _ _).mono ?_
  rintro e u' w' ⟨rfl, rfl, rfl⟩
  have z0 := ((d0.row (dB D)).far (p := ⟨w.heap.size + 1, 0, none⟩) (by simp) (.int .i64 0))
  have z1 := d1.set 0 (.int .i64 0)
  refine ⟨_, results_row_cell Tryd.results21 _ _ w.heap.size _ _ _ ⟨w.heap.size + 1, 0, none⟩ (.int .i64 0) rfl rfl z0 Tryd.underlying44 rfl (sizeD _ Hd.out) (Tryd.isAgg25 _) (by rw [z1.cell]; rfl), rfl, ?_⟩
  exact (((l4.trans (Holds.of_keeps k9 _)).row _ (by omega) _).set _ (by simp) _).below (Nat.le_refl _)
end Go.Proofs.YtfekggmdhmkemaaDoor
