/- Words of odd cycles; with, isWritten, Contains. -/
import Derived.Test.YtngonghgkeobhaaBo
import Derived.RegionTactic
import Derived.BigRegion
namespace Go.Proofs.Ytngonghgkeobhaa
open Go.RowKit Go.Shelf
set_option linter.unusedVariables false
set_option linter.unusedSimpArgs false

def castL (l : List Nat) : List Int := l.map fun x : Nat => (x : Int)
def gN (W : List Nat) (k : Nat) : Nat := W.getD k 0
theorem castL_length (W : List Nat) : (castL W).length = W.length := by simp [castL]
theorem castL_nth (W : List Nat) (k : Nat) (h : k < W.length) : nth (castL W) k = gN W k := by simp [castL, nth, gN, h]
/-- The cells of a cycle. -/
def cyc (W : List Nat) : List Int := (W.length : Int) :: (castL W ++ List.replicate (12 - W.length) 0)
theorem cyc_length (W : List Nat) (h : W.length ≤ 12) : (cyc W).length = 13 := by simp [cyc, castL]; omega
theorem cyc_0 (W : List Nat) : nth (cyc W) 0 = W.length := rfl
theorem cyc_at (W : List Nat) (k : Nat) (h : k < W.length) : nth (cyc W) (1 + k) = gN W k := by
  unfold cyc nth gN
  rw [show 1 + k = k + 1 by omega, List.getElem?_cons_succ, List.getElem?_append_left (by rw [castL_length]; exact h)]
  simp [castL, h]
theorem cyc_with (W : List Nat) (v : Nat) (h : W.length < 12) : ((cyc W).set (1 + W.length) v).set 0 ((W.length : Int) + 1) = cyc (W ++ [v]) := by
  have hr : List.replicate (12 - W.length) (0 : Int) = 0 :: List.replicate (12 - (W.length + 1)) 0 := by
    rw [show 12 - W.length = (12 - (W.length + 1)) + 1 by omega, List.replicate_succ]
  unfold cyc
  rw [show 1 + W.length = W.length + 1 by omega, List.set_cons_succ, List.set_cons_zero, hr, List.set_append_right _ _ (by rw [castL_length]; exact Nat.le_refl _), castL_length, Nat.sub_self, List.set_cons_zero, List.length_append, List.length_singleton]
  simp [castL]
theorem sizeC (W : List Nat) (h : W.length ≤ 12) : (Try.prog.info? 92).map (·.size) = some (ic (cyc W)).size := by rw [ic_size, cyc_length W h]; show _ = some 13; kernel_rfl
def wrB (W : List Nat) : Bool := decide (3 ≤ W.length) && (decide (W.length % 2 = 1) && decide (gN W 1 < gN W (W.length - 1)))
set_option maxHeartbeats 1000000 in
set_option maxRecDepth 100000 in
theorem isWritten_c (v : Value) (W : List Nat) (h16 : W.length ≤ 16) (w : World) (hv : RdI w v (castL W)) :
    Calls Try.prog 65 #[v] w fun e w' => e = .returned (.bool (wrB W)) ∧ Keeps w w' := by
  obtain ⟨A, c, rfl, hm, hcs⟩ := id hv
  rw [castL_length] at hm hcs ⊢
  have q0 : IntKind.i64.wrap ((W.length : Int) - 1) = (W.length : Int) - 1 := IntWalk.i64_in _ (by omega)
  by_cases h3 : 3 ≤ W.length
  · have h3I : (3 : Int) ≤ W.length := by omega
    obtain ⟨j, hj⟩ : ∃ j, W.length - 1 = j := ⟨_, rfl⟩
    have hjI : (W.length : Int) - 1 = j := by omega
    obtain ⟨b0, o0, _, rfl, c1, rfl⟩ := hcs 1 (by omega)
    obtain ⟨_, _, _, e2, c2, rfl⟩ := hcs j (by omega)
    cases e2
    rw [castL_nth W 1 (by omega)] at c1
    rw [castL_nth W j (by omega)] at c2
    have hjl : (j : Int) < W.length := by omega
    have hw : wrB W = (decide (W.length % 2 = 1) && decide (gN W 1 < gN W j)) := by unfold wrB; rw [decide_eq_true h3, Bool.true_and, hj]
    have r1 : ((W.length : Int) % 2 == 1) = decide (W.length % 2 = 1) := by rw [Bool.eq_iff_iff]; simp; omega
    rw [hjI] at q0
    have Hw := Lib.hid hw
    clear hcs hw hj
    by_cases h2 : W.length % 2 = 1
    · rw [decide_eq_true h2] at r1
      have r2 : decide ((gN W 1 : Int) < (gN W j : Int)) = decide (gN W 1 < gN W j) := by rw [decide_eq_decide]; omega
      have Hw2 : Hid (wrB W = decide (gN W 1 < gN W j)) := Lib.hid (by rw [Hw.out, decide_eq_true h2, Bool.true_and])
      clear h2 Hw
      generalize gN W 1 = x at *
      generalize gN W j = y at *
      go_enter Try.func65, Try.ntmps65
      go_wp2_with fail
      go_quiet (fail)
      go_wp2_with fail
      go_ret
      exact ⟨ret_bool (by rw [Hw2.out]), below_drewN (Below.refl _ _)⟩
    · rw [decide_eq_false h2] at r1
      have Hw2 : Hid (wrB W = false) := Lib.hid (by rw [Hw.out, decide_eq_false h2, Bool.false_and])
      clear h2 Hw
      go_enter Try.func65, Try.ntmps65
      go_wp2_with fail
      go_quiet (fail)
      go_wp2_with fail
      go_ret
      exact ⟨ret_bool Hw2.out.symm, below_drewN (Below.refl _ _)⟩
  · have h3I : decide ((3 : Int) ≤ W.length) = false := by simp; omega
    have Hw2 : Hid (wrB W = false) := Lib.hid (by unfold wrB; rw [decide_eq_false h3, Bool.false_and])
    clear hcs
    go_enter Try.func65, Try.ntmps65
    go_wp2_with fail
    go_quiet (fail)
    go_wp2_with fail
    go_ret
    exact ⟨ret_bool Hw2.out.symm, below_drewN (Below.refl _ _)⟩
set_option maxHeartbeats 2000000 in
set_option maxRecDepth 100000 in
theorem with_c (W : List Nat) (v : Nat) (h : W.length < 12) (w : World) :
    Calls Try.prog 67 #[.agg (ic (cyc W)), .int .i64 v] w fun e w' => e = .returned (.agg (ic (cyc (W ++ [v])))) ∧ Keeps w w' := by
  have hcw := cyc_with W v h
  have hc0 := cyc_0 W
  have hlen := cyc_length W (by omega)
  have hS := sizeC (W ++ [v]) (by simp; omega)
  have hS1 := sizeC W (by omega)
  obtain ⟨p, hp⟩ : ∃ p, W.length = p := ⟨_, rfl⟩
  rw [hp] at h hcw hc0
  have hlen2 : (cyc (W ++ [v])).length = 13 := cyc_length _ (by simp; omega)
  obtain ⟨C, hC⟩ : ∃ C, C = cyc W := ⟨_, rfl⟩
  rw [← hC] at hcw hc0 hlen hS1 ⊢
  obtain ⟨D, hD⟩ : ∃ D, D = cyc (W ++ [v]) := ⟨_, rfl⟩
  rw [← hD] at hcw hS hlen2 ⊢
  clear hC hD hp
  obtain ⟨Y, hY⟩ : ∃ Y, (w.alloc (.cells (ic C) 92)).alloc (.cells (ic (List.replicate 13 0)) 92) = Y := ⟨_, rfl⟩
  have z1 : At Y w.heap.size 92 (ic C) := by rw [← hY]; exact (At.new w _ _).alloc _
  have z2 : At Y (w.heap.size + 1) 92 (ic (List.replicate 13 0)) := by rw [← hY]; exact At.new2 w _ _ _
  have hk : Keeps w Y := by rw [← hY]; exact Keeps.alloc (Keeps.alloc (Below.refl _ _) _) _
  go_enter Try.func67, Try.ntmps67
  go_upto_region 1 with fail
  change Code.wp _ _ _ _ ((w.alloc (.cells (ic C) 92)).alloc (.cells (ic (List.replicate 13 0)) 92))
  rw [hY]
  have c0 := z1.int 0 (by omega)
  rw [hc0] at c0
  have cP := z1.int (1 + p) (by omega)
  have fP := z1.frozen (1 + p)
  have hpI : (p : Int) < 12 := by omega
  clear hY
  go_upto_region 2 with fail
  have y1 := z1.set (1 + p) (.int .i64 v)
  rw [ic_set] at y1
  have y2 := z2.far (p := ⟨w.heap.size, 1 + p, none⟩) (by simp) (.int .i64 v)
  have hk1 := Below.setCell (p := ⟨w.heap.size, 1 + p, none⟩) hk (by simp) (.int .i64 v)
  have hc1 : nth (C.set (1 + p) (v : Int)) 0 = p := by rw [nth_set_ne _ _ _ _ (by omega), hc0]
  have hl1 : (C.set (1 + p) (v : Int)).length = 13 := by rw [List.length_set, hlen]
  generalize C.set (1 + p) (v : Int) = C1 at *
  generalize Y.setCell ⟨w.heap.size, 1 + p, none⟩ (.int .i64 v) = Y1 at *
  clear c0 cP fP z1 z2 hk
  have c0 := y1.int 0 (by omega)
  rw [hc1] at c0
  have f0 := y1.frozen 0
  go_upto_region 3 with fail
  have x1 := y1.set 0 (.int .i64 ((p : Int) + 1))
  rw [ic_set, hcw] at x1
  have x2 := y2.far (p := ⟨w.heap.size, 0, none⟩) (by simp) (.int .i64 ((p : Int) + 1))
  have hk2 := Below.setCell (p := ⟨w.heap.size, 0, none⟩) hk1 (by simp) (.int .i64 ((p : Int) + 1))
  generalize Y1.setCell ⟨w.heap.size, 0, none⟩ (.int .i64 ((p : Int) + 1)) = Y2 at *
  clear c0 f0 y1 y2 hk1 hc1 hl1
  go_wp2_with (first
    | (refine wpList_load_row rfl 92 _ rfl _ rfl 92 _ _ _ x1 Try.underlying92 rfl hS ?_)
    | (refine wpList_store_row rfl 92 _ _ rfl (w.heap.size + 1) (ic D) rfl rfl 92 (ic (List.replicate 13 0)) x2 hS (by rw [ic_size, ic_size, hlen2]; rfl) (ic_one _) ?_))
  refine bodyPost_ret (results_cell_row Try.results67 _ _ (w.heap.size + 1) _ _ _ _ rfl (x2.row (ic D)) Try.underlying92 rfl hS) rfl ⟨rfl, below_row hk2 (by simp) _⟩
end Go.Proofs.Ytngonghgkeobhaa
