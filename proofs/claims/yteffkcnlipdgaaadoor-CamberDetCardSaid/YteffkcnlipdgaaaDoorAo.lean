/- The law's awake. -/
import Derived.Test.YteffkcnlipdgaaaDoorAn
namespace Go.Proofs.YteffkcnlipdgaaaDoor
open Go.RowKit
set_option linter.unusedVariables false
set_option linter.unusedSimpArgs false

theorem tri125 : trB 1 2 5 = true := by decide
theorem tri2529 : trB 2 5 29 = true := by decide
theorem chl125 : chl (1, 2, 5) = [(2, 5, 29), (1, 5, 13)] := by decide
theorem pth2529 : pth (2, 5, 29) = [76] := by decide
theorem wrdL : wrd [76] = [97, 98, 98] := by decide
theorem matabb : matF (1, 0, 0, 1) [97, 98, 98] = some (70, 29, 41, 17) := by decide
theorem form125 : formT 1 2 5 = (5, 11, -5) := by decide
theorem rd_two (w : World) (a b : Ed) : RdE (w.alloc (.cells #[.int .i64 a.1, .int .i64 a.2.1, .int .i64 a.2.2, .int .i64 b.1, .int .i64 b.2.1, .int .i64 b.2.2] 22)) (.slice (some ⟨w.heap.size, 0, none⟩) 2 2) [a, b] := by
  have h := At.new w 22 #[.int .i64 a.1, .int .i64 a.2.1, .int .i64 a.2.2, .int .i64 b.1, .int .i64 b.2.1, .int .i64 b.2.2]
  refine ⟨_, 2, rfl, by simp [maxLen], fun k x hk => ?_⟩
  match k with
  | 0 => cases hk; exact ⟨_, 0, rfl, (h.cell 0).trans rfl, (h.cell 1).trans rfl, (h.cell 2).trans rfl⟩
  | 1 => cases hk; exact ⟨_, 0, rfl, (h.cell 3).trans rfl, (h.cell 4).trans rfl, (h.cell 5).trans rfl⟩
  | n + 2 => simp at hk
theorem eq_form (W : World) : (Op.equalIn 10000 22 (.agg #[.int .i64 5, .int .i64 11, .int .i64 (-5)]) (.agg #[.int .i64 5, .int .i64 11, .int .i64 (-5)])).run Tryd.prog W = .ok true W := eq3_arr 5 11 (-5) 5 11 (-5) W
theorem eq_mat (W : World) : (Op.equalIn 10000 45 (.agg #[.int .i64 70, .int .i64 29, .int .i64 41, .int .i64 17]) (.agg #[.int .i64 70, .int .i64 29, .int .i64 41, .int .i64 17])).run Tryd.prog W = .ok true W := by kernel_rfl
set_option maxHeartbeats 4000000 in
set_option maxRecDepth 20000 in
theorem awake_c (w : World) : Calls Tryd.prog 12 #[] w fun e w' => e = .returned (.bool true) ∧ Keeps w w' := by
  have cC := fun W => Children_yes 1 2 5 tri125 W
  rw [chl125] at cC
  have cP := fun W => Path_yes 2 5 29 tri2529 (by decide) W
  rw [pth2529] at cP
  have cW := fun W => Word_yes ⟨#[76]⟩ (by decide) (by decide) W
  rw [wrdL] at cW
  have cM : ∀ W, Calls Tryd.prog 23 #[.string ⟨#[97, 98, 98]⟩] W fun e w' => e = .returned (.tuple #[.agg #[.int .i64 70, .int .i64 29, .int .i64 41, .int .i64 17], .int .i64 0]) ∧ Keeps W w' := fun W => by
    have := Matrix_c ⟨#[97, 98, 98]⟩ (by decide) W
    rw [show matF (1, 0, 0, 1) (ByteArray.mk #[97, 98, 98]).data.toList = _ from matabb] at this
    exact this
  have cF := fun W => Form_yes 1 2 5 tri125 (by decide) W
  rw [form125] at cF
  have cS : ∀ (A B : Option Addr) (c d : Nat) W, RdE W (.slice A 2 c) [(2, 5, 29), (1, 5, 13)] → RdE W (.slice B 2 d) [(2, 5, 29), (1, 5, 13)] → Calls Tryd.prog 29 #[.slice A 2 c, .slice B 2 d] W fun e w' => e = .returned (.bool true) ∧ Keeps W w' := fun A B c d W h1 h2 => same_c A B c d [(2, 5, 29), (1, 5, 13)] [(2, 5, 29), (1, 5, 13)] W h1 h2
  have em := eq_mat
  have ef := eq_form
  simp only [ev] at cF
  go_enter Tryd.func12, Tryd.ntmps12
  go_upto_region 6 with (first
    | (go_at_call 20; refine (cC _).mono ?_; rintro e w1 ⟨v, rfl, ho, h1⟩; obtain ⟨A, c, hs, hm, hc⟩ := id (own_edges ho (by unfold maxLen; decide)); subst hs; have hrd := own_edges ho (by unfold maxLen; decide); clear hc hm ho)
    | (go_at_call 19; refine (cP _).mono ?_; rintro e w2 ⟨rfl, h2⟩; have hrd2 := hrd.below h2; have k2 := Keeps.next h1 h2)
    | (go_at_call 28; refine (cW _).mono ?_; rintro e w3 ⟨rfl, h3⟩; have hrd3 := hrd2.below h3; have k3 := Keeps.next k2 h3)
    | (go_at_call 23; refine (cM _).mono ?_; rintro e w4 ⟨rfl, h4⟩; have hrd4 := hrd3.below h4; have k4 := Keeps.next k3 h4)
    | (go_at_call 18; refine (cF _).mono ?_; rintro e w5 ⟨rfl, h5⟩; have hrd5 := hrd4.below (Keeps.next (Keeps.alloc (Below.refl _ _) _) h5); have k5 := Keeps.next (Keeps.alloc k4 _) h5; have hm7 := (At.new w4 45 #[.int .i64 70, .int .i64 29, .int .i64 41, .int .i64 17]).later h5))
  have hm9 := hm7.alloc (.cells #[.int .i64 5, .int .i64 11, .int .i64 (-5)] 22)
  have hf9 := At.new w5 22 #[.int .i64 5, .int .i64 11, .int .i64 (-5)]
  have hrd9 := hrd5.below (Keeps.alloc (Below.refl _ _) (.cells #[.int .i64 5, .int .i64 11, .int .i64 (-5)] 22))
  have k9 : Keeps w (w5.alloc (.cells #[.int .i64 5, .int .i64 11, .int .i64 (-5)] 22)) := Keeps.alloc k5 _
  generalize w5.alloc (.cells #[.int .i64 5, .int .i64 11, .int .i64 (-5)] 22) = X at *
  generalize w4.heap.size = g7 at *
  generalize w5.heap.size = g9 at *
  have hr2 := rd_two X (2, 5, 29) (1, 5, 13)
  have cS1 := cS _ _ _ _ _ (hrd9.below (Keeps.alloc (Below.refl _ _) _)) hr2
  have Hm9 := Lib.hid hm9
  have Hf9 := Lib.hid hf9
  clear hm9 hf9 hrd hrd2 hrd3 hrd4 hrd5 hm7 hrd9 cS hr2 h1 h2 h3 h4 h5 k2 k3 k4 k5 cC cP cW cM cF
  go_wp2_with (go_at_call 29; refine cS1.mono ?_; rintro e w6 ⟨rfl, h6⟩; have a7 := (Hm9.out.alloc (.cells #[.int .i64 2, .int .i64 5, .int .i64 29, .int .i64 1, .int .i64 5, .int .i64 13] 22)).later h6; have p1 := (row_mv (m := (70, 29, 41, 17)) a7).1; have p2 := (row_mv (m := (70, 29, 41, 17)) a7).2.1; have p3 := (row_mv (m := (70, 29, 41, 17)) a7).2.2.1; have p4 := (row_mv (m := (70, 29, 41, 17)) a7).2.2.2; have a9 := (Hf9.out.alloc (.cells #[.int .i64 2, .int .i64 5, .int .i64 29, .int .i64 1, .int .i64 5, .int .i64 13] 22)).later h6; have q1 := (row_six a9).1; have q2 := (row_six a9).2.1; have q3 := (row_six a9).2.2.1; clear a7 a9)
  go_ret
  exact ⟨rfl, Keeps.next (Keeps.alloc k9 _) h6⟩
end Go.Proofs.YteffkcnlipdgaaaDoor
