/- The law GaugeTexts. -/
import Derived.Test.YtdhhnnbcmddcaaaDoorZk
import Derived.Test.YtdhhnnbcmddcaaaDoorGq
import Derived.Test.YtdhhnnbcmddcaaaDoorGp
namespace Go.Proofs.YtdhhnnbcmddcaaaDoor
open Go.RowKit
set_option linter.unusedVariables false
set_option linter.unusedSimpArgs false

set_option maxHeartbeats 4000000 in
set_option maxRecDepth 100000 in
theorem Text_x (x : Int × Int) (hx : numB x.1 x.2 = false) (w : World) :
    Calls Tryd.prog 16 #[.agg (gv x)] w fun e w' => e = .returned (.tuple #[.string ⟨#[]⟩, .int .i64 2]) ∧ Keeps w w' := by
  have c1 := fun z => isNumber_v x z
  rw [hx] at c1
  clear hx
  obtain ⟨W, hW⟩ : ∃ W, w.alloc (.cells #[.int .i64 x.1, .int .i64 x.2] 23) = W := ⟨_, rfl⟩
  have a0 : At W w.heap.size 23 (gv x) := by rw [← hW]; exact At.new w _ _
  have k0 : Keeps w W := by rw [← hW]; exact Keeps.alloc (Below.refl _ _) _
  have HW := Lib.hid hW
  clear hW
  change Calls Tryd.prog 16 #[.agg #[.int .i64 x.1, .int .i64 x.2]] w _
  go_enter Tryd.func16, Tryd.ntmps16
  go_upto_region 1 with fail
  rw [HW.out]
  clear HW
  go_wp2_with (first
    | (refine load_row_w rfl 23 _ rfl _ rfl 23 _ _ _ a0 Tryd.underlying23 rfl (sizeV _) ?_)
    | (refine load_row_w rfl 23 _ rfl _ rfl 23 _ _ _ a1 Tryd.underlying23 rfl (sizeV _) ?_)
    | (go_at_call 24
       (with_reducible refine (c1 _).mono ?_)
       rintro e w1 ⟨rfl, b1⟩
       have a1 := a0.later b1
       have k1 := Keeps.next k0 b1
       clear c1 a0 k0))
  go_ret2
  exact ⟨rfl, k1⟩
set_option maxHeartbeats 4000000 in
set_option maxRecDepth 100000 in
theorem Text_neg (x : Int × Int) (hx : numB x.1 x.2 = true) (h : ¬ nn x) (w : World) :
    Calls Tryd.prog 16 #[.agg (gv x)] w fun e w' => e = .returned (.tuple #[.string ⟨#[]⟩, .int .i64 2]) ∧ Keeps w w' := by
  have c1 := fun z => isNumber_v x z
  rw [hx] at c1
  have c2 := fun z => sign_v x (sm2_mono (sm2_of hx) (by decide)) z
  have d1 : decide (sgn x.1 x.2 < 0) = true := decide_eq_true (by unfold nn at h; omega)
  clear hx h
  generalize sgn x.1 x.2 = sg at *
  obtain ⟨W, hW⟩ : ∃ W, w.alloc (.cells #[.int .i64 x.1, .int .i64 x.2] 23) = W := ⟨_, rfl⟩
  have a0 : At W w.heap.size 23 (gv x) := by rw [← hW]; exact At.new w _ _
  have k0 : Keeps w W := by rw [← hW]; exact Keeps.alloc (Below.refl _ _) _
  have HW := Lib.hid hW
  clear hW
  change Calls Tryd.prog 16 #[.agg #[.int .i64 x.1, .int .i64 x.2]] w _
  go_enter Tryd.func16, Tryd.ntmps16
  go_upto_region 1 with fail
  rw [HW.out]
  clear HW
  go_wp2_with (first
    | (refine load_row_w rfl 23 _ rfl _ rfl 23 _ _ _ a0 Tryd.underlying23 rfl (sizeV _) ?_)
    | (refine load_row_w rfl 23 _ rfl _ rfl 23 _ _ _ a1 Tryd.underlying23 rfl (sizeV _) ?_)
    | (refine load_row_w rfl 23 _ rfl _ rfl 23 _ _ _ a2 Tryd.underlying23 rfl (sizeV _) ?_)
    | (go_at_call 24
       (with_reducible refine (c1 _).mono ?_)
       rintro e w1 ⟨rfl, b1⟩
       have a1 := a0.later b1
       have k1 := Keeps.next k0 b1
       clear c1 a0 k0)
    | (go_at_call 25
       (with_reducible refine (c2 _).mono ?_)
       rintro e w2 ⟨rfl, b2⟩
       have a2 := a1.later b2
       have k2 := Keeps.next k1 b2
       clear c2 a1 k1))
  go_ret2
  exact ⟨rfl, k2⟩
set_option maxHeartbeats 4000000 in
set_option maxRecDepth 100000 in
theorem texts_x (x : Int × Int) (hx : numB x.1 x.2 = false) (w : World) :
    Calls Tryd.prog 6 #[.agg (gv x)] w fun e w' => e = .returned (.bool true) ∧ Keeps w w' := by
  have aw := fun z => awake_c z
  have c1 := fun z => Text_x x hx z
  have c2 := fun z => refNumber_v x z
  rw [hx] at c2
  clear hx
  obtain ⟨W, hW⟩ : ∃ W, w.alloc (.cells #[.int .i64 x.1, .int .i64 x.2] 23) = W := ⟨_, rfl⟩
  have a0 : At W w.heap.size 23 (gv x) := by rw [← hW]; exact At.new w _ _
  have k0 : Keeps w W := by rw [← hW]; exact Keeps.alloc (Below.refl _ _) _
  have HW := Lib.hid hW
  clear hW
  change Calls Tryd.prog 6 #[.agg #[.int .i64 x.1, .int .i64 x.2]] w _
  go_enter Tryd.func6, Tryd.ntmps6
  go_upto_region 1 with fail
  rw [HW.out]
  clear HW
  go_wp2_with (first
    | (refine load_row_w rfl 23 _ rfl _ rfl 23 _ _ _ a0 Tryd.underlying23 rfl (sizeV _) ?_)
    | (refine load_row_w rfl 23 _ rfl _ rfl 23 _ _ _ a1 Tryd.underlying23 rfl (sizeV _) ?_)
    | (refine load_row_w rfl 23 _ rfl _ rfl 23 _ _ _ a2 Tryd.underlying23 rfl (sizeV _) ?_)
    | (refine load_row_w rfl 23 _ rfl _ rfl 23 _ _ _ a3 Tryd.underlying23 rfl (sizeV _) ?_)
    | (go_at_call 16
       (with_reducible refine (c1 _).mono ?_)
       rintro e w1 ⟨rfl, b1⟩
       have a1 := a0.later b1
       have k1 := Keeps.next k0 b1
       clear c1 a0 k0)
    | (go_at_call 9
       (with_reducible refine (c2 _).mono ?_)
       rintro e w2 ⟨rfl, b2⟩
       have a2 := a1.later b2
       have k2 := Keeps.next k1 b2
       clear c2 a1 k1)
    | (go_at_call 12
       (with_reducible refine (aw _).mono ?_)
       rintro e w3 ⟨rfl, b3⟩
       have a3 := a2.later b3
       have k3 := Keeps.next k2 b3
       clear aw a2 k2))
  go_ret
  exact ⟨rfl, k3⟩
set_option maxHeartbeats 4000000 in
set_option maxRecDepth 100000 in
theorem texts_neg (x : Int × Int) (hx : numB x.1 x.2 = true) (h : ¬ nn x) (w : World) :
    Calls Tryd.prog 6 #[.agg (gv x)] w fun e w' => e = .returned (.bool true) ∧ Keeps w w' := by
  have aw := fun z => awake_c z
  have c1 := fun z => Text_neg x hx h z
  have c2 := fun z => refNumber_v x z
  have c3 := fun z => refSign_v x (sm2_mono (sm2_of hx) (by decide)) z
  have d1 : decide (sgn x.1 x.2 < 0) = true := decide_eq_true (by unfold nn at h; omega)
  rw [hx] at c2
  clear hx h
  generalize sgn x.1 x.2 = sg at *
  obtain ⟨W, hW⟩ : ∃ W, w.alloc (.cells #[.int .i64 x.1, .int .i64 x.2] 23) = W := ⟨_, rfl⟩
  have a0 : At W w.heap.size 23 (gv x) := by rw [← hW]; exact At.new w _ _
  have k0 : Keeps w W := by rw [← hW]; exact Keeps.alloc (Below.refl _ _) _
  have HW := Lib.hid hW
  clear hW
  change Calls Tryd.prog 6 #[.agg #[.int .i64 x.1, .int .i64 x.2]] w _
  go_enter Tryd.func6, Tryd.ntmps6
  go_upto_region 1 with fail
  rw [HW.out]
  clear HW
  go_wp2_with (first
    | (refine load_row_w rfl 23 _ rfl _ rfl 23 _ _ _ a0 Tryd.underlying23 rfl (sizeV _) ?_)
    | (refine load_row_w rfl 23 _ rfl _ rfl 23 _ _ _ a1 Tryd.underlying23 rfl (sizeV _) ?_)
    | (refine load_row_w rfl 23 _ rfl _ rfl 23 _ _ _ a2 Tryd.underlying23 rfl (sizeV _) ?_)
    | (refine load_row_w rfl 23 _ rfl _ rfl 23 _ _ _ a3 Tryd.underlying23 rfl (sizeV _) ?_)
    | (refine load_row_w rfl 23 _ rfl _ rfl 23 _ _ _ a4 Tryd.underlying23 rfl (sizeV _) ?_)
    | (go_at_call 16
       (with_reducible refine (c1 _).mono ?_)
       rintro e w1 ⟨rfl, b1⟩
       have a1 := a0.later b1
       have k1 := Keeps.next k0 b1
       clear c1 a0 k0)
    | (go_at_call 9
       (with_reducible refine (c2 _).mono ?_)
       rintro e w2 ⟨rfl, b2⟩
       have a2 := a1.later b2
       have k2 := Keeps.next k1 b2
       clear c2 a1 k1)
    | (go_at_call 10
       (with_reducible refine (c3 _).mono ?_)
       rintro e w3 ⟨rfl, b3⟩
       have a3 := a2.later b3
       have k3 := Keeps.next k2 b3
       clear c3 a2 k2)
    | (go_at_call 12
       (with_reducible refine (aw _).mono ?_)
       rintro e w4 ⟨rfl, b4⟩
       have a4 := a3.later b4
       have k4 := Keeps.next k3 b4
       clear aw a3 k3))
  go_ret
  exact ⟨rfl, k4⟩
set_option maxHeartbeats 4000000 in
set_option maxRecDepth 100000 in
theorem texts_yes (x : Int × Int) (hx : numB x.1 x.2 = true) (h : nn x) (w : World) :
    Calls Tryd.prog 6 #[.agg (gv x)] w fun e w' => e = .returned (.bool true) ∧ Keeps w w' := by
  have aw := fun z => awake_c z
  have c1 := fun z => Text_yes x hx h z
  have c2 := fun z => refNumber_v x z
  have c3 := fun z => refSign_v x (sm2_mono (sm2_of hx) (by decide)) z
  have c4 := fun z => refText_c x hx h z
  have d1 : decide (sgn x.1 x.2 < 0) = false := decide_eq_false (by unfold nn at h; omega)
  rw [hx] at c2
  clear hx h
  generalize sgn x.1 x.2 = sg at *
  generalize (⟨(textG x).toArray⟩ : ByteArray) = S at *
  obtain ⟨W, hW⟩ : ∃ W, w.alloc (.cells #[.int .i64 x.1, .int .i64 x.2] 23) = W := ⟨_, rfl⟩
  have a0 : At W w.heap.size 23 (gv x) := by rw [← hW]; exact At.new w _ _
  have k0 : Keeps w W := by rw [← hW]; exact Keeps.alloc (Below.refl _ _) _
  have HW := Lib.hid hW
  clear hW
  change Calls Tryd.prog 6 #[.agg #[.int .i64 x.1, .int .i64 x.2]] w _
  go_enter Tryd.func6, Tryd.ntmps6
  go_upto_region 1 with fail
  rw [HW.out]
  clear HW
  go_wp2_with (first
    | (refine load_row_w rfl 23 _ rfl _ rfl 23 _ _ _ a0 Tryd.underlying23 rfl (sizeV _) ?_)
    | (refine load_row_w rfl 23 _ rfl _ rfl 23 _ _ _ a1 Tryd.underlying23 rfl (sizeV _) ?_)
    | (refine load_row_w rfl 23 _ rfl _ rfl 23 _ _ _ a2 Tryd.underlying23 rfl (sizeV _) ?_)
    | (refine load_row_w rfl 23 _ rfl _ rfl 23 _ _ _ a3 Tryd.underlying23 rfl (sizeV _) ?_)
    | (refine load_row_w rfl 23 _ rfl _ rfl 23 _ _ _ a4 Tryd.underlying23 rfl (sizeV _) ?_)
    | (refine load_row_w rfl 23 _ rfl _ rfl 23 _ _ _ a5 Tryd.underlying23 rfl (sizeV _) ?_)
    | (go_at_call 16
       (with_reducible refine (c1 _).mono ?_)
       rintro e w1 ⟨rfl, b1⟩
       have a1 := a0.later b1
       have k1 := Keeps.next k0 b1
       clear c1 a0 k0)
    | (go_at_call 9
       (with_reducible refine (c2 _).mono ?_)
       rintro e w2 ⟨rfl, b2⟩
       have a2 := a1.later b2
       have k2 := Keeps.next k1 b2
       clear c2 a1 k1)
    | (go_at_call 10
       (with_reducible refine (c3 _).mono ?_)
       rintro e w3 ⟨rfl, b3⟩
       have a3 := a2.later b3
       have k3 := Keeps.next k2 b3
       clear c3 a2 k2)
    | (go_at_call 20
       (with_reducible refine (c4 _).mono ?_)
       rintro e w4 ⟨rfl, b4⟩
       have a4 := a3.later b4
       have k4 := Keeps.next k3 b4
       clear c4 a3 k3)
    | (go_at_call 12
       (with_reducible refine (aw _).mono ?_)
       rintro e w5 ⟨rfl, b5⟩
       have a5 := a4.later b5
       have k5 := Keeps.next k4 b5
       clear aw a4 k4))
  go_ret
  exact ⟨rfl, k5⟩
theorem law_texts (a b : Int) (w : World) :
    Calls Tryd.prog 6 #[.agg #[.int .i64 a, .int .i64 b]] w fun e w' => e = .returned (.bool true) ∧ Keeps w w' := by
  cases hx : numB a b
  · exact texts_x (a, b) hx w
  · by_cases h : nn (a, b)
    · exact texts_yes (a, b) hx h w
    · exact texts_neg (a, b) hx h w
end Go.Proofs.YtdhhnnbcmddcaaaDoor
