/- The plain words of numbers of the golden base; the walks of isCoordinate, isNumber, plus, minus, times, mateOf, normOf, signedSquare, timesW, overW, position. -/
import Derived.Test.YtfekggmdhmkemaaDoorCa
import Derived.Test.YtfekggmdhmkemaaDoorRows
import Derived.WalkKit
import Derived.WalkSpells
import Derived.WalkLawsBesides
import Derived.Deep.QuietTactic
import Derived.BigQuiet
import Derived.Lib.Hide
import Derived.StillTailTactics
import Derived.IntWalk
import Derived.Outline
namespace Go.Proofs.YtfekggmdhmkemaaDoor
open Go.RowKit
set_option linter.unusedVariables false
set_option linter.unusedSimpArgs false

/-- A small number: far from where ints end. -/
def sm (B n : Int) : Prop := -B ≤ n ∧ n ≤ B
/-- 'n is a coordinate', 'a + b w is a number'. -/
def cooB (n : Int) : Bool := decide (-1000000 ≤ n) && decide (n ≤ 1000000)
def numB (a b : Int) : Bool := cooB a && cooB b
theorem cooB_iff (n : Int) : cooB n = true ↔ -1000000 ≤ n ∧ n ≤ 1000000 := by simp [cooB]
theorem numB_iff (a b : Int) : numB a b = true ↔ (-1000000 ≤ a ∧ a ≤ 1000000) ∧ -1000000 ≤ b ∧ b ≤ 1000000 := by simp [numB, cooB_iff]
theorem sizeG (a b : Int) : (Tryd.prog.info? 24).map (·.size) = some (#[Value.int .i64 a, .int .i64 b] : Array Value).size := by
  show _ = some 2; kernel_rfl
theorem oneG (a b : Int) : (#[Value.int .i64 a, .int .i64 b] : Array Value).all (·.oneCell') = true := by simp [Value.oneCell']
theorem At.new3 (w : World) (o o' : Obj) (t : TypeId) (cs : Array Value) : At (((w.alloc o).alloc o').alloc (.cells cs t)) (w.heap.size + 1 + 1) t cs := by
  have := At.new ((w.alloc o).alloc o') t cs
  simpa using this

theorem isCoordinate_c (n : Int) (w : World) : Calls Tryd.prog 53 #[.int .i64 n] w fun e w' => e = .returned (.bool (cooB n)) ∧ w = w' := by
  unfold cooB
  by_cases h1 : -1000000 ≤ n
  · have d1 : decide (-1000000 ≤ n) = true := by simpa using h1
    go_enter Tryd.func53, Tryd.ntmps53
    go_wp2_with fail
    go_ret
    refine ⟨ret_bool ?_, rfl⟩
    simp [h1]
  · have d1 : decide (-1000000 ≤ n) = false := by simpa using h1
    go_enter Tryd.func53, Tryd.ntmps53
    go_wp2_with fail
    go_ret
    refine ⟨ret_bool ?_, rfl⟩
    simp [h1]

set_option maxHeartbeats 1000000 in
theorem isNumber_c (a b : Int) (w : World) : Calls Tryd.prog 38 #[.agg #[.int .i64 a, .int .i64 b]] w fun e w' => e = .returned (.bool (numB a b)) ∧ w.alloc (.cells #[.int .i64 a, .int .i64 b] 24) = w' := by
  unfold numB
  cases hd : cooB a
  · have H := Lib.hid hd
    have c1 := fun x => isCoordinate_c a x
    rw [hd] at c1
    clear hd
    go_enter Tryd.func38, Tryd.ntmps38
    go_wp2_with ((go_at_call 53; refine (c1 _).mono ?_; rintro e w1 ⟨rfl, rfl⟩))
    go_ret
    exact ⟨rfl, rfl⟩
  · have H := Lib.hid hd
    have c1 := fun x => isCoordinate_c a x
    rw [hd] at c1
    clear hd
    go_enter Tryd.func38, Tryd.ntmps38
    go_wp2_with (first
      | (go_at_call 53; (with_reducible refine (c1 _).mono ?_); rintro e w1 ⟨rfl, rfl⟩)
      | (go_at_call 53; (with_reducible refine (isCoordinate_c b _).mono ?_); rintro e w1 ⟨rfl, rfl⟩))
    go_ret
    exact ⟨rfl, rfl⟩

theorem sm_mul (A B a b : Int) (ha : sm A a) (hb : sm B b) (hA : 0 ≤ A) (hB : 0 ≤ B) : sm (A * B) (a * b) := by
  unfold sm at *
  have h1 : a.natAbs ≤ A.natAbs := by omega
  have h2 : b.natAbs ≤ B.natAbs := by omega
  have h3 := Nat.mul_le_mul h1 h2
  rw [← Int.natAbs_mul, ← Int.natAbs_mul] at h3
  have h4 : 0 ≤ A * B := Int.mul_nonneg hA hB
  omega
theorem sm_mono {A B n : Int} (h : sm A n) (hab : A ≤ B) : sm B n := by unfold sm at *; omega
set_option maxHeartbeats 1000000 in
theorem minus_c (a b c d : Int) (ha : sm 1000000000000 a) (hb : sm 1000000000000 b) (hc : sm 1000000000000 c) (hd : sm 1000000000000 d) (w : World) :
    Calls Tryd.prog 46 #[.agg #[.int .i64 a, .int .i64 b], .agg #[.int .i64 c, .int .i64 d]] w fun e w' => e = .returned (.agg #[.int .i64 (a - c), .int .i64 (b - d)]) ∧ Keeps w w' := by
  have ha2 := ha
  unfold sm at ha2
  obtain ⟨a1, a2⟩ := ha2
  have hb2 := hb
  unfold sm at hb2
  obtain ⟨b1, b2⟩ := hb2
  have hc2 := hc
  unfold sm at hc2
  obtain ⟨c1, c2⟩ := hc2
  have hd2 := hd
  unfold sm at hd2
  obtain ⟨d1, d2⟩ := hd2
  have hX := At.new3 w (.cells #[.int .i64 a, .int .i64 b] 24) (.cells #[.int .i64 c, .int .i64 d] 24) 24 #[.int .i64 0, .int .i64 0]
  have hk : Keeps w (((w.alloc (.cells #[.int .i64 a, .int .i64 b] 24)).alloc (.cells #[.int .i64 c, .int .i64 d] 24)).alloc (.cells #[.int .i64 0, .int .i64 0] 24)) := Keeps.alloc (Keeps.alloc (Keeps.alloc (Below.refl _ _) _) _) _
  go_enter Tryd.func46, Tryd.ntmps46
  go_wp2_with (refine wpList_store_row rfl 24 _ _ rfl (w.heap.size + 1 + 1) #[.int .i64 (a - c), .int .i64 (b - d)] rfl rfl 24 #[.int .i64 0, .int .i64 0] hX (sizeG _ _) rfl (oneG _ _) ?_)
  have h3 := hX.row #[.int .i64 (a - c), .int .i64 (b - d)]
  refine bodyPost_ret (results_cell_row Tryd.results46 _ _ (w.heap.size + 1 + 1) _ _ _ _ rfl h3 Tryd.underlying24 rfl (sizeG _ _)) rfl ⟨rfl, below_row hk (by omega) _⟩
set_option maxHeartbeats 1000000 in
theorem plus_c (a b c d : Int) (ha : sm 1000000000000 a) (hb : sm 1000000000000 b) (hc : sm 1000000000000 c) (hd : sm 1000000000000 d) (w : World) :
    Calls Tryd.prog 32 #[.agg #[.int .i64 a, .int .i64 b], .agg #[.int .i64 c, .int .i64 d]] w fun e w' => e = .returned (.agg #[.int .i64 (a + c), .int .i64 (b + d)]) ∧ Keeps w w' := by
  have ha2 := ha
  unfold sm at ha2
  obtain ⟨a1, a2⟩ := ha2
  have hb2 := hb
  unfold sm at hb2
  obtain ⟨b1, b2⟩ := hb2
  have hc2 := hc
  unfold sm at hc2
  obtain ⟨c1, c2⟩ := hc2
  have hd2 := hd
  unfold sm at hd2
  obtain ⟨d1, d2⟩ := hd2
  have hX := At.new3 w (.cells #[.int .i64 a, .int .i64 b] 24) (.cells #[.int .i64 c, .int .i64 d] 24) 24 #[.int .i64 0, .int .i64 0]
  have hk : Keeps w (((w.alloc (.cells #[.int .i64 a, .int .i64 b] 24)).alloc (.cells #[.int .i64 c, .int .i64 d] 24)).alloc (.cells #[.int .i64 0, .int .i64 0] 24)) := Keeps.alloc (Keeps.alloc (Keeps.alloc (Below.refl _ _) _) _) _
  go_enter Tryd.func32, Tryd.ntmps32
  go_wp2_with (refine wpList_store_row rfl 24 _ _ rfl (w.heap.size + 1 + 1) #[.int .i64 (a + c), .int .i64 (b + d)] rfl rfl 24 #[.int .i64 0, .int .i64 0] hX (sizeG _ _) rfl (oneG _ _) ?_)
  have h3 := hX.row #[.int .i64 (a + c), .int .i64 (b + d)]
  refine bodyPost_ret (results_cell_row Tryd.results32 _ _ (w.heap.size + 1 + 1) _ _ _ _ rfl h3 Tryd.underlying24 rfl (sizeG _ _)) rfl ⟨rfl, below_row hk (by omega) _⟩
set_option maxHeartbeats 1000000 in
theorem times_c (a b c d : Int) (ha : sm 1000000000 a) (hb : sm 1000000000 b) (hc : sm 1000000000 c) (hd : sm 1000000000 d) (w : World) :
    Calls Tryd.prog 41 #[.agg #[.int .i64 a, .int .i64 b], .agg #[.int .i64 c, .int .i64 d]] w fun e w' => e = .returned (.agg #[.int .i64 (a * c + b * d), .int .i64 (a * d + b * c + b * d)]) ∧ Keeps w w' := by
  have ha2 := ha
  unfold sm at ha2
  obtain ⟨a1, a2⟩ := ha2
  have hb2 := hb
  unfold sm at hb2
  obtain ⟨b1, b2⟩ := hb2
  have hc2 := hc
  unfold sm at hc2
  obtain ⟨c1, c2⟩ := hc2
  have hd2 := hd
  unfold sm at hd2
  obtain ⟨d1, d2⟩ := hd2
  have m1 := sm_mul 1000000000 1000000000 a c ha hc (by decide) (by decide)
  have m2 := sm_mul 1000000000 1000000000 b d hb hd (by decide) (by decide)
  have m3 := sm_mul 1000000000 1000000000 a d ha hd (by decide) (by decide)
  have m4 := sm_mul 1000000000 1000000000 b c hb hc (by decide) (by decide)
  unfold sm at m1 m2 m3 m4
  obtain ⟨m11, m12⟩ := m1
  obtain ⟨m21, m22⟩ := m2
  obtain ⟨m31, m32⟩ := m3
  obtain ⟨m41, m42⟩ := m4
  have q1 : IntKind.i64.wrap (a * c) = a * c := IntWalk.i64_in _ (by omega)
  have q2 : IntKind.i64.wrap (b * d) = b * d := IntWalk.i64_in _ (by omega)
  have q3 : IntKind.i64.wrap (a * d) = a * d := IntWalk.i64_in _ (by omega)
  have q4 : IntKind.i64.wrap (b * c) = b * c := IntWalk.i64_in _ (by omega)
  have q5 : IntKind.i64.wrap (a * c + b * d) = a * c + b * d := IntWalk.i64_in _ (by omega)
  have q6 : IntKind.i64.wrap (a * d + b * c) = a * d + b * c := IntWalk.i64_in _ (by omega)
  have q7 : IntKind.i64.wrap (a * d + b * c + b * d) = a * d + b * c + b * d := IntWalk.i64_in _ (by omega)
  clear m11 m12 m21 m22 m31 m32 m41 m42
  have hX := At.new3 w (.cells #[.int .i64 a, .int .i64 b] 24) (.cells #[.int .i64 c, .int .i64 d] 24) 24 #[.int .i64 0, .int .i64 0]
  have hk : Keeps w (((w.alloc (.cells #[.int .i64 a, .int .i64 b] 24)).alloc (.cells #[.int .i64 c, .int .i64 d] 24)).alloc (.cells #[.int .i64 0, .int .i64 0] 24)) := Keeps.alloc (Keeps.alloc (Keeps.alloc (Below.refl _ _) _) _) _
  go_enter Tryd.func41, Tryd.ntmps41
  go_wp2_with (refine wpList_store_row rfl 24 _ _ rfl (w.heap.size + 1 + 1) #[.int .i64 (a * c + b * d), .int .i64 (a * d + b * c + b * d)] rfl rfl 24 #[.int .i64 0, .int .i64 0] hX (sizeG _ _) rfl (oneG _ _) ?_)
  have h3 := hX.row #[.int .i64 (a * c + b * d), .int .i64 (a * d + b * c + b * d)]
  refine bodyPost_ret (results_cell_row Tryd.results41 _ _ (w.heap.size + 1 + 1) _ _ _ _ rfl h3 Tryd.underlying24 rfl (sizeG _ _)) rfl ⟨rfl, below_row hk (by omega) _⟩
set_option maxHeartbeats 1000000 in
theorem mateOf_c (a b : Int) (ha : sm 1000000000000 a) (hb : sm 1000000000000 b) (w : World) :
    Calls Tryd.prog 47 #[.agg #[.int .i64 a, .int .i64 b]] w fun e w' => e = .returned (.agg #[.int .i64 (a + b), .int .i64 (-b)]) ∧ Keeps w w' := by
  have ha2 := ha
  unfold sm at ha2
  obtain ⟨a1, a2⟩ := ha2
  have hb2 := hb
  unfold sm at hb2
  obtain ⟨b1, b2⟩ := hb2
  have hX := At.new2 w (.cells #[.int .i64 a, .int .i64 b] 24) 24 #[.int .i64 0, .int .i64 0]
  have hk : Keeps w ((w.alloc (.cells #[.int .i64 a, .int .i64 b] 24)).alloc (.cells #[.int .i64 0, .int .i64 0] 24)) := Keeps.alloc (Keeps.alloc (Below.refl _ _) _) _
  go_enter Tryd.func47, Tryd.ntmps47
  go_wp2_with (refine wpList_store_row rfl 24 _ _ rfl (w.heap.size + 1) #[.int .i64 (a + b), .int .i64 (-b)] rfl rfl 24 #[.int .i64 0, .int .i64 0] hX (sizeG _ _) rfl (oneG _ _) ?_)
  have h3 := hX.row #[.int .i64 (a + b), .int .i64 (-b)]
  refine bodyPost_ret (results_cell_row Tryd.results47 _ _ (w.heap.size + 1) _ _ _ _ rfl h3 Tryd.underlying24 rfl (sizeG _ _)) rfl ⟨rfl, below_row hk (by omega) _⟩
set_option maxHeartbeats 1000000 in
theorem timesW_c (a b : Int) (ha : sm 1000000000000 a) (hb : sm 1000000000000 b) (w : World) :
    Calls Tryd.prog 74 #[.agg #[.int .i64 a, .int .i64 b]] w fun e w' => e = .returned (.agg #[.int .i64 (b), .int .i64 (a + b)]) ∧ Keeps w w' := by
  have ha2 := ha
  unfold sm at ha2
  obtain ⟨a1, a2⟩ := ha2
  have hb2 := hb
  unfold sm at hb2
  obtain ⟨b1, b2⟩ := hb2
  have hX := At.new2 w (.cells #[.int .i64 a, .int .i64 b] 24) 24 #[.int .i64 0, .int .i64 0]
  have hk : Keeps w ((w.alloc (.cells #[.int .i64 a, .int .i64 b] 24)).alloc (.cells #[.int .i64 0, .int .i64 0] 24)) := Keeps.alloc (Keeps.alloc (Below.refl _ _) _) _
  go_enter Tryd.func74, Tryd.ntmps74
  go_wp2_with (refine wpList_store_row rfl 24 _ _ rfl (w.heap.size + 1) #[.int .i64 (b), .int .i64 (a + b)] rfl rfl 24 #[.int .i64 0, .int .i64 0] hX (sizeG _ _) rfl (oneG _ _) ?_)
  have h3 := hX.row #[.int .i64 (b), .int .i64 (a + b)]
  refine bodyPost_ret (results_cell_row Tryd.results74 _ _ (w.heap.size + 1) _ _ _ _ rfl h3 Tryd.underlying24 rfl (sizeG _ _)) rfl ⟨rfl, below_row hk (by omega) _⟩
set_option maxHeartbeats 1000000 in
theorem overW_c (a b : Int) (ha : sm 1000000000000 a) (hb : sm 1000000000000 b) (w : World) :
    Calls Tryd.prog 56 #[.agg #[.int .i64 a, .int .i64 b]] w fun e w' => e = .returned (.agg #[.int .i64 (b - a), .int .i64 (a)]) ∧ Keeps w w' := by
  have ha2 := ha
  unfold sm at ha2
  obtain ⟨a1, a2⟩ := ha2
  have hb2 := hb
  unfold sm at hb2
  obtain ⟨b1, b2⟩ := hb2
  have hX := At.new2 w (.cells #[.int .i64 a, .int .i64 b] 24) 24 #[.int .i64 0, .int .i64 0]
  have hk : Keeps w ((w.alloc (.cells #[.int .i64 a, .int .i64 b] 24)).alloc (.cells #[.int .i64 0, .int .i64 0] 24)) := Keeps.alloc (Keeps.alloc (Below.refl _ _) _) _
  go_enter Tryd.func56, Tryd.ntmps56
  go_wp2_with (refine wpList_store_row rfl 24 _ _ rfl (w.heap.size + 1) #[.int .i64 (b - a), .int .i64 (a)] rfl rfl 24 #[.int .i64 0, .int .i64 0] hX (sizeG _ _) rfl (oneG _ _) ?_)
  have h3 := hX.row #[.int .i64 (b - a), .int .i64 (a)]
  refine bodyPost_ret (results_cell_row Tryd.results56 _ _ (w.heap.size + 1) _ _ _ _ rfl h3 Tryd.underlying24 rfl (sizeG _ _)) rfl ⟨rfl, below_row hk (by omega) _⟩
set_option maxHeartbeats 1000000 in
theorem normOf_c (a b : Int) (ha : sm 1000000000 a) (hb : sm 1000000000 b) (w : World) :
    Calls Tryd.prog 48 #[.agg #[.int .i64 a, .int .i64 b]] w fun e w' => e = .returned (.int .i64 (a * a + a * b - b * b)) ∧ w.alloc (.cells #[.int .i64 a, .int .i64 b] 24) = w' := by
  have m1 := sm_mul 1000000000 1000000000 a a ha ha (by decide) (by decide)
  have m2 := sm_mul 1000000000 1000000000 a b ha hb (by decide) (by decide)
  have m3 := sm_mul 1000000000 1000000000 b b hb hb (by decide) (by decide)
  unfold sm at m1 m2 m3
  have q1 : IntKind.i64.wrap (a * a) = a * a := IntWalk.i64_in _ (by omega)
  have q2 : IntKind.i64.wrap (a * b) = a * b := IntWalk.i64_in _ (by omega)
  have q3 : IntKind.i64.wrap (b * b) = b * b := IntWalk.i64_in _ (by omega)
  have q4 : IntKind.i64.wrap (a * a + a * b) = a * a + a * b := IntWalk.i64_in _ (by omega)
  have q5 : IntKind.i64.wrap (a * a + a * b - b * b) = a * a + a * b - b * b := IntWalk.i64_in _ (by omega)
  clear m1 m2 m3
  go_enter Tryd.func48, Tryd.ntmps48
  go_wp2_with fail
  go_ret
  exact ⟨rfl, rfl⟩
theorem position_c (a b : Int) (ha : sm 1000000000000 a) (hb : sm 1000000000000 b) (w : World) :
    Calls Tryd.prog 79 #[.agg #[.int .i64 a, .int .i64 b]] w fun e w' => e = .returned (.int .i64 (a + 2 * b)) ∧ w.alloc (.cells #[.int .i64 a, .int .i64 b] 24) = w' := by
  unfold sm at ha hb
  obtain ⟨a1, a2⟩ := ha
  obtain ⟨b1, b2⟩ := hb
  go_enter Tryd.func79, Tryd.ntmps79
  go_wp2_with fail
  go_ret
  exact ⟨rfl, rfl⟩
/-- A number's square with its sign. -/
def ssq (n : Int) : Int := if n < 0 then -n * n else n * n
theorem ssq_sm (n : Int) (h : sm 3000000000 n) : sm 9000000000000000000 (ssq n) := by
  have := sm_mul _ _ n n h h (by decide) (by decide)
  unfold ssq
  split
  · unfold sm at *; rw [Int.neg_mul]; omega
  · exact this
theorem signedSquare_c (n : Int) (h : sm 3000000000 n) (w : World) : Calls Tryd.prog 60 #[.int .i64 n] w fun e w' => e = .returned (.int .i64 (ssq n)) ∧ w' = w := by
  have hq := ssq_sm n h
  unfold sm at h hq
  obtain ⟨h1, h2⟩ := h
  unfold ssq at hq ⊢
  by_cases hn : n < 0
  · rw [if_pos hn] at hq ⊢
    have q1 : IntKind.i64.wrap (-n) = -n := IntWalk.i64_in _ (by omega)
    have q2 : IntKind.i64.wrap (-n * n) = -n * n := IntWalk.i64_in _ (by omega)
    clear hq
    go_enter Tryd.func60, Tryd.ntmps60
    go_wp2_with fail
    go_ret
    exact ⟨ret_int rfl, rfl⟩
  · rw [if_neg hn] at hq ⊢
    have q2 : IntKind.i64.wrap (n * n) = n * n := IntWalk.i64_in _ (by omega)
    have hd : decide (n < 0) = false := by simpa using hn
    clear hq hn
    go_enter Tryd.func60, Tryd.ntmps60
    go_wp2_with fail
    go_ret
    exact ⟨ret_int rfl, rfl⟩
end Go.Proofs.YtfekggmdhmkemaaDoor
