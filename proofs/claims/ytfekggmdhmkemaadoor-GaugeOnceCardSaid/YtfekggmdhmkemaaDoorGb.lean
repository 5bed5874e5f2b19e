/- The walks of sign, powerOf, numberOrFull, nearest. -/
import Derived.Test.YtfekggmdhmkemaaDoorGa
import Derived.Test.YtfekggmdhmkemaaDoorShelf
namespace Go.Proofs.YtfekggmdhmkemaaDoor
open Go.RowKit
set_option linter.unusedVariables false
set_option linter.unusedSimpArgs false

/-- The sign of a + b w. -/
def sgn (a b : Int) : Int := Lib.compareInt (ssq (2 * a + b)) (-5 * ssq b)
set_option maxHeartbeats 2000000 in
theorem sign_c (a b : Int) (ha : sm 1000000000 a) (hb : sm 1000000000 b) (w : World) :
    Calls Tryd.prog 44 #[.agg #[.int .i64 a, .int .i64 b]] w fun e w' => e = .returned (.int .i64 (sgn a b)) ∧ Keeps w w' := by
  have h1 : sm 3000000000 (2 * a + b) := by unfold sm at *; omega
  have h2 := ssq_sm b (sm_mono hb (by decide))
  have h5 : sm 9000000000000000000 (-5 * ssq b) := by
    have := sm_mul _ _ b b hb hb (by decide) (by decide)
    have e : ssq b = -b * b ∨ ssq b = b * b := by unfold ssq; split; exact .inl rfl; exact .inr rfl
    rw [Int.neg_mul] at e
    unfold sm at *; omega
  have s1 := fun x => signedSquare_c (2 * a + b) h1 x
  have s2 := fun x => signedSquare_c b (sm_mono hb (by decide)) x
  have cc := fun x => Tryd.cmp_Compare_int (ssq (2 * a + b)) (-5 * ssq b) x
  unfold sgn
  unfold sm at ha hb h5
  obtain ⟨a1, a2⟩ := ha
  obtain ⟨b1, b2⟩ := hb
  have q1 : IntKind.i64.wrap (2 * a) = 2 * a := IntWalk.i64_in _ (by omega)
  have q2 : IntKind.i64.wrap (2 * a + b) = 2 * a + b := IntWalk.i64_in _ (by omega)
  have q3 : IntKind.i64.wrap (-5 * ssq b) = -5 * ssq b := IntWalk.i64_in _ (by omega)
  have hk : Keeps w (w.alloc (.cells #[.int .i64 a, .int .i64 b] 24)) := Keeps.alloc (Below.refl _ _) _
  clear h1 h2 h5
  generalize ssq (2 * a + b) = s at *
  generalize ssq b = t at *
  generalize Lib.compareInt s (-5 * t) = r at *
  go_enter Tryd.func44, Tryd.ntmps44
  go_wp2_with fail
  go_quiet ((first
    | (go_at_call 60; with_reducible exact Calls.quiet_of_same (s1 _))
    | (go_at_call 60; with_reducible exact Calls.quiet_of_same (s2 _))
    | (go_at_call 59; exact Calls.quiet_of_same (cc _))))
  go_wp2_with fail
  go_ret
  exact ⟨rfl, below_drewN hk⟩

/-- The powers of w. -/
def pwN : Nat → Int × Int
  | 0 => (1, 0)
  | k + 1 => ((pwN k).2, (pwN k).1 + (pwN k).2)
def pwM : Nat → Int × Int
  | 0 => (1, 0)
  | k + 1 => ((pwM k).2 - (pwM k).1, (pwM k).1)
def pw (k : Int) : Int × Int := if 0 ≤ k then pwN k.toNat else pwM (-k).toNat
def smB (x : Int × Int) : Bool := decide (-300000000 ≤ x.1) && (decide (x.1 ≤ 300000000) && (decide (-300000000 ≤ x.2) && decide (x.2 ≤ 300000000)))
theorem pw_all : ((List.range 42).all fun k => smB (pwN k) && smB (pwM k)) = true := by decide +kernel
theorem pwN_sm (k : Nat) (h : k ≤ 41) : sm 300000000 (pwN k).1 ∧ sm 300000000 (pwN k).2 := by
  have := List.all_eq_true.1 pw_all k (by simp; omega)
  simp only [smB, Bool.and_eq_true, decide_eq_true_eq] at this
  unfold sm; omega
theorem pwM_sm (k : Nat) (h : k ≤ 41) : sm 300000000 (pwM k).1 ∧ sm 300000000 (pwM k).2 := by
  have := List.all_eq_true.1 pw_all k (by simp; omega)
  simp only [smB, Bool.and_eq_true, decide_eq_true_eq] at this
  unfold sm; omega
theorem pw_sm (k : Int) (h : -41 ≤ k) (h' : k ≤ 41) : sm 300000000 (pw k).1 ∧ sm 300000000 (pw k).2 := by
  unfold pw; split
  · exact pwN_sm _ (by omega)
  · exact pwM_sm _ (by omega)
def gv (x : Int × Int) : Array Value := #[.int .i64 x.1, .int .i64 x.2]
theorem sizeV (x : Int × Int) : (Tryd.prog.info? 24).map (·.size) = some (gv x).size := sizeG _ _
theorem oneV (x : Int × Int) : (gv x).all (·.oneCell') = true := oneG _ _
theorem timesW_v (x : Int × Int) (h : sm 300000000 x.1 ∧ sm 300000000 x.2) (w : World) : Calls Tryd.prog 74 #[.agg (gv x)] w fun e w' => e = .returned (.agg (gv (x.2, x.1 + x.2))) ∧ Keeps w w' :=
  timesW_c x.1 x.2 (sm_mono h.1 (by decide)) (sm_mono h.2 (by decide)) w
theorem overW_v (x : Int × Int) (h : sm 300000000 x.1 ∧ sm 300000000 x.2) (w : World) : Calls Tryd.prog 56 #[.agg (gv x)] w fun e w' => e = .returned (.agg (gv (x.2 - x.1, x.1))) ∧ Keeps w w' :=
  overW_c x.1 x.2 (sm_mono h.1 (by decide)) (sm_mono h.2 (by decide)) w
theorem load_row_w {P : Program} {ops : Array Oper} {rest : List Oper} {o : Oper} {a : Act} {w : World} {Q : Exit → Act → World → Prop} (hw : Region.wanted o (yielded ops a.tmps) = true) (ty : TypeId) (x : Operand) (ho : o.op = .load ty x)
    (g : Nat) (hx : a.eval x = .pointer (some ⟨g, 0, none⟩)) (t : TypeId) (cs : Array Value) (fr : Nat × Nat) (d : TypeDesc) (hg : w.heap[g]? = some (.cells cs t fr))
    (hu : P.underlying ty = some d) (hd : (match d with | .struct _ | .array _ _ => true | _ => false) = true) (hi : (P.info? ty).map (·.size) = some cs.size)
    (h : wpList P ops Q rest (a.put o.dst (.agg cs)) w) : wpList P ops Q (o :: rest) a w :=
  wpList_step fun _ hK => by rw [if_pos hw]; exact wp_load_row ty x ho g hx t cs fr d hg hu hd hi (hK _ _ h)
theorem gv_zero : (#[.int .i64 0, .int .i64 0] : Array Value) = gv (0, 0) := rfl
set_option maxHeartbeats 2000000 in
theorem powerOf_yes (n : Nat) (hn : n ≤ 40) (w : World) :
    Calls Tryd.prog 55 #[.int .i64 n] w fun e w' => e = .returned (.agg (gv (pwN n))) ∧ Keeps w w' := by
  have hX0 := At.new2 w (.cells #[.int .i64 0, .int .i64 0] 24) 24 (gv (0, 0))
  have hR0 := (At.new w 24 (gv (0, 0))).alloc (.cells (gv (0, 0)) 24)
  have hk0 : Keeps w ((w.alloc (.cells (gv (0, 0)) 24)).alloc (.cells (gv (0, 0)) 24)) := Keeps.alloc (Keeps.alloc (Below.refl _ _) _) _
  have hz : decide (0 < -(n : Int)) = false := by simp
  have hz2 : IntKind.i64.wrap (-(n : Int)) = -(n : Int) := IntWalk.i64_in _ (by omega)
  go_enter Tryd.func55, Tryd.ntmps55
  go_wp2_with (refine wpList_store_row rfl 24 _ _ rfl (w.heap.size + 1) (gv (1, 0)) rfl rfl 24 (gv (0, 0)) hX0 (sizeV _) rfl (oneV _) ?_)
  have hX := hX0.row (gv (1, 0))
  have hR := hR0.rowfar (by omega) (gv (1, 0)) (g' := w.heap.size + 1)
  have hk := below_row hk0 (g := w.heap.size + 1) (by omega) (gv (1, 0))
  rw [← gv_zero] at hX hR hk
  generalize ((w.alloc (.cells #[.int .i64 0, .int .i64 0] 24)).alloc (.cells #[.int .i64 0, .int .i64 0] 24)).setRow (w.heap.size + 1) (gv (1, 0)) = X at *
  go_loopw [6] (fun i wr => ∃ j : Nat, j ≤ n ∧ i = .int .i64 j ∧ At wr (w.heap.size + 1) 24 (gv (pwN j)) ∧ At wr w.heap.size 24 (gv (0, 0)) ∧ Keeps w wr) (fun i _ => n - (intOf i).toNat)
  case atStart => exact ⟨0, by omega, rfl, hX, hR, hk⟩
  case round =>
    obtain ⟨j, hj, rfl, hA, hB, hK⟩ := hrel
    clear hX hR hk hX0 hR0 hk0 X
    by_cases hlt : j < n
    · have ht := fun x => timesW_v (pwN j) (pwN_sm j (by omega)) x
      go_wp2_with (first
        | (refine wpList_load_row rfl 24 _ rfl (w.heap.size + 1) rfl 24 _ _ _ hA Tryd.underlying24 rfl (sizeV _) ?_)
        | (go_at_call 74
           refine (ht _).mono ?_
           rintro e w1 ⟨rfl, hb1⟩
           have hA1 := hA.later hb1
           have hB1 := hB.later hb1
           have hK1 := Keeps.next hK hb1
           clear ht hA hB hb1)
        | (refine wpList_store_row rfl 24 _ _ rfl (w.heap.size + 1) (gv (pwN (j + 1))) rfl rfl 24 (gv (pwN j)) hA1 (sizeV _) rfl (oneV _) ?_
           have hA2 := hA1.row (gv (pwN (j + 1)))
           have hB2 := hB1.rowfar (by omega) (gv (pwN (j + 1))) (g' := w.heap.size + 1)
           have hK2 := below_row hK1 (g := w.heap.size + 1) (by omega) (gv (pwN (j + 1)))
           generalize w1.setRow (w.heap.size + 1) (gv (pwN (j + 1))) = w2 at *
           clear hA1 hB1 hK1))
      go_roundw
      case rel => exact ⟨j + 1, by omega, by go_num, hA2, hB2, hK2⟩
      case measure => simp [intOf]; omega
    · obtain rfl : n = j := by omega
      go_wp2_with fail
      go_loopw [13] (fun i w2 => i = .int .i64 0 ∧ At w2 (w.heap.size + 1) 24 (gv (pwN n)) ∧ At w2 w.heap.size 24 (gv (0, 0)) ∧ Keeps w w2) (fun i _ => 1)
      case atStart => exact ⟨rfl, hA, hB, hK⟩
      case round =>
        obtain ⟨rfl, hA, hB, hK⟩ := hrel
        go_wp2_with (first
          | (refine wpList_load_row rfl 24 _ rfl (w.heap.size + 1) rfl 24 _ _ _ hA Tryd.underlying24 rfl (sizeV _) ?_)
          | (refine wpList_store_row rfl 24 _ _ rfl w.heap.size (gv (pwN n)) rfl rfl 24 (gv (0, 0)) hB (sizeV _) rfl (oneV _) ?_))
        refine bodyPost_ret (results_cell_row Tryd.results55 _ _ w.heap.size _ _ _ _ rfl (hB.row _) Tryd.underlying24 rfl (sizeV _)) rfl ⟨rfl, below_row hK (by omega) _⟩
set_option maxHeartbeats 2000000 in
theorem powerOf_no (n : Nat) (hn0 : 0 < n) (hn : n ≤ 40) (w : World) :
    Calls Tryd.prog 55 #[.int .i64 (-(n : Int))] w fun e w' => e = .returned (.agg (gv (pwM n))) ∧ Keeps w w' := by
  have hX0 := At.new2 w (.cells #[.int .i64 0, .int .i64 0] 24) 24 (gv (0, 0))
  have hR0 := (At.new w 24 (gv (0, 0))).alloc (.cells (gv (0, 0)) 24)
  have hk0 : Keeps w ((w.alloc (.cells (gv (0, 0)) 24)).alloc (.cells (gv (0, 0)) 24)) := Keeps.alloc (Keeps.alloc (Below.refl _ _) _) _
  have hz : decide (0 < -(n : Int)) = false := by simp
  have hz2 : IntKind.i64.wrap (- -(n : Int)) = (n : Int) := by rw [Int.neg_neg]; exact IntWalk.i64_in _ (by omega)
  have hz3 : - -(n : Int) = (n : Int) := Int.neg_neg _
  go_enter Tryd.func55, Tryd.ntmps55
  go_wp2_with (refine wpList_store_row rfl 24 _ _ rfl (w.heap.size + 1) (gv (1, 0)) rfl rfl 24 (gv (0, 0)) hX0 (sizeV _) rfl (oneV _) ?_)
  have hX := hX0.row (gv (1, 0))
  have hR := hR0.rowfar (by omega) (gv (1, 0)) (g' := w.heap.size + 1)
  have hk := below_row hk0 (g := w.heap.size + 1) (by omega) (gv (1, 0))
  rw [← gv_zero] at hX hR hk
  generalize ((w.alloc (.cells #[.int .i64 0, .int .i64 0] 24)).alloc (.cells #[.int .i64 0, .int .i64 0] 24)).setRow (w.heap.size + 1) (gv (1, 0)) = X at *
  go_loopw [6] (fun i w2 => i = .int .i64 0 ∧ At w2 (w.heap.size + 1) 24 (gv (1, 0)) ∧ At w2 w.heap.size 24 (gv (0, 0)) ∧ Keeps w w2) (fun i _ => 1)
  case atStart => exact ⟨rfl, hX, hR, hk⟩
  case round =>
    obtain ⟨rfl, hA, hB, hK⟩ := hrel
    clear hX hR hk hX0 hR0 hk0 X
    go_wp2_with fail
    go_loopw [13] (fun i wr => ∃ j : Nat, j ≤ n ∧ i = .int .i64 j ∧ At wr (w.heap.size + 1) 24 (gv (pwM j)) ∧ At wr w.heap.size 24 (gv (0, 0)) ∧ Keeps w wr) (fun i _ => n - (intOf i).toNat)
    case atStart => exact ⟨0, by omega, rfl, hA, hB, hK⟩
    case round =>
      obtain ⟨j, hj, rfl, hA, hB, hK⟩ := hrel
      by_cases hlt : j < n
      · have ht := fun x => overW_v (pwM j) (pwM_sm j (by omega)) x
        go_wp2_with (first
          | (refine wpList_load_row rfl 24 _ rfl (w.heap.size + 1) rfl 24 _ _ _ hA Tryd.underlying24 rfl (sizeV _) ?_)
          | (go_at_call 56
             refine (ht _).mono ?_
             rintro e w1 ⟨rfl, hb1⟩
             have hA1 := hA.later hb1
             have hB1 := hB.later hb1
             have hK1 := Keeps.next hK hb1
             clear ht hA hB hb1)
          | (refine wpList_store_row rfl 24 _ _ rfl (w.heap.size + 1) (gv (pwM (j + 1))) rfl rfl 24 (gv (pwM j)) hA1 (sizeV _) rfl (oneV _) ?_
             have hA2 := hA1.row (gv (pwM (j + 1)))
             have hB2 := hB1.rowfar (by omega) (gv (pwM (j + 1))) (g' := w.heap.size + 1)
             have hK2 := below_row hK1 (g := w.heap.size + 1) (by omega) (gv (pwM (j + 1)))
             generalize w1.setRow (w.heap.size + 1) (gv (pwM (j + 1))) = w2 at *
             clear hA1 hB1 hK1))
        go_roundw
        case rel => exact ⟨j + 1, by omega, by go_num, hA2, hB2, hK2⟩
        case measure => simp [intOf]; omega
      · obtain rfl : n = j := by omega
        go_wp2_with (first
          | (refine wpList_load_row rfl 24 _ rfl (w.heap.size + 1) rfl 24 _ _ _ hA Tryd.underlying24 rfl (sizeV _) ?_)
          | (refine wpList_store_row rfl 24 _ _ rfl w.heap.size (gv (pwM n)) rfl rfl 24 (gv (0, 0)) hB (sizeV _) rfl (oneV _) ?_))
        refine bodyPost_ret (results_cell_row Tryd.results55 _ _ w.heap.size _ _ _ _ rfl (hB.row _) Tryd.underlying24 rfl (sizeV _)) rfl ⟨rfl, below_row hK (by omega) _⟩
theorem powerOf_c (k : Int) (h : -40 ≤ k) (h' : k ≤ 40) (w : World) : Calls Tryd.prog 55 #[.int .i64 k] w fun e w' => e = .returned (.agg (gv (pw k))) ∧ Keeps w w' := by
  unfold pw
  split
  · have := powerOf_yes k.toNat (by omega) w
    rwa [Int.toNat_of_nonneg (by omega)] at this
  · have := powerOf_no (-k).toNat (by omega) (by omega) w
    rwa [Int.toNat_of_nonneg (by omega), Int.neg_neg] at this
end Go.Proofs.YtfekggmdhmkemaaDoor
