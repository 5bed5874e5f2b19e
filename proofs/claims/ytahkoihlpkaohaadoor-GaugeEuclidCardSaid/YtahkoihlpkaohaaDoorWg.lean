/- The law GaugeEuclid. -/
import Derived.Test.YtahkoihlpkaohaaDoorUa
import Derived.Test.YtahkoihlpkaohaaDoorWb
import Derived.Test.YtahkoihlpkaohaaDoorWd
import Derived.Test.YtahkoihlpkaohaaDoorVm
import Derived.Deep.CutRange
namespace Go.Proofs.YtahkoihlpkaohaaDoor
open Go.RowKit
set_option linter.unusedVariables false
set_option linter.unusedSimpArgs false

theorem spans_zero (x : Int × Int) (h : Spans x (0, 0) (0, 0)) : x = (0, 0) := by
  obtain ⟨u, hu⟩ := spans_end x (0, 0) h
  rw [hu]
  unfold timesG
  apply Prod.ext <;> simp
theorem half_step (k n m : Nat) (h : 2 ^ k * n ≤ 270000) (h2 : 2 * m ≤ n) : 2 ^ (k + 1) * m ≤ 270000 := by
  have := Nat.mul_le_mul_left (2 ^ k) h2
  have e : 2 ^ (k + 1) * m = 2 ^ k * (2 * m) := by rw [Nat.pow_succ, Nat.mul_assoc]
  omega
theorem half_end (n : Nat) (h : 2 ^ 40 * n ≤ 270000) : n = 0 := by omega
/-- What Divide answers where y divides x. -/
theorem Divide_mul (u a : Int × Int) (hx : numB (timesG u a).1 (timesG u a).2 = true) (ha : numB a.1 a.2 = true) (ha0 : a ≠ (0, 0)) :
    ∃ p : Int × Int, ∃ e1 : Int, (e1 = 0 ∨ e1 = 5) ∧ ∀ w, Calls Tryd.prog 9 #[.agg (gv (timesG u a)), .agg (gv a)] w fun e w' => e = .returned (.tuple #[.agg (gv p), .agg (gv (0, 0)), .int .i64 e1]) ∧ Keeps w w' := by
  have hm := div_mul u a (norm_ne a ha0)
  have h := fun w => Divide_c (timesG u a) a hx ha ha0 w
  unfold dvV at h
  rw [hm.1, hm.2] at h
  by_cases hu : numB u.1 u.2 = true ∧ numB ((0, 0) : Int × Int).1 ((0, 0) : Int × Int).2 = true
  · rw [if_pos hu] at h; exact ⟨u, 0, .inl rfl, h⟩
  · rw [if_neg hu] at h; exact ⟨(0, 0), 5, .inr rfl, h⟩
set_option maxHeartbeats 4000000 in
set_option maxRecDepth 100000 in
theorem euclid_v (x y : Int × Int) (w : World) :
    Calls Tryd.prog 8 #[.agg (gv x), .agg (gv y)] w fun e w' => e = .returned (.bool true) ∧ Keeps w w' := by
  have aw := fun z => awake_c z
  have t1 := fun z => tame_c x 300 (by decide) (by decide) z
  have t2 := fun z => tame_c y 300 (by decide) (by decide) z
  have hX := tame_sm 300 (by decide) x
  have hY := tame_sm 300 (by decide) y
  generalize tameG 300 x = X at *
  generalize tameG 300 y = Y at *
  have nX := Lib.hid (num_of (sm2_mono hX (by decide)))
  have nY := Lib.hid (num_of (sm2_mono hY (by decide)))
  have hN := (norms_rest X Y hX hY).2.2.2.2
  have hN : 2 ^ 0 * (normG Y).natAbs ≤ 270000 := by unfold sm at hN; omega
  have HN := Lib.hid hN
  clear hX hY hN
  obtain ⟨W, hW⟩ : ∃ W, ((w.alloc (.cells #[.int .i64 x.1, .int .i64 x.2] 23)).alloc (.cells #[.int .i64 y.1, .int .i64 y.2] 23)) = W := ⟨_, rfl⟩
  have x0 : At W (w.heap.size) 23 (gv x) := by rw [← hW]; exact (At.new w _ _).alloc _
  have y0 : At W (w.heap.size + 1) 23 (gv y) := by rw [← hW]; exact At.new2 w _ _ _
  have k0 : Keeps w W := by rw [← hW]; exact Keeps.alloc (Keeps.alloc (Below.refl _ _) _) _
  have HW := Lib.hid hW
  clear hW
  change Calls Tryd.prog 8 #[.agg #[.int .i64 x.1, .int .i64 x.2], .agg #[.int .i64 y.1, .int .i64 y.2]] w _
  go_enter Tryd.func8, Tryd.ntmps8
  go_upto_region 1 with (fail)
  rw [HW.out]
  clear HW
  refine region_any_inv (G := Unit) (f := ?f) (fun _ => [.agg (gv x), .agg #[.int .i64 X.1, .int .i64 X.2], .agg (gv y), .agg #[.int .i64 Y.1, .int .i64 Y.2], undef, undef])
    (fun _ L w' => Keeps w w' ∧ At w' (w.heap.size) 23 (gv (if L 4 = true then X else x)) ∧ At w' (w.heap.size + 1) 23 (gv (if L 5 = true then Y else y)))
    () (fun _ => ?hf) (by kernel_rfl) (by kernel_rfl) ⟨k0.dr, x0.drew, y0.drew⟩ ?steps ?fin
  case hf =>
    simp only [fill, List.toList_toArray, List.zip_cons_cons, List.zip_nil_left, List.zip_nil_right, List.foldl_cons, List.foldl_nil, Act.put, List.setIfInBounds_toArray, List.set_cons_succ, List.set_cons_zero]
    exact rfl
  case steps =>
    have n01 : w.heap.size ≠ w.heap.size + 1 := by omega
    have l0 : w.heap.size ≤ w.heap.size := by omega
    have n10 : w.heap.size + 1 ≠ w.heap.size := by omega
    have l1 : w.heap.size ≤ w.heap.size + 1 := by omega
    refine StepsU.cons rfl (fun g L w' hL hr hc hF => ?_) ?_
    · have e := hc.not 4 0 rfl rfl hL
      obtain ⟨k1, x1, y1⟩ := hF
      have h1 := x1
      rw [e, if_neg (by simp)] at h1
      obtain ⟨p1, p2, p3, p4⟩ := row_four h1
      refine StepU.go rfl (fun K hK => ?_)
      clear aw t1 t2
      go_simp
      exact hK () _ ⟨k1, x1, y1⟩
    refine StepsU.cons rfl (fun g L w' hL hr hc hF => ?_) ?_
    · obtain ⟨k1, x1, y1⟩ := hF
      refine StepU.go rfl (fun K hK => ?_)
      clear aw
      go_simp
      refine (t1 _).mono ?_
      rintro e w2 ⟨rfl, b1⟩
      exact hK () _ ⟨Keeps.next k1 b1, x1.later b1, y1.later b1⟩
    refine StepsU.cons rfl (fun g L w' hL hr hc hF => ?_) ?_
    · have e := hc.not 5 2 rfl rfl hL
      obtain ⟨k1, x1, y1⟩ := hF
      have h1 := y1
      rw [e, if_neg (by simp)] at h1
      obtain ⟨p1, p2, p3, p4⟩ := row_four h1
      refine StepU.go rfl (fun K hK => ?_)
      clear aw t1 t2
      go_simp
      exact hK () _ ⟨k1, x1, y1⟩
    refine StepsU.cons rfl (fun g L w' hL hr hc hF => ?_) ?_
    · obtain ⟨k1, x1, y1⟩ := hF
      refine StepU.go rfl (fun K hK => ?_)
      clear aw
      go_simp
      refine (t2 _).mono ?_
      rintro e w2 ⟨rfl, b1⟩
      exact hK () _ ⟨Keeps.next k1 b1, x1.later b1, y1.later b1⟩
    refine StepsU.cons rfl (fun g L w' hL hr hc hF => ?_) ?_
    · obtain ⟨k1, x1, y1⟩ := hF
      have h1 := x1
      rw [hL, if_neg (by simp)] at h1
      obtain ⟨p1, p2, p3, p4⟩ := row_four h1
      refine StepU.go rfl (fun K hK => ?_)
      clear aw t1 t2
      go_simp
      refine hK () _ ?_
      exact ⟨Keeps.set (Keeps.set k1 _ l0 _ _) _ l0 _ _, by rw [if_pos (add_same L _)]; exact (h1.set 0 _).set 1 _, (y1.far n10 _).far n10 _⟩
    refine StepsU.cons rfl (fun g L w' hL hr hc hF => ?_) ?_
    · obtain ⟨k1, x1, y1⟩ := hF
      have h1 := y1
      rw [hL, if_neg (by simp)] at h1
      obtain ⟨p1, p2, p3, p4⟩ := row_four h1
      refine StepU.go rfl (fun K hK => ?_)
      clear aw t1 t2
      go_simp
      refine hK () _ ?_
      exact ⟨Keeps.set (Keeps.set k1 _ l1 _ _) _ l1 _ _, (x1.far n01 _).far n01 _, by rw [if_pos (add_same L _)]; exact (h1.set 0 _).set 1 _⟩
    exact StepsU.nil (by simp)
  case fin =>
  intro g L w0 hall hF
  clear x0 y0 k0
  obtain ⟨k0, x0, y0⟩ := hF
  rw [hall 4 (by simp), if_pos rfl] at x0
  rw [hall 5 (by simp), if_pos rfl] at y0
  clear hall t1 t2
  go_upto_region 2 with (fail)
  generalize hB0 : w.heap.size = B0 at *
  refine region_any_inv (G := Nat × Nat) (f := ?f2) (fun g => [.agg #[.int .i64 X.1, .int .i64 X.2], .agg #[.int .i64 Y.1, .int .i64 Y.2], .pointer (some ⟨g.1, 0, none⟩), .pointer (some ⟨g.2, 0, none⟩), undef, undef])
    (fun g L w' => Keeps w0 w' ∧ (L 2 = true → w0.heap.size ≤ g.1 ∧ At w' g.1 23 (gv (if L 4 = true then X else (0, 0)))) ∧ (L 3 = true → w0.heap.size ≤ g.2 ∧ At w' g.2 23 (gv (if L 5 = true then Y else (0, 0)))) ∧ (L 2 = true → L 3 = true → g.1 ≠ g.2))
    (0, 0) (fun _ => ?hf2) (by kernel_rfl) (by kernel_rfl) ⟨Keeps.dr (Below.refl _ _), fun h => (by cases h), fun h => (by cases h), fun h => (by cases h)⟩ ?steps2 ?fin2
  case hf2 =>
    simp only [fill, List.toList_toArray, List.zip_cons_cons, List.zip_nil_left, List.zip_nil_right, List.foldl_cons, List.foldl_nil, Act.put, List.setIfInBounds_toArray, List.set_cons_succ, List.set_cons_zero]
    exact rfl
  case steps2 =>
    refine StepsU.cons rfl (fun g L w' hL hr hc hF => ?_) ?_
    · obtain ⟨k1, h9, h10, hne⟩ := hF
      obtain ⟨p1, p2, p3, p4⟩ := row_four (x0.later k1)
      refine StepU.go rfl (fun K hK => ?_)
      clear aw
      go_simp
      exact hK g _ ⟨k1, h9, h10, hne⟩
    refine StepsU.cons rfl (fun g L w' hL hr hc hF => ?_) ?_
    · obtain ⟨k1, h9, h10, hne⟩ := hF
      obtain ⟨p1, p2, p3, p4⟩ := row_four (y0.later k1)
      refine StepU.go rfl (fun K hK => ?_)
      clear aw
      go_simp
      exact hK g _ ⟨k1, h9, h10, hne⟩
    refine StepsU.cons rfl (fun g L w' hL hr hc hF => ?_) ?_
    · obtain ⟨k1, h9, h10, hne⟩ := hF
      have e := hc.not 4 2 rfl rfl hL
      refine StepU.go rfl (fun K hK => ?_)
      clear aw
      go_simp
      refine hK (w'.heap.size, g.2) _ ?_
      refine ⟨Keeps.alloc k1 _, fun _ => ⟨k1.size, ?_⟩, fun h => ⟨(h10 h).1, (h10 h).2.alloc _⟩, fun _ h => ?_⟩
      · rw [show add L _ 4 = L 4 from add_other L _ 4 (by decide), e, if_neg (by simp)]; exact At.new _ _ _
      · exact Nat.ne_of_gt (h10 h).2.lt
    refine StepsU.cons rfl (fun g L w' hL hr hc hF => ?_) ?_
    · obtain ⟨k1, h9, h10, hne⟩ := hF
      have e := hc.not 5 3 rfl rfl hL
      refine StepU.go rfl (fun K hK => ?_)
      clear aw
      go_simp
      refine hK (g.1, w'.heap.size) _ ?_
      refine ⟨Keeps.alloc k1 _, fun h => ⟨(h9 h).1, (h9 h).2.alloc _⟩, fun _ => ⟨k1.size, ?_⟩, fun h _ => ?_⟩
      · rw [show add L _ 5 = L 5 from add_other L _ 5 (by decide), e, if_neg (by simp)]; exact At.new _ _ _
      · exact Nat.ne_of_lt (h9 h).2.lt
    refine StepsU.cons rfl (fun g L w' hL hr hc hF => ?_) ?_
    · obtain ⟨k1, h9, h10, hne⟩ := hF
      have hb := hr 2 rfl
      obtain ⟨hle, hA⟩ := h9 hb
      have hne2 : ∀ h, _ := fun h => (hne hb h).symm
      rw [hL, if_neg (by simp)] at hA
      obtain ⟨p1, p2, p3, p4⟩ := row_four hA
      refine StepU.go rfl (fun K hK => ?_)
      clear aw
      go_simp
      refine hK g _ ?_
      exact ⟨Keeps.set (Keeps.set k1 _ hle _ _) _ hle _ _, fun _ => ⟨hle, by rw [if_pos (add_same L _)]; exact (hA.set 0 _).set 1 _⟩, fun h => ⟨(h10 h).1, (((h10 h).2.far (hne2 h) _).far (hne2 h) _)⟩, hne⟩
    refine StepsU.cons rfl (fun g L w' hL hr hc hF => ?_) ?_
    · obtain ⟨k1, h9, h10, hne⟩ := hF
      have hb := hr 3 rfl
      obtain ⟨hle, hA⟩ := h10 hb
      have hne2 : ∀ h, _ := fun h => hne h hb
      rw [hL, if_neg (by simp)] at hA
      obtain ⟨p1, p2, p3, p4⟩ := row_four hA
      refine StepU.go rfl (fun K hK => ?_)
      clear aw
      go_simp
      refine hK g _ ?_
      exact ⟨Keeps.set (Keeps.set k1 _ hle _ _) _ hle _ _, fun h => ⟨(h9 h).1, (((h9 h).2.far (hne2 h) _).far (hne2 h) _)⟩, fun _ => ⟨hle, by rw [if_pos (add_same L _)]; exact (hA.set 0 _).set 1 _⟩, hne⟩
    exact StepsU.nil (by simp)
  case fin2 =>
  intro g L w1 hall hF
  obtain ⟨k1, h9, h10, hne⟩ := hF
  obtain ⟨lA, a1⟩ := h9 (hall 2 (by simp))
  obtain ⟨lB, c1⟩ := h10 (hall 3 (by simp))
  have hne := hne (hall 2 (by simp)) (hall 3 (by simp))
  rw [hall 4 (by simp), if_pos rfl] at a1
  rw [hall 5 (by simp), if_pos rfl] at c1
  have x1 := x0.later k1
  have y1 := y0.later k1
  have k2 := Keeps.next k0 k1
  have lx := y0.lt
  obtain ⟨bA, bB⟩ := g
  simp only at a1 c1 lA lB hne
  have nxA : B0 ≠ bA := by omega
  have nxB : B0 ≠ bB := by omega
  have nyA : B0 + 1 ≠ bA := by omega
  have nyB : B0 + 1 ≠ bB := by omega
  have nAB : bA ≠ bB := hne
  have nBA : bB ≠ bA := hne.symm
  have lA0 : w.heap.size ≤ bA := by omega
  have lB0 : w.heap.size ≤ bB := by omega
  clear k1 h9 h10 hall x0 y0 k0 lA lB hne lx hB0
  go_wp2_with fail
  go_loopw [7] (fun s7 wr => ∃ (k : Nat) (a b : Int × Int), s7 = .int .i64 k ∧ k ≤ 40 ∧ numB a.1 a.2 = true ∧ numB b.1 b.2 = true ∧ Spans X a b ∧ Spans Y a b ∧ 2 ^ k * (normG b).natAbs ≤ 270000 ∧
      At wr bA 23 (gv a) ∧ At wr bB 23 (gv b) ∧ At wr B0 23 (gv X) ∧ At wr (B0 + 1) 23 (gv Y) ∧ Keeps w wr) (fun s7 _ => 40 - (intOf s7).toNat)
  case atStart => exact ⟨0, X, Y, rfl, by decide, nX.out, nY.out, spans_first _ _, spans_second _ _, HN.out, a1, c1, x1, y1, k2⟩
  case round =>
    obtain ⟨k, a, b, rfl, hk, na, nb, sX, sY, hm, a2, c2, x2, y2, kw⟩ := hrel
    clear a1 c1 x1 y1 k2 HN
    by_cases hb0 : b = (0, 0)
    · subst hb0
      obtain ⟨u1, hu1⟩ := spans_end X a sX
      obtain ⟨u2, hu2⟩ := spans_end Y a sY
      have hk2 : k = 40 ∨ k < 40 := by omega
      have a0 : At wr bA 23 (gv a) := a2
      have hk40 : ∃ t, decide ((k : Int) < 40) = t := ⟨_, rfl⟩
      obtain ⟨t, hk40⟩ := hk40
      have NA := Lib.hid na
      have SX := Lib.hid sX
      have SY := Lib.hid sY
      clear hm sX sY hk2 na nb
      by_cases ha0 : a = (0, 0)
      · subst ha0
        have eX := spans_zero X SX.out
        have eY := spans_zero Y SY.out
        subst eX eY
        clear hu1 hu2 SX SY NA
        cases t
        all_goals
          go_wp2_with (first
            | (refine load_row_w rfl 23 _ rfl _ rfl 23 #[.int .i64 0, .int .i64 0] _ _ c2 Tryd.underlying23 rfl (sizeG _ _) ?_)
            | (refine load_row_w rfl 23 _ rfl _ rfl 23 #[.int .i64 0, .int .i64 0] _ _ a2 Tryd.underlying23 rfl (sizeG _ _) ?_)
            | (refine load_row_w rfl 23 _ rfl _ rfl 23 #[.int .i64 0, .int .i64 0] _ _ x2 Tryd.underlying23 rfl (sizeG _ _) ?_)
            | (refine load_row_w rfl 23 _ rfl _ rfl 23 #[.int .i64 0, .int .i64 0] _ _ y2 Tryd.underlying23 rfl (sizeG _ _) ?_)
            | (go_at_call 11; refine (aw _).mono ?_; rintro e w9 ⟨rfl, b9⟩))
          go_ret
          exact ⟨rfl, Keeps.next kw b9⟩
      · have nX := nX.out
        have nY := nY.out
        rw [hu1] at nX
        rw [hu2] at nY
        obtain ⟨p1, e1, he1, d1⟩ := Divide_mul u1 a nX NA.out ha0
        obtain ⟨p2, e2, he2, d2⟩ := Divide_mul u2 a nY NA.out ha0
        rw [← hu1] at d1
        rw [← hu2] at d2
        have hXb : ∃ b1 b2 : Bool, (a.1 == 0) = b1 ∧ (a.2 == 0) = b2 ∧ (b1 && b2) = false := ⟨_, _, rfl, rfl, by
          cases h1 : (a.1 == 0) <;> cases h2 : (a.2 == 0) <;> simp_all
          exact ha0 (Prod.ext h1 h2)⟩
        obtain ⟨b1', b2', hb1', hb2', hb⟩ := hXb
        clear hu1 hu2 SX SY NA nX nY ha0 a0
        generalize wr = w2 at *
        go_upto_region 4 with (fail)
        go_cut [29] from 23 to 50 (fun v29 wq => v29 = .bool false ∧ wq = w2)
        case first =>
          clear d1 d2 aw
          cases t
          all_goals
            go_wp2_with (refine load_row_w rfl 23 _ rfl _ rfl 23 #[.int .i64 0, .int .i64 0] _ _ c2 Tryd.underlying23 rfl (sizeG _ _) ?_)
            go_meet
            exact ⟨rfl, rfl⟩
        case rest =>
          obtain ⟨rfl, rfl⟩ := hcut
          clear hk40
          generalize wc = w2 at *
          go_upto_region 14 with (refine load_row_w rfl 23 _ rfl _ rfl 23 #[.int .i64 0, .int .i64 0] _ _ c2 Tryd.underlying23 rfl (sizeG _ _) ?_)
          go_cut [56] from 54 to 108 (fun v56 wq => v56 = .bool false ∧ wq = w2)
          case first =>
            clear d1 d2 aw
            cases b1' <;> cases b2'
            case true.true => simp at hb
            all_goals
              go_wp2_with (refine load_row_w rfl 23 _ rfl _ rfl 23 #[.int .i64 a.1, .int .i64 a.2] _ _ a2 Tryd.underlying23 rfl (sizeG _ _) ?_)
              go_meet
              exact ⟨rfl, rfl⟩
          case rest =>
            obtain ⟨rfl, rfl⟩ := hcut
            clear hb hb1' hb2'
            generalize wc = w2 at *
            go_upto_region 18 with (first
              | (refine load_row_w rfl 23 _ rfl _ rfl 23 _ _ _ x2 Tryd.underlying23 rfl (sizeV _) ?_)
              | (refine load_row_w rfl 23 _ rfl _ rfl 23 _ _ _ a2 Tryd.underlying23 rfl (sizeV _) ?_)
              | (go_at_call 9
                 refine (d1 _).mono ?_
                 rintro e w5 ⟨rfl, bl5⟩
                 have ga5 : At ((w5.alloc (.cells (gv (0, 0)) 23)).alloc (.cells (gv (0, 0)) 23)) w5.heap.size 23 (gv (0, 0)) := (At.new w5 _ _).alloc _
                 have sa5 : At ((w5.alloc (.cells (gv (0, 0)) 23)).alloc (.cells (gv (0, 0)) 23)) (w5.heap.size + 1) 23 (gv (0, 0)) := At.new2 w5 _ _ _
                 have sb5 := sa5.rowfar (by omega) (gv p1) (g' := w5.heap.size)
                 have g5 := (ga5.row (gv p1)).rowfar (by omega) (gv (0, 0)) (g' := w5.heap.size + 1)
                 have s5 := sb5.row (gv (0, 0))
                 have dd5 := below_row (below_row (Keeps.alloc (Keeps.alloc bl5 (.cells (gv (0, 0)) 23)) (.cells (gv (0, 0)) 23)) bl5.size (gv p1)) (Nat.le_succ_of_le bl5.size) (gv (0, 0))
                 have a5 := a2.later dd5
                 have x5 := x2.later dd5
                 have y5 := y2.later dd5
                 have k5 := Keeps.next kw dd5
                 clear d1 a2 x2 y2)
              | (refine wpList_store_row rfl 23 _ _ rfl (w5.heap.size) (gv p1) rfl rfl 23 (gv (0, 0)) ga5 (sizeV _) rfl (oneV _) ?_)
              | (refine wpList_store_row rfl 23 _ _ rfl (w5.heap.size + 1) (gv (0, 0)) rfl rfl 23 (gv (0, 0)) sb5 (sizeV _) rfl (oneV _) ?_)
              | (refine load_row_w rfl 23 _ rfl _ rfl 23 _ _ _ y5 Tryd.underlying23 rfl (sizeV _) ?_)
              | (refine load_row_w rfl 23 _ rfl _ rfl 23 _ _ _ a5 Tryd.underlying23 rfl (sizeV _) ?_)
              | (go_at_call 9
                 refine (d2 _).mono ?_
                 rintro e w6 ⟨rfl, bl6⟩
                 have ga6 : At ((w6.alloc (.cells (gv (0, 0)) 23)).alloc (.cells (gv (0, 0)) 23)) w6.heap.size 23 (gv (0, 0)) := (At.new w6 _ _).alloc _
                 have sa6 : At ((w6.alloc (.cells (gv (0, 0)) 23)).alloc (.cells (gv (0, 0)) 23)) (w6.heap.size + 1) 23 (gv (0, 0)) := At.new2 w6 _ _ _
                 have sb6 := sa6.rowfar (by omega) (gv p2) (g' := w6.heap.size)
                 have g6 := (ga6.row (gv p2)).rowfar (by omega) (gv (0, 0)) (g' := w6.heap.size + 1)
                 have s6 := sb6.row (gv (0, 0))
                 have dd6 := below_row (below_row (Keeps.alloc (Keeps.alloc bl6 (.cells (gv (0, 0)) 23)) (.cells (gv (0, 0)) 23)) bl6.size (gv p2)) (Nat.le_succ_of_le bl6.size) (gv (0, 0))
                 have a6 := a5.later dd6
                 have sr := s5.later dd6
                 have k6 := Keeps.next k5 dd6
                 clear d2 a5 s5)
              | (refine wpList_store_row rfl 23 _ _ rfl (w6.heap.size) (gv p2) rfl rfl 23 (gv (0, 0)) ga6 (sizeV _) rfl (oneV _) ?_)
              | (refine wpList_store_row rfl 23 _ _ rfl (w6.heap.size + 1) (gv (0, 0)) rfl rfl 23 (gv (0, 0)) sb6 (sizeV _) rfl (oneV _) ?_))
            rcases he1 with rfl | rfl
            all_goals
              rcases he2 with rfl | rfl
              all_goals
                go_wp2_with (first
                  | (refine load_row_w rfl 23 _ rfl _ rfl 23 #[.int .i64 0, .int .i64 0] _ _ sr Tryd.underlying23 rfl (sizeG _ _) ?_)
                  | (refine load_row_w rfl 23 _ rfl _ rfl 23 #[.int .i64 0, .int .i64 0] _ _ s6 Tryd.underlying23 rfl (sizeG _ _) ?_)
                  | (go_at_call 11; refine (aw _).mono ?_; rintro e w9 ⟨rfl, b9⟩))
                go_ret
                exact ⟨rfl, Keeps.next k6 b9⟩
    · have hlt : k < 40 := by
        rcases Nat.lt_or_ge k 40 with h | h
        · exact h
        · obtain rfl : k = 40 := by omega
          have := half_end _ hm
          exact absurd (by omega) (norm_ne b hb0)
      have c1 := fun z => Divide_c a b na nb hb0 z
      have hs := half_step _ _ _ hm (rest_half a b (norm_ne b hb0))
      have sX2 := spans_next X a b sX
      have sY2 := spans_next Y a b sY
      have hv : (numB (divQ a b).1 (divQ a b).2 = true ∧ numB (divR a b).1 (divR a b).2 = true ∧ (dvV a b).1 = divQ a b ∧ (dvV a b).2.1 = divR a b ∧ (dvV a b).2.2 = 0) ∨
          ((dvV a b).1 = (0, 0) ∧ (dvV a b).2.1 = (0, 0) ∧ (dvV a b).2.2 = 5) := by
        unfold dvV
        by_cases h : numB (divQ a b).1 (divQ a b).2 = true ∧ numB (divR a b).1 (divR a b).2 = true
        · rw [if_pos h]; exact .inl ⟨h.1, h.2, rfl, rfl, rfl⟩
        · rw [if_neg h]; exact .inr ⟨rfl, rfl, rfl⟩
      have hXb : ∃ b1 b2 : Bool, (b.1 == 0) = b1 ∧ (b.2 == 0) = b2 ∧ (b1 && b2) = false := ⟨_, _, rfl, rfl, by
        cases h1 : (b.1 == 0) <;> cases h2 : (b.2 == 0) <;> simp_all
        exact hb0 (Prod.ext h1 h2)⟩
      obtain ⟨b1', b2', hb1', hb2', hb⟩ := hXb
      have dk : decide ((k : Int) < 40) = true := by simp; omega
      have qk : IntKind.i64.wrap ((k : Int) + 1) = (k : Int) + 1 := IntWalk.i64_in _ (by omega)
      generalize (dvV a b).1 = qv at *
      generalize (dvV a b).2.1 = rv at *
      generalize (dvV a b).2.2 = ee at *
      generalize divR a b = u at *
      generalize divQ a b = v at *
      have HV := Lib.hid hv
      have HS := Lib.hid hs
      have HX := Lib.hid sX2
      have HY := Lib.hid sY2
      have NB := Lib.hid nb
      have HK := Lib.hid hlt
      clear hv hs sX2 sY2 sX sY hm na nb hb0 hk hlt
      generalize wr = w2 at *
      go_upto_region 4 with (fail)
      go_cut [29] from 23 to 50 (fun v29 wq => v29 = .bool true ∧ wq = w2)
      case first =>
        clear c1 aw
        cases b1' <;> cases b2'
        case true.true => simp at hb
        all_goals
          go_wp2_with (refine load_row_w rfl 23 _ rfl _ rfl 23 #[.int .i64 b.1, .int .i64 b.2] _ _ c2 Tryd.underlying23 rfl (sizeG _ _) ?_)
          go_meet
          exact ⟨rfl, rfl⟩
      case rest =>
        obtain ⟨rfl, rfl⟩ := hcut
        clear hb hb1' hb2' dk
        generalize wc = w2 at *
        go_upto_region 7 with (first
          | (refine load_row_w rfl 23 _ rfl _ rfl 23 _ _ _ a2 Tryd.underlying23 rfl (sizeV _) ?_)
          | (refine load_row_w rfl 23 _ rfl _ rfl 23 _ _ _ c2 Tryd.underlying23 rfl (sizeV _) ?_)
          | (go_at_call 9
             refine (c1 _).mono ?_
             rintro e w3 ⟨rfl, bl3⟩
             have ga3 : At ((w3.alloc (.cells (gv (0, 0)) 23)).alloc (.cells (gv (0, 0)) 23)) w3.heap.size 23 (gv (0, 0)) := (At.new w3 _ _).alloc _
             have sa3 : At ((w3.alloc (.cells (gv (0, 0)) 23)).alloc (.cells (gv (0, 0)) 23)) (w3.heap.size + 1) 23 (gv (0, 0)) := At.new2 w3 _ _ _
             have sb3 := sa3.rowfar (by omega) (gv qv) (g' := w3.heap.size)
             have g3 := (ga3.row (gv qv)).rowfar (by omega) (gv rv) (g' := w3.heap.size + 1)
             have s3 := sb3.row (gv rv)
             have dd3 := below_row (below_row (Keeps.alloc (Keeps.alloc bl3 (.cells (gv (0, 0)) 23)) (.cells (gv (0, 0)) 23)) bl3.size (gv qv)) (Nat.le_succ_of_le bl3.size) (gv rv)
             have a3 := a2.later dd3
             have c3 := c2.later dd3
             have x3 := x2.later dd3
             have y3 := y2.later dd3
             have k3 := Keeps.next kw dd3
             have hA3 := Nat.lt_of_lt_of_le a2.lt bl3.size
             have hB3 := Nat.lt_of_lt_of_le c2.lt bl3.size
             clear c1 a2 c2 x2 y2)
          | (refine wpList_store_row rfl 23 _ _ rfl (w3.heap.size) (gv qv) rfl rfl 23 (gv (0, 0)) ga3 (sizeV _) rfl (oneV _) ?_)
          | (refine wpList_store_row rfl 23 _ _ rfl (w3.heap.size + 1) (gv rv) rfl rfl 23 (gv (0, 0)) sb3 (sizeV _) rfl (oneV _) ?_))
        rcases HV.out with ⟨nv, nu, rfl, rfl, rfl⟩ | ⟨rfl, rfl, rfl⟩
        rotate_left
        · go_wp2_with (go_at_call 11; refine (aw _).mono ?_; rintro e w9 ⟨rfl, b9⟩)
          go_ret
          exact ⟨rfl, Keeps.next k3 b9⟩
        have i4 := fun z => refNumber_v rv z
        rw [nu] at i4
        have NU := Lib.hid nu
        clear HV nv nu
        go_upto_region 11 with (first
          | (refine load_row_w rfl 23 _ rfl _ rfl 23 _ _ _ s3 Tryd.underlying23 rfl (sizeV _) ?_)
          | (go_at_call 10; (with_reducible refine (i4 _).mono ?_); rintro e w4 ⟨rfl, b4⟩; have a4 := a3.later b4; have c4 := c3.later b4; have x4 := x3.later b4; have y4 := y3.later b4; have s4 := s3.later b4; have k4 := Keeps.next k3 b4; clear i4 a3 c3 x3 y3 s3 g3 k3))
        have lA : w.heap.size ≤ bA := lA0
        refine region_any_inv (G := Unit) (f := ?f3) (fun _ => [.agg #[.int .i64 b.1, .int .i64 b.2], .agg #[.int .i64 rv.1, .int .i64 rv.2], undef, undef])
          (fun _ L w' => Keeps w w' ∧ At w' bA 23 (gv (if L 2 = true then b else a)) ∧ At w' bB 23 (gv (if L 3 = true then rv else b)) ∧ At w' (w3.heap.size + 1) 23 (gv rv) ∧ At w' B0 23 (gv X) ∧ At w' (B0 + 1) 23 (gv Y))
          () (fun _ => ?hf3) (by kernel_rfl) (by kernel_rfl) ⟨k4.dr, a4.drew, c4.drew, s4.drew, x4.drew, y4.drew⟩ ?steps3 ?fin3
        case hf3 =>
          simp only [fill, List.toList_toArray, List.zip_cons_cons, List.zip_nil_left, List.zip_nil_right, List.foldl_cons, List.foldl_nil, Act.put, List.setIfInBounds_toArray, List.set_cons_succ, List.set_cons_zero]
          exact rfl
        case steps3 =>
          have nrA : w3.heap.size + 1 ≠ bA := Nat.ne_of_gt (Nat.lt_succ_of_lt hA3)
          have nrB : w3.heap.size + 1 ≠ bB := Nat.ne_of_gt (Nat.lt_succ_of_lt hB3)
          refine StepsU.cons rfl (fun g L w' hL hr hc hF => ?_) ?_
          · have e := hc.not 3 0 rfl rfl hL
            obtain ⟨k1, p1, p2, p3, p4, p5⟩ := hF
            have h1 := p2
            rw [e, if_neg (by simp)] at h1
            obtain ⟨z1, z2, z3, z4⟩ := row_four h1
            refine StepU.go rfl (fun K hK => ?_)
            clear aw
            go_simp
            exact hK () _ ⟨k1, p1, p2, p3, p4, p5⟩
          refine StepsU.cons rfl (fun g L w' hL hr hc hF => ?_) ?_
          · obtain ⟨k1, p1, p2, p3, p4, p5⟩ := hF
            obtain ⟨z1, z2, z3, z4⟩ := row_four p3
            refine StepU.go rfl (fun K hK => ?_)
            clear aw
            go_simp
            exact hK () _ ⟨k1, p1, p2, p3, p4, p5⟩
          refine StepsU.cons rfl (fun g L w' hL hr hc hF => ?_) ?_
          · obtain ⟨k1, p1, p2, p3, p4, p5⟩ := hF
            have h1 := p1
            rw [hL, if_neg (by simp)] at h1
            obtain ⟨z1, z2, z3, z4⟩ := row_four h1
            refine StepU.go rfl (fun K hK => ?_)
            clear aw
            go_simp
            refine hK () _ ?_
            exact ⟨Keeps.set (Keeps.set k1 _ lA0 _ _) _ lA0 _ _, by rw [if_pos (add_same L _)]; exact (h1.set 0 _).set 1 _, (p2.far nBA _).far nBA _, (p3.far nrA _).far nrA _, (p4.far nxA _).far nxA _, (p5.far nyA _).far nyA _⟩
          refine StepsU.cons rfl (fun g L w' hL hr hc hF => ?_) ?_
          · obtain ⟨k1, p1, p2, p3, p4, p5⟩ := hF
            have h1 := p2
            rw [hL, if_neg (by simp)] at h1
            obtain ⟨z1, z2, z3, z4⟩ := row_four h1
            refine StepU.go rfl (fun K hK => ?_)
            clear aw
            go_simp
            refine hK () _ ?_
            exact ⟨Keeps.set (Keeps.set k1 _ lB0 _ _) _ lB0 _ _, (p1.far nAB _).far nAB _, by rw [if_pos (add_same L _)]; exact (h1.set 0 _).set 1 _, (p3.far nrB _).far nrB _, (p4.far nxB _).far nxB _, (p5.far nyB _).far nyB _⟩
          exact StepsU.nil (by simp)
        case fin3 =>
        intro g L w5 hall hF
        obtain ⟨k5, a5, c5, _, x5, y5⟩ := hF
        rw [hall 2 (by simp), if_pos rfl] at a5
        rw [hall 3 (by simp), if_pos rfl] at c5
        clear hall k4 a4 c4 s4 x4 y4
        go_wp2_with fail
        go_roundw
        case rel => exact ⟨k + 1, b, rv, by rw [Int.natCast_add]; rfl, HK.out, NB.out, NU.out, HX.out, HY.out, HS.out, a5, c5, x5, y5, k5⟩
        case measure => have := HK.out; simp [intOf]; omega
theorem law_euclid (a b c d : Int) (w : World) : Calls Tryd.prog 8 #[.agg #[.int .i64 a, .int .i64 b], .agg #[.int .i64 c, .int .i64 d]] w fun e w' => e = .returned (.bool true) ∧ Keeps w w' := euclid_v (a, b) (c, d) w
end Go.Proofs.YtahkoihlpkaohaaDoor
