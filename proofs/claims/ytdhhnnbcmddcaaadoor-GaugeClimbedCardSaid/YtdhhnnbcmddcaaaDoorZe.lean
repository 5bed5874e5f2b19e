/- The walk of the program's Below where it succeeds. -/
import Derived.Test.YtdhhnnbcmddcaaaDoorZd
namespace Go.Proofs.YtdhhnnbcmddcaaaDoor
open Go.RowKit Go.Shelf
set_option linter.unusedVariables false
set_option linter.unusedSimpArgs false
attribute [local go_sem] Oper.semAt_some

theorem psum_take (l : List Int) (j : Nat) (e : Int) (h : l[j]? = some e) : psum (l.take (j + 1)) = psum (l.take j) + posP e := by
  obtain ⟨hj, rfl⟩ := List.getElem?_eq_some_iff.1 h
  rw [List.take_succ_eq_append_getElem hj]
  unfold psum
  rw [List.map_append, List.sum_append]
  simp only [List.map_cons, List.map_nil, List.sum_cons, List.sum_nil, Int.add_zero]
theorem psum_in (l : List Int) (h : ∀ d ∈ l, ∃ m : Nat, m < 40 ∧ d = (m : Int)) : 0 ≤ psum l ∧ psum l ≤ l.length * 300000000 := by
  induction l with
  | nil => simp [psum]
  | cons d l ih =>
    obtain ⟨h1, h2⟩ := ih (fun e he => h e (List.mem_cons_of_mem _ he))
    obtain ⟨m, hm, rfl⟩ := h d List.mem_cons_self
    have := posP_pos m hm
    have := posP_top m hm
    rw [psum_cons, List.length_cons]
    omega
theorem prJ_len (x : Int × Int) (j : Nat) (hj : j ≤ 80) : (prJ x j).2.length ≤ j := by
  induction j with
  | zero => simp [prJ]
  | succ j ih =>
    have := ih (by omega)
    rw [prJ_succ x j (by omega), prS]
    split
    · omega
    · simp; omega
set_option maxHeartbeats 4000000 in
set_option maxRecDepth 100000 in
theorem Below_z (x : Int × Int) (hx : numB x.1 x.2 = true) (hm : nn (minusG (1000000, 0) x)) (w : World) :
    Calls Tryd.prog 8 #[.agg (gv x)] w fun e w' => e = .returned (.tuple #[.int .i64 (blw (partsL x)), .int .i64 0]) ∧ Keeps w w' := by
  have hn := fun y => isNumber_v x y
  have sx := sm2_of hx
  have hmi := fun y => minus_v x (1000000, 0) (sm2_mono sx (by decide)) (by unfold sm2 sm; simp) y
  have hsg := fun y => sign_v (minusG x (1000000, 0)) (by unfold sm2 sm minusG at *; simp only; omega) y
  have hpa := fun y => parts_c x y
  have hd : decide (0 < sgn (minusG x (1000000, 0)).1 (minusG x (1000000, 0)).2) = false := decide_eq_false (nn_not hm (by simp only [minusG]; omega) (by simp only [minusG]; omega))
  rw [hx] at hn
  clear hx hm
  generalize minusG x (1000000, 0) = d at *
  generalize sgn d.1 d.2 = sg at *
  have hX0 := ((At.new w 23 (gv x)).alloc (.cells #[.int .i64 0] 3)).alloc (.cells #[.int .i64 0] 24)
  have hA0 := (At.new2 w (.cells (gv x) 23) 3 #[.int .i64 0]).alloc (.cells #[.int .i64 0] 24)
  have hB0 := At.new3 w (.cells (gv x) 23) (.cells #[.int .i64 0] 3) 24 #[.int .i64 0]
  have k0 : Keeps w (((w.alloc (.cells (gv x) 23)).alloc (.cells #[.int .i64 0] 3)).alloc (.cells #[.int .i64 0] 24)) := Keeps.alloc (Keeps.alloc (Keeps.alloc (Below.refl _ _) _) _) _
  refine (callsIn_wide (n := 5)).1 ?_
  refine callsIn_of_wp_marks Tryd.func8 rfl trivial ?_ rfl
  simp only [Tryd.ntmps8, List.size_toArray, List.length_cons, List.length_nil, Nat.reduceAdd, Nat.reduceSub, Array.replicate_succ, Array.replicate_zero, List.push_toArray, List.append_toArray, List.nil_append, List.cons_append]
  rw [show (Value.agg (gv x)) = .agg #[.int .i64 x.1, .int .i64 x.2] from rfl]
  gi_wp2_with (refine in_load_row rfl 23 _ rfl w.heap.size rfl 23 (gv x) _ hX0 Tryd.underlying23 rfl (sizeV _) ?_)
  refine ⟨trivial, (callsIn_wide.2 (hn _)).mono ?_⟩
  rintro e w1 ⟨rfl, hk1⟩
  have hX1 := hX0.later hk1
  have hA1 := hA0.later hk1
  have hB1 := hB0.later hk1
  have k1 := Keeps.next k0 hk1
  clear hn hX0 hA0 hB0
  obtain ⟨p1, p2, p3, p4⟩ := row_four hX1
  gi_wp2_with fail
  refine ⟨trivial, (callsIn_wide.2 (hmi _)).mono ?_⟩
  rintro e w2 ⟨rfl, hk2⟩
  gi_wp2_with fail
  refine ⟨trivial, (callsIn_wide.2 (hsg _)).mono ?_⟩
  rintro e w3 ⟨rfl, hk3⟩
  have hk23 := Keeps.next hk2 hk3
  have hX3 := hX1.later hk23
  have hA3 := hA1.later hk23
  have hB3 := hB1.later hk23
  have k3 := Keeps.next k1 hk23
  clear hmi hsg hX1 hA1 hB1 p1 p2 p3 p4
  have hX4 := hX3.alloc (.cells #[.int .i64 0] 3)
  gi_wp2_with (refine in_load_row rfl 23 _ rfl w.heap.size rfl 23 (gv x) _ hX4 Tryd.underlying23 rfl (sizeV _) ?_)
  refine ⟨trivial, (callsIn_wide.2 (hpa _)).mono ?_⟩
  rintro e w4 ⟨rfl, rfl⟩
  gi_wp2_with fail
  obtain ⟨Y, hY⟩ : ∃ Y, ((w3.alloc (.cells #[.int .i64 0] 3)).alloc (.cells (gv x) 23)) = Y := ⟨_, rfl⟩
  have hYs : Y.heap.size = w3.heap.size + 2 := by rw [← hY]; simp
  have h4Y : At Y w3.heap.size 3 #[.int .i64 0] := by rw [← hY]; exact (At.new w3 3 #[.int .i64 0]).alloc _
  have hbY : At Y (w3.heap.size + 1) 23 (gv x) := by rw [← hY]; exact At.new' _ _ (by simp) _ _
  have z3 := k3.size
  have hAY : At Y (w.heap.size + 1) 3 #[.int .i64 0] := by rw [← hY]; exact (hA3.alloc _).alloc _
  have hBY : At Y (w.heap.size + 1 + 1) 24 #[.int .i64 0] := by rw [← hY]; exact (hB3.alloc _).alloc _
  have hkY : Keeps w Y := by rw [← hY]; exact Keeps.alloc (Keeps.alloc k3 _) _
  have lB := hB3.lt
  rw [hY]
  clear hY hX3 hX4 hA3 hB3 hpa hk1 hk2 hk3 hk23 k0 k1 k3
  generalize w3.heap.size = b4 at *
  refine range_mine (partsL x) (gf := 42) (lb := #[.pointer (some ⟨b4 + 1, 0, none⟩)]) rfl (enters_of Tryd.func42 (by kernel_rfl) rfl)
    (parts_iter x sx (b4 + 1) (fun r => r = b4 + 1) rfl Y (fun r h => by omega) hbY)
    (fun _ _ => rfl) (fun r h => by omega) (fun _ _ _ _ _ _ => trivial)
    (fun j M Z => (∀ e ∈ (partsL x).take j, 0 ≤ e) ∧ At Z b4 3 #[.int .i64 (psum ((partsL x).take j))] ∧ At Z (w.heap.size + 1) 3 #[.int .i64 0] ∧ At Z (w.heap.size + 1 + 1) 24 #[.int .i64 0] ∧ Below w.heap.size w Z)
    (fun _ _ Z => At Z (w.heap.size + 1) 3 #[.int .i64 (blw (partsL x))] ∧ At Z (w.heap.size + 1 + 1) 24 #[.int .i64 0] ∧ Below w.heap.size w Z)
    (fun j M Z Z' ⟨h0, h1, h2, h3, h4⟩ hh => ⟨h0, h1.holds hh (.inl (by omega)), h2.holds hh (.inl (by omega)), h3.holds hh (.inl (by omega)), ((Holds.of_below h4).trans2 hh (fun r _ h => .inl (by omega))).below (Nat.le_refl _)⟩)
    (fun j M Z Z' ⟨h2, h3, h4⟩ hh => ⟨h2.holds hh (.inl (by omega)), h3.holds hh (.inl (by omega)), ((Holds.of_below h4).trans2 hh (fun r _ h => .inl (by omega))).below (Nat.le_refl _)⟩)
    ⟨by simp, h4Y, hAY, hBY, hkY⟩
    (fun e a' Z => ∃ b5, Y.heap.size + 2 ≤ b5 ∧ At Z b5 23 (gv (pw e)) ∧ a' = { tmps := #[.agg #[.int .i64 x.1, .int .i64 x.2], .pointer (some ⟨w.heap.size, 0, none⟩), .pointer (some ⟨w.heap.size + 1, 0, none⟩), .pointer (some ⟨w.heap.size + 1 + 1, 0, none⟩), .pointer (some ⟨b4, 0, none⟩), .int .i64 e, .pointer (some ⟨b5, 0, none⟩),
      .agg (gv x), .bool true, .bool false, .bool false, .agg #[.int .i64 x.1, .int .i64 x.2], .agg #[.int .i64 1000000, .int .i64 0], .agg (gv d), .int .i64 sg, .bool false, .bool false, .agg (gv x), .func (.func 42) #[] #[.pointer (some ⟨b4 + 1, 0, none⟩)], .int .i64 e, .agg (gv (pw e)), undef, undef, undef, undef, undef, undef, undef, undef, undef], defers := [] })
    (fun e a Z Z' hh ⟨b5, h1, h2, h3⟩ => ⟨b5, h1, h2.holds hh (by omega), h3⟩) ?assign ?body ?done ?stop
  case assign =>
    intro l' j e M1 Z _ _ _ hsz
    have HYs := Lib.hid hYs
    clear hYs
    simp only [encP]
    gi_wp2_with (refine in_store_row rfl 23 _ _ rfl Z.heap.size (gv (pw e)) rfl rfl 23 (gv (0, 0)) (At.new Z 23 _) (sizeV _) rfl (oneV _) ?_)
    refine ⟨Holds.mono (Holds.row (K := fun r => r ≠ Z.heap.size) ((Holds.refl _ Z).alloc _) _ (by simp) _) (fun r hr _ => by omega), Z.heap.size, hsz, (At.new Z 23 (gv (0, 0))).row _, rfl⟩
  case body =>
    rintro l' j e M1 a' Z hxe ⟨hge, h4, hA, hB, hbel⟩ hM1 hKin _ ⟨b5, hb5, hp, rfl⟩ hsz
    have hst := blw_stop (partsL x) j e hxe hge
    have hpt := psum_take (partsL x) j e hxe
    have hmem := prJ_mem x 80 (Nat.le_refl _) e (List.mem_of_getElem? hxe)
    have hps := psum_in ((partsL x).take j) (fun d hd => by
      obtain ⟨m, hm, rfl⟩ := prJ_mem x 80 (Nat.le_refl _) d (List.mem_of_mem_take hd)
      have := hge _ hd
      exact ⟨39 - m, by omega, by omega⟩)
    have hlen : ((partsL x).take j).length ≤ 80 := Nat.le_trans (List.length_take_le' j (partsL x)) (prJ_len x 80 (Nat.le_refl _))
    have hge' : 0 ≤ e → ∀ d ∈ (partsL x).take (j + 1), 0 ≤ d := fun h d hd => by
      obtain ⟨hj, rfl⟩ := List.getElem?_eq_some_iff.1 hxe
      rw [List.take_succ_eq_append_getElem hj] at hd
      rcases List.mem_append.1 hd with hd | hd
      · exact hge d hd
      · obtain rfl : d = (partsL x)[j] := by simpa using hd
        exact h
    have hpb : 0 ≤ psum ((partsL x).take j) ∧ psum ((partsL x).take j) ≤ 24000000000 := by omega
    have c4 := h4.cell 0
    have cA := hA.cell 0
    have cB := hB.cell 0
    have fA := hA.frozen 0
    have fB := hB.frozen 0
    simp only [List.getElem?_toArray, List.getElem?_cons_zero] at c4 cA cB
    obtain ⟨pe, hpe⟩ : ∃ pe, pw e = pe := ⟨_, rfl⟩
    rw [hpe] at hp ⊢
    have q1 : IntKind.i64.wrap (psum ((partsL x).take j) + 1) = psum ((partsL x).take j) + 1 := IntWalk.i64_in _ (by omega)
    have hYw : b4 + 2 ≤ Y.heap.size := by omega
    have HYs := Lib.hid hYs
    have Hge := Lib.hid hge'
    have Hpt := Lib.hid hpt
    have Hst := Lib.hid hst
    clear hYs hge' hge hst hpt hps hlen hxe
    generalize hps : psum ((partsL x).take j) = s at *
    clear hps
    by_cases hneg : e < 0
    · have d1 : decide (e < 0) = true := by simpa using hneg
      have hst := Hst.out hneg
      have Hs := Lib.hid hst
      clear hst hneg hmem
      gi_wp2_with fail
      have hYs := HYs.out
      refine ⟨M1, fun r hr => Nat.lt_of_lt_of_le (hM1 r hr).2 (by simp [World.setCell]), fun r h => .inl h, ((Holds.refl _ Z).set _ (by simp; omega) _).set _ (by simp; omega) _, ?_, ?_, Keeps.set (Keeps.set hbel _ (by omega) _ _) _ (by omega) _ _⟩
      · rw [Hs.out]; exact (hA.set 0 _).far (by simp) _
      · exact (hB.far (by simp) _).set 0 _
    · have d1 : decide (e < 0) = false := by simpa using hneg
      have he0 : 0 ≤ e := by omega
      obtain ⟨m, hm, hem⟩ := hmem
      have hsp : sm2 300000000 pe := by rw [← hpe]; exact pw_sm e (by omega) (by omega)
      have hpo := fun y => position_v pe (sm2_mono hsp (by decide)) y
      have hpv : pe.1 + 2 * pe.2 = posP e := by rw [← hpe]; rfl
      rw [hpv] at hpo
      have hpi : 0 < posP e ∧ posP e ≤ 300000000 := by
        have e1 := posP_pos (39 - m) (by omega)
        have e2 := posP_top (39 - m) (by omega)
        rw [show ((39 - m : Nat) : Int) = e by omega] at e1 e2
        exact ⟨e1, e2⟩
      have q2 : IntKind.i64.wrap (s + posP e) = s + posP e := IntWalk.i64_in _ (by omega)
      have Hpe := Lib.hid hpe
      have Hem := Lib.hid hem
      clear hneg hpe hem hpv hsp q1
      generalize hpp : posP e = pp at *
      clear hpp
      gi_wp2_with fail
      refine region_earlyIn [] (G := Unit) (f := ?f) (fun _ => [.int .i64 s, .agg (gv pe), .int .i64 pp, .int .i64 (s + pp), undef])
        (fun _ L w' => ∃ V, Keeps Z V ∧ w' = bif L 4 then V.setCell ⟨b4, 0, none⟩ (.int .i64 (s + pp)) else V) () (fun _ => ?hf) (by kernel_rfl) (by kernel_rfl) (by kernel_rfl) (fun _ h => by cases h) ⟨_, below_drewN (n := 1) (Below.refl _ _), rfl⟩ ?steps ?fin
      case hf =>
        simp only [fill, List.toList_toArray, List.zip_cons_cons, List.zip_nil_left, List.zip_nil_right, List.foldl_cons, List.foldl_nil, Act.put, List.setIfInBounds_toArray, List.set_cons_succ, List.set_cons_zero]
        exact rfl
      case steps =>
        refine StepsIn.cons rfl (fun g L w' hL hr hc hF => ?_) ?_
        · obtain ⟨V, k3, hw⟩ := hF
          have e9 : L 4 = false := hc.not 4 0 rfl rfl hL
          rw [e9, cond_false] at hw
          subst hw
          have E9 := Lib.hid e9
          clear e9
          have cw := (h4.later k3).cell 0
          simp only [List.getElem?_toArray, List.getElem?_cons_zero] at cw
          clear hpo
          refine StepIn.go rfl (fun K hK => ?_)
          go_simp
          exact hK () _ ⟨_, k3, by rw [show add L 0 4 = L 4 from rfl, E9.out]; rfl⟩
        refine StepsIn.cons rfl (fun g L w' hL hr hc hF => ?_) ?_
        · obtain ⟨V, k3, hw⟩ := hF
          have e9 : L 4 = false := hc.not 4 1 rfl rfl hL
          rw [e9, cond_false] at hw
          subst hw
          have E9 := Lib.hid e9
          clear e9
          obtain ⟨p1, p2, p3, p4⟩ := row_four (hp.later k3)
          clear hpo
          refine StepIn.go rfl (fun K hK => ?_)
          go_simp
          exact hK () _ ⟨_, k3, by rw [show add L 1 4 = L 4 from rfl, E9.out]; rfl⟩
        refine StepsIn.cons rfl (fun g L w' hL hr hc hF => ?_) ?_
        · obtain ⟨V, k3, hw⟩ := hF
          have e9 : L 4 = false := hc.not 4 2 rfl rfl hL
          rw [e9, cond_false] at hw
          subst hw
          have E9 := Lib.hid e9
          clear e9
          have call9 := hpo w'
          have C9 := Lib.hid call9
          clear call9
          clear hpo
          refine StepIn.go rfl (fun K hK => ?_)
          go_simp
          refine ⟨trivial, ((callsIn_wide.2 C9.out).inRound l').mono ?_⟩
          rintro e w2 ⟨rfl, b3⟩
          exact hK () _ ⟨w2, Keeps.next k3 b3, by rw [show add L 2 4 = L 4 from rfl, E9.out]; rfl⟩
        refine StepsIn.cons rfl (fun g L w' hL hr hc hF => ?_) ?_
        · obtain ⟨V, k3, hw⟩ := hF
          have e9 : L 4 = false := hc.not 4 3 rfl rfl hL
          rw [e9, cond_false] at hw
          subst hw
          have E9 := Lib.hid e9
          clear e9
          clear hpo
          refine StepIn.go rfl (fun K hK => ?_)
          go_simp
          exact hK () _ ⟨_, k3, by rw [show add L 3 4 = L 4 from rfl, E9.out]; rfl⟩
        refine StepsIn.cons rfl (fun g L w' hL hr hc hF => ?_) ?_
        · obtain ⟨V, k3, hw⟩ := hF
          have e9 : L 4 = false := hL
          rw [e9, cond_false] at hw
          subst hw
          have E9 := Lib.hid e9
          clear e9
          have fw := (h4.later k3).frozen 0
          have cw := (h4.later k3).cell 0
          simp only [List.getElem?_toArray, List.getElem?_cons_zero] at cw
          clear hpo
          refine StepIn.go rfl (fun K hK => ?_)
          go_simp
          exact hK () _ ⟨_, k3, by rw [add_same]; rfl⟩
        exact StepsIn.nil (by simp)
      case fin =>
      intro g L w5 hall hF
      obtain ⟨V, k5, hw⟩ := hF
      rw [hall 4 (by simp), cond_true] at hw
      subst hw
      clear hall
      have hYs := HYs.out
      have hz5 := k5.size
      have hb4 := h4.lt
      have h45 := h4.later k5
      have hA5 := hA.later k5
      have hB5 := hB.later k5
      have hbel5 := Keeps.next hbel k5
      have hHk : Holds (fun r => (r = b4 + 1) ∨ (Y.heap.size ≤ r ∧ ¬ M1 r)) Z V := Holds.of_keeps k5 _
      clear hYs
      gi_wp2_with fail
      have hYs := HYs.out
      refine ⟨M1, fun r hr => Nat.lt_of_lt_of_le (hM1 r hr).2 (by simpa [World.setCell] using hz5), fun r h => .inl h, hHk.set _ (by simp; omega) _, Hge.out he0, ?_, hA5.far (by simp; omega) _, hB5.far (by simp; omega) _, Keeps.set hbel5 _ (by omega) _ _⟩
      rw [Hpt.out]
      exact h45.set 0 _
  case done =>
    rintro M1 Z ⟨hge, h4, hA, hB, hbel⟩ hK' hM1
    rw [List.take_length] at hge h4
    have hbl := blw_all (partsL x) hge
    have c4 := h4.cell 0
    have cA := hA.cell 0
    have cB := hB.cell 0
    have fA := hA.frozen 0
    have fB := hB.frozen 0
    simp only [List.getElem?_toArray, List.getElem?_cons_zero] at c4 cA cB
    have HYs := Lib.hid hYs
    have HK := Lib.hid hK'
    have HB := Lib.hid hbl
    clear hYs hK' hbl hge
    generalize psum (partsL x) = s at *
    gi_wp2_with fail
    have hYs := HYs.out
    have hfin : Holds (fun r => r = Y.heap.size) Z ((Z.setCell ⟨w.heap.size + 1, 0, none⟩ (.int .i64 s)).setCell ⟨w.heap.size + 1 + 1, 0, none⟩ (.int .i64 0)) := ((Holds.refl _ _).set _ (by simp; omega) _).set _ (by simp; omega) _
    refine ⟨by simp, .inl ⟨_, _, rfl, run_takeDeferred ((hfin.block _ (Array.getElem?_eq_some_iff.1 HK.out).1 rfl).trans HK.out), ?_⟩⟩
    have y1 := ((hA.set 0 (.int .i64 s)).far (p := ⟨w.heap.size + 1 + 1, 0, none⟩) (by simp) (.int .i64 0))
    have y2 := ((hB.far (p := ⟨w.heap.size + 1, 0, none⟩) (by simp) (.int .i64 s)).set 0 (.int .i64 0))
    have hk4 : Keeps w ((Z.setCell ⟨w.heap.size + 1, 0, none⟩ (.int .i64 s)).setCell ⟨w.heap.size + 1 + 1, 0, none⟩ (.int .i64 0)) := Keeps.set (Keeps.set hbel _ (by omega) _ _) _ (by omega) _ _
    generalize (Z.setCell ⟨w.heap.size + 1, 0, none⟩ (.int .i64 s)).setCell ⟨w.heap.size + 1 + 1, 0, none⟩ (.int .i64 0) = X at *
    have hfp : Holds (fun r => r ≠ Y.heap.size) X (X.putObj Y.heap.size (.deferred none)) := (Holds.refl _ _).put _ (by simp) _
    have x1 := (y1.holds hfp (by omega)).cell 0
    have x2 := (y2.holds hfp (by omega)).cell 0
    exact ⟨_, results_2 Tryd.results8 _ _ (w.heap.size + 1) (w.heap.size + 1 + 1) _ _ rfl rfl x1 x2 (Tryd.isAgg3 _) (Tryd.isAgg24 _), by rw [HB.out]; rfl, ((Holds.of_below hk4).trans2 hfp (fun r _ h => by omega)).below (Nat.le_refl _)⟩
  case stop =>
    rintro k M1 Z ⟨hA, hB, hbel⟩ hK' hM1
    have HYs := Lib.hid hYs
    have HK := Lib.hid hK'
    clear hYs hK'
    gi_wp2_with fail
    have hYs := HYs.out
    refine ⟨by simp, .inl ⟨_, _, rfl, run_takeDeferred HK.out, ?_⟩⟩
    have hfp : Holds (fun r => r ≠ Y.heap.size) Z (Z.putObj Y.heap.size (.deferred none)) := (Holds.refl _ _).put _ (by simp) _
    have x1 := (hA.holds hfp (by omega)).cell 0
    have x2 := (hB.holds hfp (by omega)).cell 0
    exact ⟨_, results_2 Tryd.results8 _ _ (w.heap.size + 1) (w.heap.size + 1 + 1) _ _ rfl rfl x1 x2 (Tryd.isAgg3 _) (Tryd.isAgg24 _), rfl, ((Holds.of_below hbel).trans2 hfp (fun r _ h => by omega)).below (Nat.le_refl _)⟩
end Go.Proofs.YtdhhnnbcmddcaaaDoor
