/- The walk of the reference's Below. -/
import Derived.Test.YtdhhnnbcmddcaaaDoorZa
import Derived.Test.YtdhhnnbcmddcaaaDoorXc
import Derived.Test.YtdhhnnbcmddcaaaDoorUa
namespace Go.Proofs.YtdhhnnbcmddcaaaDoor
open Go.RowKit
set_option linter.unusedVariables false
set_option linter.unusedSimpArgs false

theorem decide_po (x : Int × Int) (b : Bool) (h : decide (po x) = b) : decide (0 < sgn x.1 x.2) = b := h
theorem refBelow_no (x : Int × Int) (hx : numB x.1 x.2 = true) (hp : ¬ po x) (w : World) :
    Calls Tryd.prog 13 #[.agg (gv x)] w fun e w' => e = .returned (.int .i64 0) ∧ Keeps w w' := by
  have sx := sm2_of hx
  have c0 := fun z => refSign_v x (sm2_mono sx (by decide)) z
  have d0 : decide (sgn x.1 x.2 ≤ 0) = true := by unfold po at hp; simpa using hp
  obtain ⟨W, hW⟩ : ∃ W, w.alloc (.cells #[.int .i64 x.1, .int .i64 x.2] 23) = W := ⟨_, rfl⟩
  have a0 : At W w.heap.size 23 (gv x) := by rw [← hW]; exact At.new w _ _
  have k0 : Keeps w W := by rw [← hW]; exact Keeps.alloc (Below.refl _ _) _
  have HW := Lib.hid hW
  clear hW hp sx hx
  change Calls Tryd.prog 13 #[.agg #[.int .i64 x.1, .int .i64 x.2]] w _
  go_enter Tryd.func13, Tryd.ntmps13
  go_upto_region 1 with fail
  rw [HW.out]
  clear HW
  go_wp2_with (first
    | (refine load_row_w rfl 23 _ rfl _ rfl 23 _ _ _ a0 Tryd.underlying23 rfl (sizeV _) ?_)
    | (go_at_call 10
       refine (c0 _).mono ?_
       rintro e w1 ⟨rfl, b1⟩
       have k1 := Keeps.next k0 b1
       clear c0))
  go_ret
  exact ⟨rfl, k1⟩
set_option maxHeartbeats 4000000 in
set_option maxRecDepth 100000 in
theorem refBelow_yes (x : Int × Int) (hx : numB x.1 x.2 = true) (hp : po x) (hm : nn (minusG (1000000, 0) x)) (B : Int) (hB : Place x B) (w : World) :
    Calls Tryd.prog 13 #[.agg (gv x)] w fun e w' => e = .returned (.int .i64 B) ∧ Keeps w w' := by
  have sx := sm2_of hx
  have c0 := fun z => refSign_v x (sm2_mono sx (by decide)) z
  have cR := fun (k : Int) (h0 : 0 ≤ k) (h1 : k ≤ 5000000) z => refRung_c k h0 h1 z
  have hs : ∀ k : Int, 0 ≤ k → k ≤ 5000000 → sm2 10000000 (rungG k) ∧ sm2 11000000 (minusG x (rungG k)) := fun k h0 h1 => by
    have := rung_pos k h0 (by omega)
    unfold sm2 sm minusG at *
    simp only at *
    omega
  have cM := fun (k : Int) (h0 : 0 ≤ k) (h1 : k ≤ 5000000) z => refMinus_v x (rungG k) (sm2_mono sx (by decide)) (sm2_mono (hs k h0 h1).1 (by decide)) z
  have cS := fun (k : Int) (h0 : 0 ≤ k) (h1 : k ≤ 5000000) z => refSign_v (minusG x (rungG k)) (sm2_mono (hs k h0 h1).2 (by decide)) z
  have d0 : decide (sgn x.1 x.2 ≤ 0) = false := by unfold po at hp; simpa using hp
  have hbig : ∀ n : Int, 0 ≤ n → n ≤ 4400000 → po (minusG x (rungG n)) → n ≤ 2200000 := fun n h0 h1 h => by
    rcases Int.lt_or_le n 2200001 with h2 | h2
    · omega
    · exfalso
      have e1 := rung_le (posP ((30 : Nat) : Int)) n (by rw [posP_30]; decide) (by rw [posP_30]; omega) (by omega)
      have e2 : rungG (posP ((30 : Nat) : Int)) = pw ((30 : Nat) : Int) := by decide +kernel
      rw [e2] at e1
      have e3 : nn (minusG (pw ((30 : Nat) : Int)) (1000000, 0)) := by decide +kernel
      have e4 : nn (minusG (rungG n) (1000000, 0)) := nn_sum e1 e3 (by simp only [minusG]; omega) (by simp only [minusG]; omega)
      have e5 : nn (minusG (rungG n) x) := nn_sum e4 hm (by simp only [minusG]; omega) (by simp only [minusG]; omega)
      exact nn_not e5 (by simp only [minusG]; omega) (by simp only [minusG]; omega) h
  have hpl : ∀ a b : Int, 0 ≤ a → a + 1 = b → b ≤ 4400000 → (a = 0 ∨ po (minusG x (rungG a))) → ¬ po (minusG x (rungG b)) → b = B := fun a b h0 h1 h2 h3 h4 => by
    refine place_one x b B ⟨by omega, by omega, ?_, not_po h4 (by simp only [minusG]; omega) (by simp only [minusG]; omega)⟩ hB
    rw [show b - 1 = a by omega]
    rcases h3 with rfl | h3
    · rw [rungG_zero]
      exact po_sum hp nn_zero (by simp only [minusG]; omega) (by simp only [minusG]; omega)
    · exact h3
  have Hs := Lib.hid hs
  have Hbig := Lib.hid hbig
  have Hpl := Lib.hid hpl
  obtain ⟨W, hW⟩ : ∃ W, w.alloc (.cells #[.int .i64 x.1, .int .i64 x.2] 23) = W := ⟨_, rfl⟩
  have a0 : At W w.heap.size 23 (gv x) := by rw [← hW]; exact At.new w _ _
  have k0 : Keeps w W := by rw [← hW]; exact Keeps.alloc (Below.refl _ _) _
  have HW := Lib.hid hW
  clear hW hp hm hs hbig hpl sx hx hB
  change Calls Tryd.prog 13 #[.agg #[.int .i64 x.1, .int .i64 x.2]] w _
  go_enter Tryd.func13, Tryd.ntmps13
  go_upto_region 1 with fail
  rw [HW.out]
  clear HW
  go_wp2_with (first
    | (refine load_row_w rfl 23 _ rfl _ rfl 23 _ _ _ a0 Tryd.underlying23 rfl (sizeV _) ?_)
    | (go_at_call 10
       refine (c0 _).mono ?_
       rintro e w1 ⟨rfl, b1⟩
       have a1 := a0.later b1
       have k1 := Keeps.next k0 b1
       clear c0 a0 k0))
  clear d0
  go_loopw [4] (fun h wr => ∃ n : Int, 1 ≤ n ∧ n ≤ 4400000 ∧ h = .int .i64 n ∧ At wr w.heap.size 23 (gv x) ∧ Keeps w wr) (fun h _ => (4400001 - intOf h).toNat)
  case atStart => exact ⟨1, by omega, by omega, rfl, a1, k1⟩
  case round =>
    obtain ⟨n, h1, h2, rfl, a2, k2⟩ := hrel
    clear a1 k1
    generalize wr = w3 at *
    have d1 := cR n (by omega) (by omega)
    have d2 := cM n (by omega) (by omega)
    have d3 := cS n (by omega) (by omega)
    obtain ⟨b, hb⟩ : ∃ b, decide (0 < sgn (minusG x (rungG n)).1 (minusG x (rungG n)).2) = b := ⟨_, rfl⟩
    have HB := Lib.hid hb
    obtain ⟨df, hdf⟩ : ∃ df, minusG x (rungG n) = df := ⟨_, rfl⟩
    obtain ⟨rn, hrn⟩ : ∃ rn, rungG n = rn := ⟨_, rfl⟩
    rw [hdf] at hb d2 d3
    rw [hrn] at d1 d2
    clear hdf hrn
    generalize sgn df.1 df.2 = sg at *
    go_upto_region 4 with fail
    refine region_any_inv (G := Unit) (f := ?f1) (fun _ => [.agg (gv x), .int .i64 n, .agg (gv rn), .agg (gv df), .int .i64 sg, .bool b])
      (fun _ _ w' => Keeps w3 w') () (fun _ => ?hf1) (by kernel_rfl) (by kernel_rfl) (below_drewN (n := 1) (Below.refl _ _)) ?steps1 ?fin1
    case hf1 =>
      simp only [fill, List.toList_toArray, List.zip_cons_cons, List.zip_nil_left, List.zip_nil_right, List.foldl_cons, List.foldl_nil, Act.put, List.setIfInBounds_toArray, List.set_cons_succ, List.set_cons_zero]
      exact rfl
    case steps1 =>
      refine StepsU.cons rfl (fun g L w' hL hr hc hF => ?_) ?_
      · have k3 : Keeps w3 w' := hF
        clear hF
        obtain ⟨p1, p2, p3, p4⟩ := row_four (a2.later k3)
        clear cR cM cS d1 d2 d3
        refine StepU.go rfl (fun K hK => ?_)
        go_simp
        exact hK () _ k3
      refine StepsU.cons rfl (fun g L w' hL hr hc hF => ?_) ?_
      · have k3 : Keeps w3 w' := hF
        clear hF
        clear cR cM cS d1 d2 d3
        refine StepU.go rfl (fun K hK => ?_)
        go_simp
        exact hK () _ k3
      refine StepsU.cons rfl (fun g L w' hL hr hc hF => ?_) ?_
      · have k3 : Keeps w3 w' := hF
        clear hF
        have call9 := d1 w'
        have C9 := Lib.hid call9
        clear call9
        clear cR cM cS d1 d2 d3
        refine StepU.go rfl (fun K hK => ?_)
        go_simp
        refine C9.out.mono ?_
        rintro e w2 ⟨rfl, b3⟩
        exact hK () _ (Keeps.next k3 b3)
      refine StepsU.cons rfl (fun g L w' hL hr hc hF => ?_) ?_
      · have k3 : Keeps w3 w' := hF
        clear hF
        have call9 := d2 w'
        have C9 := Lib.hid call9
        clear call9
        clear cR cM cS d1 d2 d3
        refine StepU.go rfl (fun K hK => ?_)
        go_simp
        refine C9.out.mono ?_
        rintro e w2 ⟨rfl, b3⟩
        exact hK () _ (Keeps.next k3 b3)
      refine StepsU.cons rfl (fun g L w' hL hr hc hF => ?_) ?_
      · have k3 : Keeps w3 w' := hF
        clear hF
        have call9 := d3 w'
        have C9 := Lib.hid call9
        clear call9
        clear cR cM cS d1 d2 d3
        refine StepU.go rfl (fun K hK => ?_)
        go_simp
        refine C9.out.mono ?_
        rintro e w2 ⟨rfl, b3⟩
        exact hK () _ (Keeps.next k3 b3)
      refine StepsU.cons rfl (fun g L w' hL hr hc hF => ?_) ?_
      · have k3 : Keeps w3 w' := hF
        clear hF
        clear cR cM cS d1 d2 d3
        refine StepU.go rfl (fun K hK => ?_)
        go_simp
        exact hK () _ k3
      exact StepsU.nil (by simp)
    case fin1 =>
    intro g L w4 hall k4
    clear hall g L
    have a4 := a2.later k4
    have k5 := Keeps.next k2 k4
    clear a2 k2 k4 d1 d2 d3 hb
    cases b
    · go_wp2_with fail
      go_loopw [3, 4, 5] (fun l h _ wr => ∃ a b : Int, 0 ≤ a ∧ a < b ∧ b ≤ 4400000 ∧ l = .int .i64 a ∧ h = .int .i64 b ∧ (a = 0 ∨ po (minusG x (rungG a))) ∧ ¬ po (minusG x (rungG b)) ∧ At wr w.heap.size 23 (gv x) ∧ Keeps w wr) (fun l h _ _ => (intOf h - intOf l).toNat)
      case atStart => exact ⟨0, n, by omega, by omega, h2, rfl, rfl, .inl rfl, of_decide_eq_false (decide_po _ _ HB.out), a4, k5⟩
      case round =>
        obtain ⟨a, b, h3, h4, h5, rfl, rfl, h6, h7, a6, k6⟩ := hrel
        clear a4 k5 HB
        generalize wr = w7 at *
        have q1 : IntKind.i64.wrap (a + 1) = a + 1 := IntWalk.i64_in _ (by omega)
        by_cases hlt : a + 1 < b
        · have d1 : decide (a + 1 < b) = true := by simpa using hlt
          obtain ⟨m, hm⟩ : ∃ m, (a + b) / 2 = m := ⟨_, rfl⟩
          have hm1 : a < m := by omega
          have hm2 : m < b := by omega
          have q2 : IntKind.i64.wrap (a + b) = a + b := IntWalk.i64_in _ (by omega)
          have q3 : 0 ≤ a + b := by omega
          have q4 : (a + b).tdiv 2 = m := by rw [Int.tdiv_eq_ediv_of_nonneg q3]; exact hm
          have q5 : IntKind.i64.wrap m = m := IntWalk.i64_in _ (by omega)
          have e1 := cR m (by omega) (by omega)
          have e2 := cM m (by omega) (by omega)
          have e3 := cS m (by omega) (by omega)
          obtain ⟨b', hb⟩ : ∃ b', decide (0 < sgn (minusG x (rungG m)).1 (minusG x (rungG m)).2) = b' := ⟨_, rfl⟩
          have Hb := Lib.hid hb
          have Hm := Lib.hid hm
          have H6 := Lib.hid h6
          have H7 := Lib.hid h7
          clear hm hlt h6 h7
          obtain ⟨df, hdf⟩ : ∃ df, minusG x (rungG m) = df := ⟨_, rfl⟩
          obtain ⟨rn, hrn⟩ : ∃ rn, rungG m = rn := ⟨_, rfl⟩
          rw [hdf] at hb e2 e3
          rw [hrn] at e1 e2
          clear hdf hrn
          generalize sgn df.1 df.2 = sg at *
          go_upto_region 8 with fail
          refine region_any_inv (G := Unit) (f := ?f2) (fun _ => [.agg (gv x), .int .i64 m, .agg (gv rn), .agg (gv df), .int .i64 sg, .bool b'])
            (fun _ _ w' => Keeps w7 w') () (fun _ => ?hf2) (by kernel_rfl) (by kernel_rfl) (below_drewN (n := 1) (Below.refl _ _)) ?steps2 ?fin2
          case hf2 =>
            simp only [fill, List.toList_toArray, List.zip_cons_cons, List.zip_nil_left, List.zip_nil_right, List.foldl_cons, List.foldl_nil, Act.put, List.setIfInBounds_toArray, List.set_cons_succ, List.set_cons_zero]
            exact rfl
          case steps2 =>
            refine StepsU.cons rfl (fun g L w' hL hr hc hF => ?_) ?_
            · have k3 : Keeps w7 w' := hF
              clear hF
              obtain ⟨p1, p2, p3, p4⟩ := row_four (a6.later k3)
              clear cR cM cS e1 e2 e3
              refine StepU.go rfl (fun K hK => ?_)
              go_simp
              exact hK () _ k3
            refine StepsU.cons rfl (fun g L w' hL hr hc hF => ?_) ?_
            · have k3 : Keeps w7 w' := hF
              clear hF
              clear cR cM cS e1 e2 e3
              refine StepU.go rfl (fun K hK => ?_)
              go_simp
              exact hK () _ k3
            refine StepsU.cons rfl (fun g L w' hL hr hc hF => ?_) ?_
            · have k3 : Keeps w7 w' := hF
              clear hF
              have call9 := e1 w'
              have C9 := Lib.hid call9
              clear call9
              clear cR cM cS e1 e2 e3
              refine StepU.go rfl (fun K hK => ?_)
              go_simp
              refine C9.out.mono ?_
              rintro e w2 ⟨rfl, b3⟩
              exact hK () _ (Keeps.next k3 b3)
            refine StepsU.cons rfl (fun g L w' hL hr hc hF => ?_) ?_
            · have k3 : Keeps w7 w' := hF
              clear hF
              have call9 := e2 w'
              have C9 := Lib.hid call9
              clear call9
              clear cR cM cS e1 e2 e3
              refine StepU.go rfl (fun K hK => ?_)
              go_simp
              refine C9.out.mono ?_
              rintro e w2 ⟨rfl, b3⟩
              exact hK () _ (Keeps.next k3 b3)
            refine StepsU.cons rfl (fun g L w' hL hr hc hF => ?_) ?_
            · have k3 : Keeps w7 w' := hF
              clear hF
              have call9 := e3 w'
              have C9 := Lib.hid call9
              clear call9
              clear cR cM cS e1 e2 e3
              refine StepU.go rfl (fun K hK => ?_)
              go_simp
              refine C9.out.mono ?_
              rintro e w2 ⟨rfl, b3⟩
              exact hK () _ (Keeps.next k3 b3)
            refine StepsU.cons rfl (fun g L w' hL hr hc hF => ?_) ?_
            · have k3 : Keeps w7 w' := hF
              clear hF
              clear cR cM cS e1 e2 e3
              refine StepU.go rfl (fun K hK => ?_)
              go_simp
              exact hK () _ k3
            exact StepsU.nil (by simp)
          case fin2 =>
          intro g L w8 hall k8
          clear hall g L
          have a8 := a6.later k8
          have k9 := Keeps.next k6 k8
          clear a6 k6 k8 e1 e2 e3 hb
          cases b'
          · go_wp2_with fail
            go_roundw
            case rel => exact ⟨a, m, h3, hm1, by omega, rfl, rfl, H6.out, of_decide_eq_false (decide_po _ _ Hb.out), a8, k9⟩
            case measure => simp [intOf]; omega
          · go_wp2_with fail
            go_roundw
            case rel => exact ⟨m, b, by omega, hm2, h5, rfl, rfl, .inr (of_decide_eq_true (decide_po _ _ Hb.out)), H7.out, a8, k9⟩
            case measure => simp [intOf]; omega
        · have d1 : decide (a + 1 < b) = false := by simpa using hlt
          have hB := Hpl.out a b h3 (by omega) h5 h6 h7
          subst hB
          clear h6 h7 Hpl
          go_wp2_with fail
          go_ret
          exact ⟨rfl, k6⟩
    · have hn := Hbig.out n (by omega) h2 (of_decide_eq_true (decide_po _ _ HB.out))
      have q1 : IntKind.i64.wrap (2 * n) = 2 * n := IntWalk.i64_in _ (by omega)
      go_wp2_with fail
      go_roundw
      case rel => exact ⟨2 * n, by omega, by omega, rfl, a4, k5⟩
      case measure => simp [intOf]; omega
end Go.Proofs.YtdhhnnbcmddcaaaDoor
