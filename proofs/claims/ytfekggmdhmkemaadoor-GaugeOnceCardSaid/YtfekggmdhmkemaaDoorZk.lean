/- The walk of the reference's Text. -/
import Derived.Test.YtfekggmdhmkemaaDoorZj
import Derived.Test.YtfekggmdhmkemaaDoorXc
import Derived.Test.YtfekggmdhmkemaaDoorUa
namespace Go.Proofs.YtfekggmdhmkemaaDoor
open Go.RowKit
set_option linter.unusedVariables false
set_option linter.unusedSimpArgs false

theorem txt_low (x : Int × Int) (n0 n : Nat) (h : n0 ≤ n) (hn : n ≤ 39) : txt x n0 (n + 1) = txt x n0 n ++ [dgt x n] := by
  unfold txt
  rw [if_pos (by omega), if_pos (by omega), dgs_succ x n0 n h]
theorem txt_40 (x : Int × Int) (n0 : Nat) : txt x n0 41 = (txt x n0 40 ++ [46]) ++ [dgt x 40] := by
  unfold txt
  rw [if_neg (by omega), if_pos (by omega), dgs_succ x 40 40 (by omega), dgs_self]
  simp
theorem txt_high (x : Int × Int) (n0 n : Nat) (hn : 40 < n) : txt x n0 (n + 1) = txt x n0 n ++ [dgt x n] := by
  unfold txt
  rw [if_neg (by omega), if_neg (by omega), dgs_succ x 40 n (by omega)]
  simp
theorem txt_size (x : Int × Int) (n0 n : Nat) (hn : n ≤ 80) : (txt x n0 n).length ≤ 81 := by
  unfold txt
  split
  · rw [dgs_length]; omega
  · simp [dgs_length]; omega
theorem sum_c (l : List UInt8) (c : UInt8) (h : l.length ≤ 1000) (W : World) : (Op.stringOp .add ⟨l.toArray⟩ ⟨#[c]⟩).run Tryd.prog W = .ok (.string ⟨(l ++ [c]).toArray⟩) W := by
  have := run_string_add_sum (P := Tryd.prog) (w := W) ⟨l.toArray⟩ ⟨#[c]⟩ (by
    have : (⟨l.toArray⟩ : ByteArray).size = l.length := by show l.toArray.size = _; simp
    rw [this]
    show l.length + 1 ≤ _
    omega)
  rw [str_snoc] at this
  exact this
theorem dgt_yes (x : Int × Int) (n : Nat) (hn : n < 80) (h : nn (minusG (xr x n) (pw (39 - (n : Int))))) : dgt x n = 49 ∧ xr x (n + 1) = minusG (xr x n) (pw (39 - (n : Int))) :=
  ⟨by unfold dgt; rw [if_pos h], congrArg Prod.fst (xr_yes x n hn h)⟩
theorem dgt_no (x : Int × Int) (n : Nat) (hn : n < 80) (h : ¬ nn (minusG (xr x n) (pw (39 - (n : Int))))) : dgt x n = 48 ∧ xr x (n + 1) = xr x n :=
  ⟨by unfold dgt; rw [if_neg h], congrArg Prod.fst (xr_no x n hn h)⟩
theorem xr_sm (x : Int × Int) (hx : sm2 1000000 x) (n : Nat) (hn : n < 80) : sm2 601000000 (xr x n) ∧ sm2 601000000 (minusG (xr x n) (pw (39 - (n : Int)))) := by
  have h1 := prJ_in x hx n (by omega)
  have h2 := cap_le n (by omega)
  have h3 := cap_le (n + 1) (by omega)
  have h4 := capA_succ n
  have h5 := capB_succ n
  rw [show (prJ x n).1 = xr x n from rfl] at h1
  unfold sm2 sm minusG at *
  simp only
  omega
theorem decide_nn (x : Int × Int) (b : Bool) (h : decide (nn x) = b) : decide (0 ≤ sgn x.1 x.2) = b := h
theorem sgn_ne (x : Int × Int) (h : x ≠ (0, 0)) : (sgn x.1 x.2 == 0) = false := by
  rw [beq_eq_false_iff_ne]
  intro e
  have := (sgn_zero _ _).1 e
  exact h (Prod.ext this.1 this.2)
set_option maxHeartbeats 8000000 in
set_option maxRecDepth 100000 in
theorem refText_c (x : Int × Int) (hx : numB x.1 x.2 = true) (hp : nn x) (w : World) :
    Calls Tryd.prog 15 #[.agg (gv x)] w fun e w' => e = .returned (.string ⟨(textG x).toArray⟩) ∧ Keeps w w' := by
  have sx := sm2_of hx
  have h33 := num_32 x sx
  have cP := fun (k : Int) (h0 : -40 ≤ k) (h1 : k ≤ 40) z => refPower_c k h0 h1 z
  have H33 := Lib.hid h33
  have Hp := Lib.hid hp
  have Hx := Lib.hid sx
  obtain ⟨W, hW⟩ : ∃ W, w.alloc (.cells #[.int .i64 x.1, .int .i64 x.2] 24) = W := ⟨_, rfl⟩
  have a0 : At W w.heap.size 24 (gv x) := by rw [← hW]; exact At.new w _ _
  have k0 : Keeps w W := by rw [← hW]; exact Keeps.alloc (Below.refl _ _) _
  have HW := Lib.hid hW
  clear hW hp sx hx h33
  change Calls Tryd.prog 15 #[.agg #[.int .i64 x.1, .int .i64 x.2]] w _
  go_enter Tryd.func15, Tryd.ntmps15
  go_upto_region 1 with fail
  rw [HW.out]
  clear HW
  go_wp2_with fail
  go_loopw [3] (fun k wr => ∃ m : Nat, m ≤ 32 ∧ k = .int .i64 m ∧ (m = 0 ∨ nn (minusG x (pw (m : Int)))) ∧ At wr w.heap.size 24 (gv x) ∧ Keeps w wr) (fun k _ => 40 - (intOf k).toNat)
  case atStart => exact ⟨0, by omega, rfl, .inl rfl, a0, k0⟩
  case round =>
    obtain ⟨m, hm, rfl, hm0, a2, k2⟩ := hrel
    clear a0 k0
    generalize wr = w3 at *
    have c1 := cP ((m : Int) + 1) (by omega) (by omega)
    have hps := pw_sm ((m : Int) + 1) (by omega) (by omega)
    have c2 := fun z => refMinus_v x (pw ((m : Int) + 1)) (sm2_mono Hx.out (by decide)) ⟨sm_mono hps.1 (by decide), sm_mono hps.2 (by decide)⟩ z
    have c3 := fun z => refSign_v (minusG x (pw ((m : Int) + 1))) (by have := Hx.out; unfold sm2 sm minusG at *; simp only; omega) z
    obtain ⟨b, hb⟩ : ∃ b, decide (0 ≤ sgn (minusG x (pw ((m : Int) + 1))).1 (minusG x (pw ((m : Int) + 1))).2) = b := ⟨_, rfl⟩
    have HB := Lib.hid hb
    obtain ⟨df, hdf⟩ : ∃ df, minusG x (pw ((m : Int) + 1)) = df := ⟨_, rfl⟩
    obtain ⟨pv, hpv⟩ : ∃ pv, pw ((m : Int) + 1) = pv := ⟨_, rfl⟩
    rw [hdf] at hb c2 c3
    rw [hpv] at c1 c2
    have q1 : IntKind.i64.wrap ((m : Int) + 1) = (m : Int) + 1 := IntWalk.i64_in _ (by omega)
    have Hm0 := Lib.hid hm0
    clear hdf hpv hps hm0
    generalize sgn df.1 df.2 = sg at *
    go_upto_region 2 with fail
    refine region_any_inv (G := Unit) (f := ?f1) (fun _ => [.agg (gv x), .int .i64 m, .int .i64 ((m : Int) + 1), .agg (gv pv), .agg (gv df), .int .i64 sg, .bool b])
      (fun _ _ w' => Keeps w3 w') () (fun _ => ?hf1) (by kernel_rfl) (by kernel_rfl) (below_drewN (n := 1) (Below.refl _ _)) ?steps1 ?fin1
    case hf1 =>
      simp only [fill, List.toList_toArray, List.zip_cons_cons, List.zip_nil_left, List.zip_nil_right, List.foldl_cons, List.foldl_nil, Act.put, List.setIfInBounds_toArray, List.set_cons_succ, List.set_cons_zero]
      exact rfl
    case steps1 =>
      refine StepsU.cons rfl (fun g L w' hL hr hc hF => ?_) ?_
      · have k3 : Keeps w3 w' := hF
        clear hF
        obtain ⟨p1, p2, p3, p4⟩ := row_four (a2.later k3)
        clear cP c1 c2 c3
        refine StepU.go rfl (fun K hK => ?_)
        go_simp
        exact hK () _ k3
      refine StepsU.cons rfl (fun g L w' hL hr hc hF => ?_) ?_
      · have k3 : Keeps w3 w' := hF
        clear hF
        clear cP c1 c2 c3
        refine StepU.go rfl (fun K hK => ?_)
        go_simp
        exact hK () _ k3
      refine StepsU.cons rfl (fun g L w' hL hr hc hF => ?_) ?_
      · have k3 : Keeps w3 w' := hF
        clear hF
        clear cP c1 c2 c3
        refine StepU.go rfl (fun K hK => ?_)
        go_simp
        exact hK () _ k3
      refine StepsU.cons rfl (fun g L w' hL hr hc hF => ?_) ?_
      · have k3 : Keeps w3 w' := hF
        clear hF
        have call9 := c1 w'
        have C9 := Lib.hid call9
        clear call9
        clear cP c1 c2 c3
        refine StepU.go rfl (fun K hK => ?_)
        go_simp
        refine C9.out.mono ?_
        rintro e w2 ⟨rfl, b3⟩
        exact hK () _ (Keeps.next k3 b3)
      refine StepsU.cons rfl (fun g L w' hL hr hc hF => ?_) ?_
      · have k3 : Keeps w3 w' := hF
        clear hF
        have call9 := c2 w'
        have C9 := Lib.hid call9
        clear call9
        clear cP c1 c2 c3
        refine StepU.go rfl (fun K hK => ?_)
        go_simp
        refine C9.out.mono ?_
        rintro e w2 ⟨rfl, b3⟩
        exact hK () _ (Keeps.next k3 b3)
      refine StepsU.cons rfl (fun g L w' hL hr hc hF => ?_) ?_
      · have k3 : Keeps w3 w' := hF
        clear hF
        have call9 := c3 w'
        have C9 := Lib.hid call9
        clear call9
        clear cP c1 c2 c3
        refine StepU.go rfl (fun K hK => ?_)
        go_simp
        refine C9.out.mono ?_
        rintro e w2 ⟨rfl, b3⟩
        exact hK () _ (Keeps.next k3 b3)
      refine StepsU.cons rfl (fun g L w' hL hr hc hF => ?_) ?_
      · have k3 : Keeps w3 w' := hF
        clear hF
        clear cP c1 c2 c3
        refine StepU.go rfl (fun K hK => ?_)
        go_simp
        exact hK () _ k3
      exact StepsU.nil (by simp)
    case fin1 =>
    intro g L w4 hall k4
    clear hall g L
    have a4 := a2.later k4
    have k5 := Keeps.next k2 k4
    clear a2 k2 k4 c1 c2 c3 hb
    cases b
    · have h1 : po (minusG (pw ((m + 1 : Nat) : Int)) x) := not_nn (of_decide_eq_false (decide_nn _ _ HB.out)) (by simp only [minusG]; rw [show ((m + 1 : Nat) : Int) = (m : Int) + 1 by omega]; omega) (by simp only [minusG]; rw [show ((m + 1 : Nat) : Int) = (m : Int) + 1 by omega]; omega)
      have hst := xr_start x m (by omega) h1
      have hx0 : xr x (39 - m) = x := congrArg Prod.fst (hst (39 - m) (Nat.le_refl _)).1
      have HST := Lib.hid hst
      have HX0 := Lib.hid hx0
      clear hst hx0 h1 q1
      go_wp2_with fail
      go_loopw [3, 4] (fun k s wr => ∃ n : Nat, ∃ kk : Int, 39 - m ≤ n ∧ n ≤ 80 ∧ kk = 39 - (n : Int) ∧ k = .int .i64 kk ∧ s = .string ⟨(txt x (39 - m) n).toArray⟩ ∧ (40 < n → xr x (n - 1) ≠ (0, 0)) ∧ At wr w.heap.size 24 (gv (xr x n)) ∧ Keeps w wr) (fun k _ _ => (intOf k + 42).toNat)
      case atStart => exact ⟨39 - m, (m : Int), Nat.le_refl _, by omega, by omega, rfl, by unfold txt; rw [if_pos (by omega), dgs_self], fun h => by omega, by rw [HX0.out]; exact a4, k5⟩
      case round =>
        obtain ⟨n, kk, hn0, hn1, hkk, rfl, rfl, hlast, a6, k6⟩ := hrel
        clear a4 k5
        generalize wr = w7 at *
        by_cases hend : 40 ≤ n ∧ xr x n = (0, 0)
        · obtain ⟨hn40, hz⟩ := hend
          have hsp : Span x (39 - m) n := by
            refine ⟨by omega, hn40, hn1, fun i hi => (HST.out i (by omega)).2 hi, fun h39 => ?_, fun i h1 h2 => (xr_nil x n hz i h1 (by omega)).2 h2, fun h1 => ?_⟩
            · rcases Hm0.out with h | h
              · omega
              · have := dgt_yes x (39 - m) (by omega) (by rw [HX0.out, show (39 : Int) - ((39 - m : Nat) : Int) = (m : Int) by omega]; exact h)
                exact this.1
            · by_cases hc : nn (minusG (xr x (n - 1)) (pw (39 - ((n - 1 : Nat) : Int))))
              · exact (dgt_yes x (n - 1) (by omega) hc).1
              · exfalso
                have := (dgt_no x (n - 1) (by omega) hc).2
                rw [show n - 1 + 1 = n by omega, hz] at this
                exact hlast h1 this.symm
          have htx := text_span x (39 - m) n hsp
          have HTX := Lib.hid htx
          have d1 : decide (0 ≤ kk) = false := decide_eq_false (by omega)
          rw [hz] at a6
          have cz := fun z => refSign_v (0, 0) (by unfold sm2 sm; simp) z
          rw [show sgn ((0, 0) : Int × Int).1 ((0, 0) : Int × Int).2 = 0 by decide] at cz
          clear hsp htx hz hlast hkk
          go_wp2_with (first
            | (refine load_row_w rfl 24 _ rfl _ rfl 24 _ _ _ a6 Tryd.underlying24 rfl (sizeV _) ?_)
            | (go_at_call 30
               refine (cz _).mono ?_
               rintro e w8 ⟨rfl, b8⟩
               have k8 := Keeps.next k6 b8
               clear cz))
          go_ret
          exact ⟨congrArg (fun l : List UInt8 => Ending.returned (Value.string ⟨l.toArray⟩)) HTX.out.symm, k8⟩
        · have hn80 : n < 80 := by
            rcases Nat.lt_or_ge n 80 with h | h
            · exact h
            · exfalso
              obtain rfl : n = 80 := by omega
              exact hend ⟨by omega, xr_end x Hx.out Hp.out⟩
          have hne : 40 ≤ n → xr x n ≠ (0, 0) := fun h h2 => hend ⟨h, h2⟩
          have hsm := xr_sm x Hx.out n hn80
          have hp9 := pw_sm kk (by omega) (by omega)
          have c1 := cP kk (by omega) (by omega)
          have c2 : ∀ z, Calls Tryd.prog 31 #[.agg (gv (xr x n)), .agg (gv (pw kk))] z fun e w' => e = .returned (.agg #[.int .i64 (minusG (xr x n) (pw kk)).1, .int .i64 (minusG (xr x n) (pw kk)).2]) ∧ Keeps z w' := fun z => refMinus_v (xr x n) (pw kk) (sm2_mono hsm.1 (by decide)) ⟨sm_mono hp9.1 (by decide), sm_mono hp9.2 (by decide)⟩ z
          have c3 : ∀ z, Calls Tryd.prog 30 #[.agg #[.int .i64 (minusG (xr x n) (pw kk)).1, .int .i64 (minusG (xr x n) (pw kk)).2]] z fun e w' => e = .returned (.int .i64 (sgn (minusG (xr x n) (pw kk)).1 (minusG (xr x n) (pw kk)).2)) ∧ Keeps z w' := fun z => refSign_v (minusG (xr x n) (pw kk)) (by rw [hkk]; exact sm2_mono hsm.2 (by decide)) z
          have c4 := fun z => refSign_v (xr x n) (sm2_mono hsm.1 (by decide)) z
          obtain ⟨b, hb⟩ : ∃ b, decide (0 ≤ sgn (minusG (xr x n) (pw kk)).1 (minusG (xr x n) (pw kk)).2) = b := ⟨_, rfl⟩
          have hres : (b = true → dgt x n = 49 ∧ xr x (n + 1) = minusG (xr x n) (pw kk)) ∧ (b = false → dgt x n = 48 ∧ xr x (n + 1) = xr x n) := by
            rw [hkk] at hb ⊢
            exact ⟨fun h => dgt_yes x n hn80 (of_decide_eq_true (decide_nn _ _ (hb.trans h))), fun h => dgt_no x n hn80 (of_decide_eq_false (decide_nn _ _ (hb.trans h)))⟩
          have hneb : 40 ≤ n → (sgn (xr x n).1 (xr x n).2 != 0) = true := fun h => by rw [bne, sgn_ne _ (hne h)]; rfl
          have HRES := Lib.hid hres
          have HNE := Lib.hid hne
          have hsz := txt_size x (39 - m) n (by omega)
          have q2 : IntKind.i64.wrap (kk - 1) = kk - 1 := IntWalk.i64_in _ (by omega)
          obtain ⟨df, hdf⟩ : ∃ df, minusG (xr x n) (pw kk) = df := ⟨_, rfl⟩
          obtain ⟨pv, hpv⟩ : ∃ pv, pw kk = pv := ⟨_, rfl⟩
          rw [hdf] at hb c2 c3
          rw [hpv] at c1 c2
          have Hdf := Lib.hid hdf
          clear hdf hpv hp9 hsm hres hend hne hlast
          obtain ⟨r, hr⟩ : ∃ r, xr x n = r := ⟨_, rfl⟩
          rw [hr] at a6 c2 c4 hneb
          have Hr := Lib.hid hr
          clear hr
          generalize sgn df.1 df.2 = sg at *
          generalize sgn r.1 r.2 = sr at *
          rcases (show n ≤ 39 ∨ n = 40 ∨ 40 < n by omega) with hc | hc | hc
          · have d1 : decide (0 ≤ kk) = true := decide_eq_true (by omega)
            have d2 : (kk == -1) = false := by rw [beq_eq_false_iff_ne]; omega
            have ht := txt_low x (39 - m) n hn0 (by omega)
            have s1 := fun c => sum_c (txt x (39 - m) n) c (by omega)
            clear c4 hneb
            have Hkk := Lib.hid hkk
            have Hht := Lib.hid ht
            clear hkk ht hsz
            have k8 := k6
            have a8 := a6
            clear a6 k6
            generalize w7 = w8 at *
            have d3 : True := trivial
            go_upto_region 9 with fail
            clear d3
            refine region_any_inv (G := Unit) (f := ?frlow) (fun _ => [.agg (gv r), .int .i64 kk, .agg (gv pv), .agg #[.int .i64 df.1, .int .i64 df.2], .int .i64 sg, .bool b])
              (fun _ _ w' => Keeps w8 w') () (fun _ => ?hfrlow) (by kernel_rfl) (by kernel_rfl) (below_drewN (n := 1) (Below.refl _ _)) ?stepsrlow ?finrlow
            case hfrlow =>
              simp only [fill, List.toList_toArray, List.zip_cons_cons, List.zip_nil_left, List.zip_nil_right, List.foldl_cons, List.foldl_nil, Act.put, List.setIfInBounds_toArray, List.set_cons_succ, List.set_cons_zero]
              exact rfl
            case stepsrlow =>
              refine StepsU.cons rfl (fun g L w' hL hr hc hF => ?_) ?_
              · have k3 : Keeps w8 w' := hF
                clear hF
                obtain ⟨p1, p2, p3, p4⟩ := row_four (a8.later k3)
                clear cP c1 c2 c3
                refine StepU.go rfl (fun K hK => ?_)
                go_simp
                exact hK () _ k3
              refine StepsU.cons rfl (fun g L w' hL hr hc hF => ?_) ?_
              · have k3 : Keeps w8 w' := hF
                clear hF
                clear cP c1 c2 c3
                refine StepU.go rfl (fun K hK => ?_)
                go_simp
                exact hK () _ k3
              refine StepsU.cons rfl (fun g L w' hL hr hc hF => ?_) ?_
              · have k3 : Keeps w8 w' := hF
                clear hF
                have call9 := c1 w'
                have C9 := Lib.hid call9
                clear call9
                clear cP c1 c2 c3
                refine StepU.go rfl (fun K hK => ?_)
                go_simp
                refine C9.out.mono ?_
                rintro e w2 ⟨rfl, b3⟩
                exact hK () _ (Keeps.next k3 b3)
              refine StepsU.cons rfl (fun g L w' hL hr hc hF => ?_) ?_
              · have k3 : Keeps w8 w' := hF
                clear hF
                have call9 := c2 w'
                have C9 := Lib.hid call9
                clear call9
                clear cP c1 c2 c3
                refine StepU.go rfl (fun K hK => ?_)
                go_simp
                refine C9.out.mono ?_
                rintro e w2 ⟨rfl, b3⟩
                exact hK () _ (Keeps.next k3 b3)
              refine StepsU.cons rfl (fun g L w' hL hr hc hF => ?_) ?_
              · have k3 : Keeps w8 w' := hF
                clear hF
                have call9 := c3 w'
                have C9 := Lib.hid call9
                clear call9
                clear cP c1 c2 c3
                refine StepU.go rfl (fun K hK => ?_)
                go_simp
                refine C9.out.mono ?_
                rintro e w2 ⟨rfl, b3⟩
                exact hK () _ (Keeps.next k3 b3)
              refine StepsU.cons rfl (fun g L w' hL hr hc hF => ?_) ?_
              · have k3 : Keeps w8 w' := hF
                clear hF
                clear cP c1 c2 c3
                refine StepU.go rfl (fun K hK => ?_)
                go_simp
                exact hK () _ k3
              exact StepsU.nil (by simp)
            case finrlow =>
            intro g L w9 hall k9
            clear hall g L
            have a9 := a8.later k9
            have k10 := Keeps.next k8 k9
            clear a8 k8 k9 hb c3
            cases b
            · obtain ⟨g1, g2⟩ := HRES.out.2 rfl
              have s2 := s1 48
              rw [← g1, ← Hht.out] at s2
              rw [g1] at s2
              have G2 := Lib.hid g2
              clear s1 g1 g2 c1 c2
              go_wp2_with fail
              go_roundw
              case rel => exact ⟨n + 1, kk - 1, by omega, by omega, by have := Hkk.out; omega, rfl, rfl, fun h => by rw [show n + 1 - 1 = n by omega]; exact HNE.out (by omega), by rw [G2.out, Hr.out]; exact a9, k10⟩
              case measure => have := Hkk.out; simp [intOf]; omega
            · obtain ⟨g1, g2⟩ := HRES.out.1 rfl
              have s2 := s1 49
              rw [← g1, ← Hht.out] at s2
              rw [g1] at s2
              have G2 := Lib.hid g2
              clear s1 g1 g2
              go_upto_region 10 with fail
              refine region_any_inv (G := Unit) (f := ?fslow) (fun _ => [.agg (gv r), .int .i64 kk, .agg (gv pv), .agg #[.int .i64 df.1, .int .i64 df.2], undef])
                (fun _ L w' => ∃ V, Keeps w9 V ∧ w' = bif L 4 then (V.setCell ⟨w.heap.size, 0, none⟩ (.int .i64 df.1)).setCell ⟨w.heap.size, 1, none⟩ (.int .i64 df.2) else V) () (fun _ => ?hfslow) (by kernel_rfl) (by kernel_rfl) ⟨_, below_drewN (n := 1) (Below.refl _ _), rfl⟩ ?stepsslow ?finslow
              case hfslow =>
                simp only [fill, List.toList_toArray, List.zip_cons_cons, List.zip_nil_left, List.zip_nil_right, List.foldl_cons, List.foldl_nil, Act.put, List.setIfInBounds_toArray, List.set_cons_succ, List.set_cons_zero]
                exact rfl
              case stepsslow =>
                refine StepsU.cons rfl (fun g L w' hL hr hc hF => ?_) ?_
                · obtain ⟨V, k3, hw⟩ := hF
                  have e9 : L 4 = false := hc.not 4 0 rfl rfl hL
                  rw [e9, cond_false] at hw
                  subst hw
                  have E9 := Lib.hid e9
                  clear e9
                  obtain ⟨p1, p2, p3, p4⟩ := row_four (a9.later k3)
                  clear cP c1 c2
                  refine StepU.go rfl (fun K hK => ?_)
                  go_simp
                  exact hK () _ ⟨_, k3, by rw [show add L 0 4 = L 4 from rfl, E9.out]; rfl⟩
                refine StepsU.cons rfl (fun g L w' hL hr hc hF => ?_) ?_
                · obtain ⟨V, k3, hw⟩ := hF
                  have e9 : L 4 = false := hc.not 4 1 rfl rfl hL
                  rw [e9, cond_false] at hw
                  subst hw
                  have E9 := Lib.hid e9
                  clear e9
                  clear cP c1 c2
                  refine StepU.go rfl (fun K hK => ?_)
                  go_simp
                  exact hK () _ ⟨_, k3, by rw [show add L 1 4 = L 4 from rfl, E9.out]; rfl⟩
                refine StepsU.cons rfl (fun g L w' hL hr hc hF => ?_) ?_
                · obtain ⟨V, k3, hw⟩ := hF
                  have e9 : L 4 = false := hc.not 4 2 rfl rfl hL
                  rw [e9, cond_false] at hw
                  subst hw
                  have E9 := Lib.hid e9
                  clear e9
                  have call9 := c1 w'
                  have C9 := Lib.hid call9
                  clear call9
                  clear cP c1 c2
                  refine StepU.go rfl (fun K hK => ?_)
                  go_simp
                  refine C9.out.mono ?_
                  rintro e w2 ⟨rfl, b3⟩
                  exact hK () _ ⟨w2, Keeps.next k3 b3, by rw [show add L 2 4 = L 4 from rfl, E9.out]; rfl⟩
                refine StepsU.cons rfl (fun g L w' hL hr hc hF => ?_) ?_
                · obtain ⟨V, k3, hw⟩ := hF
                  have e9 : L 4 = false := hc.not 4 3 rfl rfl hL
                  rw [e9, cond_false] at hw
                  subst hw
                  have E9 := Lib.hid e9
                  clear e9
                  have call9 := c2 w'
                  have C9 := Lib.hid call9
                  clear call9
                  clear cP c1 c2
                  refine StepU.go rfl (fun K hK => ?_)
                  go_simp
                  refine C9.out.mono ?_
                  rintro e w2 ⟨rfl, b3⟩
                  exact hK () _ ⟨w2, Keeps.next k3 b3, by rw [show add L 3 4 = L 4 from rfl, E9.out]; rfl⟩
                refine StepsU.cons rfl (fun g L w' hL hr hc hF => ?_) ?_
                · obtain ⟨V, k3, hw⟩ := hF
                  have e9 : L 4 = false := hL
                  rw [e9, cond_false] at hw
                  subst hw
                  have E9 := Lib.hid e9
                  clear e9
                  obtain ⟨p1, p2, p3, p4⟩ := row_four (a9.later k3)
                  clear cP c1 c2
                  refine StepU.go rfl (fun K hK => ?_)
                  go_simp
                  exact hK () _ ⟨_, k3, by rw [add_same]; rfl⟩
                exact StepsU.nil (by simp)
              case finslow =>
              intro g L w5 hall hF
              obtain ⟨V, k5, hw⟩ := hF
              rw [hall 4 (by simp), cond_true] at hw
              subst hw
              clear hall
              have k12 := Keeps.set (Keeps.set (Keeps.next k10 k5) w.heap.size (Nat.le_refl _) 0 (.int .i64 df.1)) w.heap.size (Nat.le_refl _) 1 (.int .i64 df.2)
              have a12 : At ((V.setCell ⟨w.heap.size, 0, none⟩ (.int .i64 df.1)).setCell ⟨w.heap.size, 1, none⟩ (.int .i64 df.2)) w.heap.size 24 (gv df) := ((a9.later k5).set 0 _).set 1 _
              generalize (V.setCell ⟨w.heap.size, 0, none⟩ (.int .i64 df.1)).setCell ⟨w.heap.size, 1, none⟩ (.int .i64 df.2) = X at *
              clear a9 k10 k5 c1 c2
              go_wp2_with fail
              go_roundw
              case rel => exact ⟨n + 1, kk - 1, by omega, by omega, by have := Hkk.out; omega, rfl, rfl, fun h => by rw [show n + 1 - 1 = n by omega]; exact HNE.out (by omega), by rw [G2.out, Hdf.out]; exact a12, k12⟩
              case measure => have := Hkk.out; simp [intOf]; omega
          · have d1 : decide (0 ≤ kk) = false := decide_eq_false (by omega)
            have d2 : (kk == -1) = true := by rw [beq_iff_eq]; omega
            have d3 := hneb (by omega)
            obtain rfl : n = 40 := by omega
            have ht := txt_40 x (39 - m)
            have s0 := sum_c (txt x (39 - m) 40) 46 (by omega)
            have s1 := fun c => sum_c (txt x (39 - m) 40 ++ [46]) c (by simp; omega)
            clear hneb
            have Hkk := Lib.hid hkk
            have Hht := Lib.hid ht
            clear hkk ht hsz
            go_upto_region 7 with (first
              | (refine load_row_w rfl 24 _ rfl _ rfl 24 _ _ _ a6 Tryd.underlying24 rfl (sizeV _) ?_)
              | (go_at_call 30
                 refine (c4 _).mono ?_
                 rintro e w8 ⟨rfl, b8⟩
                 have a8 := a6.later b8
                 have k8 := Keeps.next k6 b8
                 clear c4 a6 k6))
            go_upto_region 9 with fail
            clear d3
            refine region_any_inv (G := Unit) (f := ?frmid) (fun _ => [.agg (gv r), .int .i64 kk, .agg (gv pv), .agg #[.int .i64 df.1, .int .i64 df.2], .int .i64 sg, .bool b])
              (fun _ _ w' => Keeps w8 w') () (fun _ => ?hfrmid) (by kernel_rfl) (by kernel_rfl) (below_drewN (n := 1) (Below.refl _ _)) ?stepsrmid ?finrmid
            case hfrmid =>
              simp only [fill, List.toList_toArray, List.zip_cons_cons, List.zip_nil_left, List.zip_nil_right, List.foldl_cons, List.foldl_nil, Act.put, List.setIfInBounds_toArray, List.set_cons_succ, List.set_cons_zero]
              exact rfl
            case stepsrmid =>
              refine StepsU.cons rfl (fun g L w' hL hr hc hF => ?_) ?_
              · have k3 : Keeps w8 w' := hF
                clear hF
                obtain ⟨p1, p2, p3, p4⟩ := row_four (a8.later k3)
                clear cP c1 c2 c3
                refine StepU.go rfl (fun K hK => ?_)
                go_simp
                exact hK () _ k3
              refine StepsU.cons rfl (fun g L w' hL hr hc hF => ?_) ?_
              · have k3 : Keeps w8 w' := hF
                clear hF
                clear cP c1 c2 c3
                refine StepU.go rfl (fun K hK => ?_)
                go_simp
                exact hK () _ k3
              refine StepsU.cons rfl (fun g L w' hL hr hc hF => ?_) ?_
              · have k3 : Keeps w8 w' := hF
                clear hF
                have call9 := c1 w'
                have C9 := Lib.hid call9
                clear call9
                clear cP c1 c2 c3
                refine StepU.go rfl (fun K hK => ?_)
                go_simp
                refine C9.out.mono ?_
                rintro e w2 ⟨rfl, b3⟩
                exact hK () _ (Keeps.next k3 b3)
              refine StepsU.cons rfl (fun g L w' hL hr hc hF => ?_) ?_
              · have k3 : Keeps w8 w' := hF
                clear hF
                have call9 := c2 w'
                have C9 := Lib.hid call9
                clear call9
                clear cP c1 c2 c3
                refine StepU.go rfl (fun K hK => ?_)
                go_simp
                refine C9.out.mono ?_
                rintro e w2 ⟨rfl, b3⟩
                exact hK () _ (Keeps.next k3 b3)
              refine StepsU.cons rfl (fun g L w' hL hr hc hF => ?_) ?_
              · have k3 : Keeps w8 w' := hF
                clear hF
                have call9 := c3 w'
                have C9 := Lib.hid call9
                clear call9
                clear cP c1 c2 c3
                refine StepU.go rfl (fun K hK => ?_)
                go_simp
                refine C9.out.mono ?_
                rintro e w2 ⟨rfl, b3⟩
                exact hK () _ (Keeps.next k3 b3)
              refine StepsU.cons rfl (fun g L w' hL hr hc hF => ?_) ?_
              · have k3 : Keeps w8 w' := hF
                clear hF
                clear cP c1 c2 c3
                refine StepU.go rfl (fun K hK => ?_)
                go_simp
                exact hK () _ k3
              exact StepsU.nil (by simp)
            case finrmid =>
            intro g L w9 hall k9
            clear hall g L
            have a9 := a8.later k9
            have k10 := Keeps.next k8 k9
            clear a8 k8 k9 hb c3
            cases b
            · obtain ⟨g1, g2⟩ := HRES.out.2 rfl
              have s2 := s1 48
              rw [← g1, ← Hht.out] at s2
              rw [g1] at s2
              have G2 := Lib.hid g2
              clear s1 g1 g2 c1 c2
              go_wp2_with fail
              go_roundw
              case rel => exact ⟨40 + 1, kk - 1, by omega, by omega, by have := Hkk.out; omega, rfl, rfl, fun h => by rw [show 40 + 1 - 1 = 40 by omega]; exact HNE.out (by omega), by rw [G2.out, Hr.out]; exact a9, k10⟩
              case measure => have := Hkk.out; simp [intOf]; omega
            · obtain ⟨g1, g2⟩ := HRES.out.1 rfl
              have s2 := s1 49
              rw [← g1, ← Hht.out] at s2
              rw [g1] at s2
              have G2 := Lib.hid g2
              clear s1 g1 g2
              go_upto_region 10 with fail
              refine region_any_inv (G := Unit) (f := ?fsmid) (fun _ => [.agg (gv r), .int .i64 kk, .agg (gv pv), .agg #[.int .i64 df.1, .int .i64 df.2], undef])
                (fun _ L w' => ∃ V, Keeps w9 V ∧ w' = bif L 4 then (V.setCell ⟨w.heap.size, 0, none⟩ (.int .i64 df.1)).setCell ⟨w.heap.size, 1, none⟩ (.int .i64 df.2) else V) () (fun _ => ?hfsmid) (by kernel_rfl) (by kernel_rfl) ⟨_, below_drewN (n := 1) (Below.refl _ _), rfl⟩ ?stepssmid ?finsmid
              case hfsmid =>
                simp only [fill, List.toList_toArray, List.zip_cons_cons, List.zip_nil_left, List.zip_nil_right, List.foldl_cons, List.foldl_nil, Act.put, List.setIfInBounds_toArray, List.set_cons_succ, List.set_cons_zero]
                exact rfl
              case stepssmid =>
                refine StepsU.cons rfl (fun g L w' hL hr hc hF => ?_) ?_
                · obtain ⟨V, k3, hw⟩ := hF
                  have e9 : L 4 = false := hc.not 4 0 rfl rfl hL
                  rw [e9, cond_false] at hw
                  subst hw
                  have E9 := Lib.hid e9
                  clear e9
                  obtain ⟨p1, p2, p3, p4⟩ := row_four (a9.later k3)
                  clear cP c1 c2
                  refine StepU.go rfl (fun K hK => ?_)
                  go_simp
                  exact hK () _ ⟨_, k3, by rw [show add L 0 4 = L 4 from rfl, E9.out]; rfl⟩
                refine StepsU.cons rfl (fun g L w' hL hr hc hF => ?_) ?_
                · obtain ⟨V, k3, hw⟩ := hF
                  have e9 : L 4 = false := hc.not 4 1 rfl rfl hL
                  rw [e9, cond_false] at hw
                  subst hw
                  have E9 := Lib.hid e9
                  clear e9
                  clear cP c1 c2
                  refine StepU.go rfl (fun K hK => ?_)
                  go_simp
                  exact hK () _ ⟨_, k3, by rw [show add L 1 4 = L 4 from rfl, E9.out]; rfl⟩
                refine StepsU.cons rfl (fun g L w' hL hr hc hF => ?_) ?_
                · obtain ⟨V, k3, hw⟩ := hF
                  have e9 : L 4 = false := hc.not 4 2 rfl rfl hL
                  rw [e9, cond_false] at hw
                  subst hw
                  have E9 := Lib.hid e9
                  clear e9
                  have call9 := c1 w'
                  have C9 := Lib.hid call9
                  clear call9
                  clear cP c1 c2
                  refine StepU.go rfl (fun K hK => ?_)
                  go_simp
                  refine C9.out.mono ?_
                  rintro e w2 ⟨rfl, b3⟩
                  exact hK () _ ⟨w2, Keeps.next k3 b3, by rw [show add L 2 4 = L 4 from rfl, E9.out]; rfl⟩
                refine StepsU.cons rfl (fun g L w' hL hr hc hF => ?_) ?_
                · obtain ⟨V, k3, hw⟩ := hF
                  have e9 : L 4 = false := hc.not 4 3 rfl rfl hL
                  rw [e9, cond_false] at hw
                  subst hw
                  have E9 := Lib.hid e9
                  clear e9
                  have call9 := c2 w'
                  have C9 := Lib.hid call9
                  clear call9
                  clear cP c1 c2
                  refine StepU.go rfl (fun K hK => ?_)
                  go_simp
                  refine C9.out.mono ?_
                  rintro e w2 ⟨rfl, b3⟩
                  exact hK () _ ⟨w2, Keeps.next k3 b3, by rw [show add L 3 4 = L 4 from rfl, E9.out]; rfl⟩
                refine StepsU.cons rfl (fun g L w' hL hr hc hF => ?_) ?_
                · obtain ⟨V, k3, hw⟩ := hF
                  have e9 : L 4 = false := hL
                  rw [e9, cond_false] at hw
                  subst hw
                  have E9 := Lib.hid e9
                  clear e9
                  obtain ⟨p1, p2, p3, p4⟩ := row_four (a9.later k3)
                  clear cP c1 c2
                  refine StepU.go rfl (fun K hK => ?_)
                  go_simp
                  exact hK () _ ⟨_, k3, by rw [add_same]; rfl⟩
                exact StepsU.nil (by simp)
              case finsmid =>
              intro g L w5 hall hF
              obtain ⟨V, k5, hw⟩ := hF
              rw [hall 4 (by simp), cond_true] at hw
              subst hw
              clear hall
              have k12 := Keeps.set (Keeps.set (Keeps.next k10 k5) w.heap.size (Nat.le_refl _) 0 (.int .i64 df.1)) w.heap.size (Nat.le_refl _) 1 (.int .i64 df.2)
              have a12 : At ((V.setCell ⟨w.heap.size, 0, none⟩ (.int .i64 df.1)).setCell ⟨w.heap.size, 1, none⟩ (.int .i64 df.2)) w.heap.size 24 (gv df) := ((a9.later k5).set 0 _).set 1 _
              generalize (V.setCell ⟨w.heap.size, 0, none⟩ (.int .i64 df.1)).setCell ⟨w.heap.size, 1, none⟩ (.int .i64 df.2) = X at *
              clear a9 k10 k5 c1 c2
              go_wp2_with fail
              go_roundw
              case rel => exact ⟨40 + 1, kk - 1, by omega, by omega, by have := Hkk.out; omega, rfl, rfl, fun h => by rw [show 40 + 1 - 1 = 40 by omega]; exact HNE.out (by omega), by rw [G2.out, Hdf.out]; exact a12, k12⟩
              case measure => have := Hkk.out; simp [intOf]; omega
          · have d1 : decide (0 ≤ kk) = false := decide_eq_false (by omega)
            have d2 : (kk == -1) = false := by rw [beq_eq_false_iff_ne]; omega
            have d3 := hneb (by omega)
            have ht := txt_high x (39 - m) n (by omega)
            have s1 := fun c => sum_c (txt x (39 - m) n) c (by omega)
            clear hneb
            have Hkk := Lib.hid hkk
            have Hht := Lib.hid ht
            clear hkk ht hsz
            go_upto_region 7 with (first
              | (refine load_row_w rfl 24 _ rfl _ rfl 24 _ _ _ a6 Tryd.underlying24 rfl (sizeV _) ?_)
              | (go_at_call 30
                 refine (c4 _).mono ?_
                 rintro e w8 ⟨rfl, b8⟩
                 have a8 := a6.later b8
                 have k8 := Keeps.next k6 b8
                 clear c4 a6 k6))
            go_upto_region 9 with fail
            clear d3
            refine region_any_inv (G := Unit) (f := ?frhigh) (fun _ => [.agg (gv r), .int .i64 kk, .agg (gv pv), .agg #[.int .i64 df.1, .int .i64 df.2], .int .i64 sg, .bool b])
              (fun _ _ w' => Keeps w8 w') () (fun _ => ?hfrhigh) (by kernel_rfl) (by kernel_rfl) (below_drewN (n := 1) (Below.refl _ _)) ?stepsrhigh ?finrhigh
            case hfrhigh =>
              simp only [fill, List.toList_toArray, List.zip_cons_cons, List.zip_nil_left, List.zip_nil_right, List.foldl_cons, List.foldl_nil, Act.put, List.setIfInBounds_toArray, List.set_cons_succ, List.set_cons_zero]
              exact rfl
            case stepsrhigh =>
              refine StepsU.cons rfl (fun g L w' hL hr hc hF => ?_) ?_
              · have k3 : Keeps w8 w' := hF
                clear hF
                obtain ⟨p1, p2, p3, p4⟩ := row_four (a8.later k3)
                clear cP c1 c2 c3
                refine StepU.go rfl (fun K hK => ?_)
                go_simp
                exact hK () _ k3
              refine StepsU.cons rfl (fun g L w' hL hr hc hF => ?_) ?_
              · have k3 : Keeps w8 w' := hF
                clear hF
                clear cP c1 c2 c3
                refine StepU.go rfl (fun K hK => ?_)
                go_simp
                exact hK () _ k3
              refine StepsU.cons rfl (fun g L w' hL hr hc hF => ?_) ?_
              · have k3 : Keeps w8 w' := hF
                clear hF
                have call9 := c1 w'
                have C9 := Lib.hid call9
                clear call9
                clear cP c1 c2 c3
                refine StepU.go rfl (fun K hK => ?_)
                go_simp
                refine C9.out.mono ?_
                rintro e w2 ⟨rfl, b3⟩
                exact hK () _ (Keeps.next k3 b3)
              refine StepsU.cons rfl (fun g L w' hL hr hc hF => ?_) ?_
              · have k3 : Keeps w8 w' := hF
                clear hF
                have call9 := c2 w'
                have C9 := Lib.hid call9
                clear call9
                clear cP c1 c2 c3
                refine StepU.go rfl (fun K hK => ?_)
                go_simp
                refine C9.out.mono ?_
                rintro e w2 ⟨rfl, b3⟩
                exact hK () _ (Keeps.next k3 b3)
              refine StepsU.cons rfl (fun g L w' hL hr hc hF => ?_) ?_
              · have k3 : Keeps w8 w' := hF
                clear hF
                have call9 := c3 w'
                have C9 := Lib.hid call9
                clear call9
                clear cP c1 c2 c3
                refine StepU.go rfl (fun K hK => ?_)
                go_simp
                refine C9.out.mono ?_
                rintro e w2 ⟨rfl, b3⟩
                exact hK () _ (Keeps.next k3 b3)
              refine StepsU.cons rfl (fun g L w' hL hr hc hF => ?_) ?_
              · have k3 : Keeps w8 w' := hF
                clear hF
                clear cP c1 c2 c3
                refine StepU.go rfl (fun K hK => ?_)
                go_simp
                exact hK () _ k3
              exact StepsU.nil (by simp)
            case finrhigh =>
            intro g L w9 hall k9
            clear hall g L
            have a9 := a8.later k9
            have k10 := Keeps.next k8 k9
            clear a8 k8 k9 hb c3
            cases b
            · obtain ⟨g1, g2⟩ := HRES.out.2 rfl
              have s2 := s1 48
              rw [← g1, ← Hht.out] at s2
              rw [g1] at s2
              have G2 := Lib.hid g2
              clear s1 g1 g2 c1 c2
              go_wp2_with fail
              go_roundw
              case rel => exact ⟨n + 1, kk - 1, by omega, by omega, by have := Hkk.out; omega, rfl, rfl, fun h => by rw [show n + 1 - 1 = n by omega]; exact HNE.out (by omega), by rw [G2.out, Hr.out]; exact a9, k10⟩
              case measure => have := Hkk.out; simp [intOf]; omega
            · obtain ⟨g1, g2⟩ := HRES.out.1 rfl
              have s2 := s1 49
              rw [← g1, ← Hht.out] at s2
              rw [g1] at s2
              have G2 := Lib.hid g2
              clear s1 g1 g2
              go_upto_region 10 with fail
              refine region_any_inv (G := Unit) (f := ?fshigh) (fun _ => [.agg (gv r), .int .i64 kk, .agg (gv pv), .agg #[.int .i64 df.1, .int .i64 df.2], undef])
                (fun _ L w' => ∃ V, Keeps w9 V ∧ w' = bif L 4 then (V.setCell ⟨w.heap.size, 0, none⟩ (.int .i64 df.1)).setCell ⟨w.heap.size, 1, none⟩ (.int .i64 df.2) else V) () (fun _ => ?hfshigh) (by kernel_rfl) (by kernel_rfl) ⟨_, below_drewN (n := 1) (Below.refl _ _), rfl⟩ ?stepsshigh ?finshigh
              case hfshigh =>
                simp only [fill, List.toList_toArray, List.zip_cons_cons, List.zip_nil_left, List.zip_nil_right, List.foldl_cons, List.foldl_nil, Act.put, List.setIfInBounds_toArray, List.set_cons_succ, List.set_cons_zero]
                exact rfl
              case stepsshigh =>
                refine StepsU.cons rfl (fun g L w' hL hr hc hF => ?_) ?_
                · obtain ⟨V, k3, hw⟩ := hF
                  have e9 : L 4 = false := hc.not 4 0 rfl rfl hL
                  rw [e9, cond_false] at hw
                  subst hw
                  have E9 := Lib.hid e9
                  clear e9
                  obtain ⟨p1, p2, p3, p4⟩ := row_four (a9.later k3)
                  clear cP c1 c2
                  refine StepU.go rfl (fun K hK => ?_)
                  go_simp
                  exact hK () _ ⟨_, k3, by rw [show add L 0 4 = L 4 from rfl, E9.out]; rfl⟩
                refine StepsU.cons rfl (fun g L w' hL hr hc hF => ?_) ?_
                · obtain ⟨V, k3, hw⟩ := hF
                  have e9 : L 4 = false := hc.not 4 1 rfl rfl hL
                  rw [e9, cond_false] at hw
                  subst hw
                  have E9 := Lib.hid e9
                  clear e9
                  clear cP c1 c2
                  refine StepU.go rfl (fun K hK => ?_)
                  go_simp
                  exact hK () _ ⟨_, k3, by rw [show add L 1 4 = L 4 from rfl, E9.out]; rfl⟩
                refine StepsU.cons rfl (fun g L w' hL hr hc hF => ?_) ?_
                · obtain ⟨V, k3, hw⟩ := hF
                  have e9 : L 4 = false := hc.not 4 2 rfl rfl hL
                  rw [e9, cond_false] at hw
                  subst hw
                  have E9 := Lib.hid e9
                  clear e9
                  have call9 := c1 w'
                  have C9 := Lib.hid call9
                  clear call9
                  clear cP c1 c2
                  refine StepU.go rfl (fun K hK => ?_)
                  go_simp
                  refine C9.out.mono ?_
                  rintro e w2 ⟨rfl, b3⟩
                  exact hK () _ ⟨w2, Keeps.next k3 b3, by rw [show add L 2 4 = L 4 from rfl, E9.out]; rfl⟩
                refine StepsU.cons rfl (fun g L w' hL hr hc hF => ?_) ?_
                · obtain ⟨V, k3, hw⟩ := hF
                  have e9 : L 4 = false := hc.not 4 3 rfl rfl hL
                  rw [e9, cond_false] at hw
                  subst hw
                  have E9 := Lib.hid e9
                  clear e9
                  have call9 := c2 w'
                  have C9 := Lib.hid call9
                  clear call9
                  clear cP c1 c2
                  refine StepU.go rfl (fun K hK => ?_)
                  go_simp
                  refine C9.out.mono ?_
                  rintro e w2 ⟨rfl, b3⟩
                  exact hK () _ ⟨w2, Keeps.next k3 b3, by rw [show add L 3 4 = L 4 from rfl, E9.out]; rfl⟩
                refine StepsU.cons rfl (fun g L w' hL hr hc hF => ?_) ?_
                · obtain ⟨V, k3, hw⟩ := hF
                  have e9 : L 4 = false := hL
                  rw [e9, cond_false] at hw
                  subst hw
                  have E9 := Lib.hid e9
                  clear e9
                  obtain ⟨p1, p2, p3, p4⟩ := row_four (a9.later k3)
                  clear cP c1 c2
                  refine StepU.go rfl (fun K hK => ?_)
                  go_simp
                  exact hK () _ ⟨_, k3, by rw [add_same]; rfl⟩
                exact StepsU.nil (by simp)
              case finshigh =>
              intro g L w5 hall hF
              obtain ⟨V, k5, hw⟩ := hF
              rw [hall 4 (by simp), cond_true] at hw
              subst hw
              clear hall
              have k12 := Keeps.set (Keeps.set (Keeps.next k10 k5) w.heap.size (Nat.le_refl _) 0 (.int .i64 df.1)) w.heap.size (Nat.le_refl _) 1 (.int .i64 df.2)
              have a12 : At ((V.setCell ⟨w.heap.size, 0, none⟩ (.int .i64 df.1)).setCell ⟨w.heap.size, 1, none⟩ (.int .i64 df.2)) w.heap.size 24 (gv df) := ((a9.later k5).set 0 _).set 1 _
              generalize (V.setCell ⟨w.heap.size, 0, none⟩ (.int .i64 df.1)).setCell ⟨w.heap.size, 1, none⟩ (.int .i64 df.2) = X at *
              clear a9 k10 k5 c1 c2
              go_wp2_with fail
              go_roundw
              case rel => exact ⟨n + 1, kk - 1, by omega, by omega, by have := Hkk.out; omega, rfl, rfl, fun h => by rw [show n + 1 - 1 = n by omega]; exact HNE.out (by omega), by rw [G2.out, Hdf.out]; exact a12, k12⟩
              case measure => have := Hkk.out; simp [intOf]; omega
    · have h1 : nn (minusG x (pw ((m : Int) + 1))) := of_decide_eq_true (decide_nn _ _ HB.out)
      have hm31 : m + 1 ≤ 32 := by
        rcases Nat.lt_or_ge m 32 with h | h
        · omega
        · exfalso
          obtain rfl : m = 32 := by omega
          rw [show ((32 : Nat) : Int) + 1 = ((33 : Nat) : Int) by omega] at h1
          exact nn_not h1 (by simp only [minusG]; omega) (by simp only [minusG]; omega) H33.out
      have H1 := Lib.hid h1
      clear h1
      go_wp2_with fail
      go_roundw
      case rel => exact ⟨m + 1, hm31, by go_num, .inr H1.out, a4, k5⟩
      case measure => simp [intOf]; omega
end Go.Proofs.YtfekggmdhmkemaaDoor
