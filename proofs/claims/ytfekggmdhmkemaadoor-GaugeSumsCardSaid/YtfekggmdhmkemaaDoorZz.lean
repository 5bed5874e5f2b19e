/- The law GaugeSums. -/
import Derived.Test.YtfekggmdhmkemaaDoorZy
import Derived.Test.YtfekggmdhmkemaaDoorZw
namespace Go.Proofs.YtfekggmdhmkemaaDoor
open Go.RowKit
set_option linter.unusedVariables false
set_option linter.unusedSimpArgs false

theorem at_most (a0 : Int) : 1 ≤ (1 + modN a0 12).toNat ∧ (1 + modN a0 12).toNat ≤ 12 := by
  have := modN_in a0 12 (by decide)
  omega
set_option maxHeartbeats 8000000 in
set_option maxRecDepth 100000 in
theorem law_sums (s t : ByteArray) (at1 at2 : Int) (w : World) (hs : s.size ≤ maxLen) (ht : t.size ≤ maxLen) (_ : (Lit.int IntKind.i64 at1).wf = true) (_ : (Lit.int IntKind.i64 at2).wf = true) :
    Calls Tryd.prog 7 #[.string s, .string t, .int .i64 at1, .int .i64 at2] w fun e w' => e = .returned (.bool true) ∧ Keeps w w' := by
  have aw := fun z => awake_c z
  have c1 : ∀ z, Calls Tryd.prog 18 #[.string s, .int .i64 at1, .int .i64 4] z fun e w' => e = .returned (.string ⟨(txW s.data.toList (1 + modN at1 12).toNat 4).toArray⟩) ∧ Keeps z w' := fun z => lawText_c s hs at1 4 (.inr rfl) z
  have c2 : ∀ z, Calls Tryd.prog 18 #[.string t, .int .i64 at2, .int .i64 4] z fun e w' => e = .returned (.string ⟨(txW t.data.toList (1 + modN at2 12).toNat 4).toArray⟩) ∧ Keeps z w' := fun z => lawText_c t ht at2 4 (.inr rfl) z
  have m1 := at_most at1
  have m2 := at_most at2
  obtain ⟨F, G, hp, f1, g1, -, l1⟩ := law_prs s.data.toList _ 4 m1.1 m1.2 (.inr rfl)
  obtain ⟨F2, G2, hq, f2, g2, -, l2⟩ := law_prs t.data.toList _ 4 m2.1 m2.2 (.inr rfl)
  generalize txW s.data.toList (1 + modN at1 12).toNat 4 = A at *
  generalize txW t.data.toList (1 + modN at2 12).toNat 4 = B at *
  have vx := val_in A F G hp (by omega) g1
  have vy := val_in B F2 G2 hq (by omega) g2
  have nx := val_nn A F G hp
  have ny := val_nn B F2 G2 hq
  obtain ⟨h80, ok1⟩ := dig_80 A F G hp
  obtain ⟨h81, ok2⟩ := dig_80 B F2 G2 hq
  have rA := text_yes ⟨A.toArray⟩ (by rw [arr_size]; omega) F G (by rw [arr_list]; exact hp)
  have rB := text_yes ⟨B.toArray⟩ (by rw [arr_size]; omega) F2 G2 (by rw [arr_list]; exact hq)
  have r0 := text_yes ⟨#[48]⟩ (by decide) [48] [] prs_nought.1
  have vs : sm2 1000000 (plusG (valG (digL F G)) (valG (digL F2 G2))) := by unfold sm2 sm plusG at *; simp only; omega
  have ns : nn (plusG (valG (digL F G)) (valG (digL F2 G2))) := nn_sum nx ny rfl rfl
  have bS := num_of vs
  have bX := num_of (sm2_mono vx (show (400000 : Int) ≤ 1000000 by decide))
  have bY := num_of (sm2_mono vy (show (400000 : Int) ≤ 1000000 by decide))
  have cAB := fun z => Add_ok ⟨A.toArray⟩ ⟨B.toArray⟩ (digL F G) (digL F2 G2) h80 h81 ok1 ok2 rA rB bS z
  have cBA := fun z => Add_ok ⟨B.toArray⟩ ⟨A.toArray⟩ (digL F2 G2) (digL F G) h81 h80 ok2 ok1 rB rA (by rw [plus_comm]; exact bS) z
  rw [plus_comm (valG (digL F2 G2))] at cBA
  have cA0 := fun z => Add_ok ⟨A.toArray⟩ ⟨#[48]⟩ (digL F G) (digL [48] []) h80 (dig_80 _ _ _ prs_nought.1).1 ok1 (dig_80 _ _ _ prs_nought.1).2 rA r0 (by rw [prs_nought.2, plus_zero]; exact bX) z
  rw [prs_nought.2, plus_zero] at cA0
  have cVA := fun z => Value_ok ⟨A.toArray⟩ (digL F G) h80 ok1 rA z
  rw [nofV, nofE, bX, if_pos rfl, if_pos rfl] at cVA
  have cVB := fun z => Value_ok ⟨B.toArray⟩ (digL F2 G2) h81 ok2 rB z
  rw [nofV, nofE, bY, if_pos rfl, if_pos rfl] at cVB
  have cPA := fun z => Plain_ok ⟨A.toArray⟩ (valG (digL F G)) (sm2_of bX) cVA z
  generalize valG (digL F G) = x at *
  generalize valG (digL F2 G2) = y at *
  obtain ⟨n, F3, G3, hu, hv, -, -, -, l3, -, hpl, -, -, -, -⟩ := back_facts (plusG x y) vs ns
  obtain ⟨h82, ok3⟩ := dig_80 _ F3 G3 hu
  have rU := text_yes ⟨(textG (plusG x y)).toArray⟩ (by rw [arr_size]; omega) F3 G3 (by rw [arr_list]; exact hu)
  have cVU := fun z => Value_ok ⟨(textG (plusG x y)).toArray⟩ (digL F3 G3) h82 ok3 rU z
  rw [hv, nofV, nofE, bS, if_pos rfl, if_pos rfl] at cVU
  have cI := fun z => isPlain_any ⟨(textG (plusG x y)).toArray⟩ (by rw [arr_size]; unfold maxLen; omega) z
  rw [arr_list, hpl] at cI
  have cX := fun z => refNumber_v x z
  rw [bX] at cX
  have cY := fun z => refNumber_v y z
  rw [bY] at cY
  have cS : ∀ z, Calls Tryd.prog 17 #[.agg (gv x), .agg (gv y)] z fun e w' => e = .returned (.agg #[.int .i64 (plusG x y).1, .int .i64 (plusG x y).2]) ∧ Keeps z w' := fun z => refPlus_v x y (sm2_mono vx (by decide)) (sm2_mono vy (by decide)) z
  clear m1 m2 hp f1 g1 l1 hq f2 g2 l2 vx vy nx ny h80 ok1 h81 ok2 rA rB r0 vs ns bS bX bY hu hv l3 hpl h82 ok3 rU
  generalize (⟨(textG (plusG x y)).toArray⟩ : ByteArray) = U at *
  generalize (⟨(textG x).toArray⟩ : ByteArray) = P at *
  generalize (⟨A.toArray⟩ : ByteArray) = SA at *
  generalize (⟨B.toArray⟩ : ByteArray) = SB at *
  generalize plusG x y = sm at *
  have k0 : Keeps w w := Below.refl _ _
  go_enter Tryd.func7, Tryd.ntmps7
  go_upto_region 2 with (first
    | (go_at_call 18
       (with_reducible refine (c1 _).mono ?_)
       rintro e w1 ⟨rfl, b1⟩
       have k1 := Keeps.next k0 b1
       clear c1 k0 )
    | (go_at_call 18
       (with_reducible refine (c2 _).mono ?_)
       rintro e w2 ⟨rfl, b2⟩
       have k2 := Keeps.next k1 b2
       clear c2 k1 ))
  go_upto_region 3 with (first
    | (go_at_call 16
       (with_reducible refine (cAB _).mono ?_)
       rintro e w3 ⟨rfl, b3⟩
       have k3 := Keeps.next k2 b3
       clear cAB k2 ))
  go_upto_region 4 with (first
    | (go_at_call 16
       (with_reducible refine (cBA _).mono ?_)
       rintro e w4 ⟨rfl, b4⟩
       have k4 := Keeps.next k3 b4
       clear cBA k3 ))
  go_upto_region 5 with (first
    | (go_at_call 16
       (with_reducible refine (cA0 _).mono ?_)
       rintro e w5 ⟨rfl, b5⟩
       have k5 := Keeps.next k4 b5
       clear cA0 k4 ))
  go_upto_region 6 with (first
    | (go_at_call 10
       (with_reducible refine (cPA _).mono ?_)
       rintro e w6 ⟨rfl, b6⟩
       have k6 := Keeps.next k5 b6
       clear cPA k5 ))
  go_upto_region 7 with (first
    | (go_at_call 9
       (with_reducible refine (cVA _).mono ?_)
       rintro e w7 ⟨rfl, b7⟩
       have t7 := At.new w7 24 (gv (0, 0))
       have v7 := t7.row (gv x)
       have dd := below_row (Keeps.alloc b7 (.cells (gv (0, 0)) 24)) b7.size (gv x)
       have k7 := Keeps.next k6 dd
       clear dd b7 k6
       clear cVA)
    | (refine wpList_store_row rfl 24 _ _ rfl w7.heap.size (gv x) rfl rfl 24 (gv (0, 0)) t7 (sizeV _) rfl (oneV _) ?_))
  clear t7
  go_upto_region 8 with (first
    | (go_at_call 9
       (with_reducible refine (cVB _).mono ?_)
       rintro e w8 ⟨rfl, b8⟩
       have t8 := At.new w8 24 (gv (0, 0))
       have v8 := t8.row (gv y)
       have dd := below_row (Keeps.alloc b8 (.cells (gv (0, 0)) 24)) b8.size (gv y)
       have v7b := v7.later dd
       have k8 := Keeps.next k7 dd
       clear dd b8 k7 v7
       clear cVB)
    | (refine wpList_store_row rfl 24 _ _ rfl w8.heap.size (gv y) rfl rfl 24 (gv (0, 0)) t8 (sizeV _) rfl (oneV _) ?_))
  clear t8
  go_upto_region 10 with (go_at_call 19; refine (cI _).mono ?_; rintro e w9 ⟨rfl, rfl⟩)
  clear cI
  go_upto_region 11 with (first
    | (go_at_call 9
       (with_reducible refine (cVU _).mono ?_)
       rintro e w10 ⟨rfl, b10⟩
       have t10 := At.new w10 24 (gv (0, 0))
       have v10 := t10.row (gv sm)
       have dd := below_row (Keeps.alloc b10 (.cells (gv (0, 0)) 24)) b10.size (gv sm)
       have v7c := v7b.later dd
       have v8c := v8.later dd
       have k10 := Keeps.next k8 dd
       clear dd b10 k8 v7b v8
       clear cVU)
    | (refine wpList_store_row rfl 24 _ _ rfl w10.heap.size (gv sm) rfl rfl 24 (gv (0, 0)) t10 (sizeV _) rfl (oneV _) ?_))
  clear t10
  obtain ⟨W, hW⟩ : ∃ W, (w10.alloc (.cells #[.int .i64 0, .int .i64 0] 24)).setRow w10.heap.size (gv sm) = W := ⟨_, rfl⟩
  have x7 : At W w7.heap.size 24 (gv x) := by rw [← hW]; exact v7c
  have x8 : At W w8.heap.size 24 (gv y) := by rw [← hW]; exact v8c
  have x10 : At W w10.heap.size 24 (gv sm) := by rw [← hW]; exact v10
  have kW : Keeps w W := by rw [← hW]; exact k10
  rw [hW]
  clear hW v7c v8c v10 k10
  refine region_any_inv (G := Unit) (f := ?f1) (fun _ => [.int .i64 0, .bool true, .bool true, .agg (gv x), .bool true, .bool true, .bool true, .agg (gv y), .bool true, .bool true, .bool true, .agg #[.int .i64 sm.1, .int .i64 sm.2], .agg (gv x), .agg (gv y), .agg #[.int .i64 sm.1, .int .i64 sm.2], .bool true, .bool true, .bool true, .bool true, .bool true, .bool true])
    (fun _ _ w' => Keeps W w') () (fun _ => ?hf1) (by kernel_rfl) (by kernel_rfl) (below_drewN (n := 1) (Below.refl _ _)) ?steps1 ?fin1
  case hf1 =>
    simp only [fill, List.toList_toArray, List.zip_cons_cons, List.zip_nil_left, List.zip_nil_right, List.foldl_cons, List.foldl_nil, Act.put, List.setIfInBounds_toArray, List.set_cons_succ, List.set_cons_zero]
    exact rfl
  case steps1 =>
    refine StepsU.cons rfl (fun g L w' hL hr hc hF => ?_) ?_
    · have k3 : Keeps W w' := hF
      clear hF
      clear aw cX cY cS
      refine StepU.go rfl (fun K hK => ?_)
      go_simp
      exact hK () _ k3
    refine StepsU.cons rfl (fun g L w' hL hr hc hF => ?_) ?_
    · have k3 : Keeps W w' := hF
      clear hF
      clear aw cX cY cS
      refine StepU.go rfl (fun K hK => ?_)
      go_simp
      exact hK () _ k3
    refine StepsU.cons rfl (fun g L w' hL hr hc hF => ?_) ?_
    · have k3 : Keeps W w' := hF
      clear hF
      clear aw cX cY cS
      refine StepU.go rfl (fun K hK => ?_)
      go_simp
      exact hK () _ k3
    refine StepsU.cons rfl (fun g L w' hL hr hc hF => ?_) ?_
    · have k3 : Keeps W w' := hF
      clear hF
      obtain ⟨p1, p2, p3, p4⟩ := row_four (x7.later k3)
      clear aw cX cY cS
      refine StepU.go rfl (fun K hK => ?_)
      go_simp
      exact hK () _ k3
    refine StepsU.cons rfl (fun g L w' hL hr hc hF => ?_) ?_
    · have k3 : Keeps W w' := hF
      clear hF
      have call9 := cX w'
      have C9 := Lib.hid call9
      clear call9
      clear aw cX cY cS
      refine StepU.go rfl (fun K hK => ?_)
      go_simp
      refine C9.out.mono ?_
      rintro e w2 ⟨rfl, b3⟩
      exact hK () _ (Keeps.next k3 b3)
    refine StepsU.cons rfl (fun g L w' hL hr hc hF => ?_) ?_
    · have k3 : Keeps W w' := hF
      clear hF
      clear aw cX cY cS
      refine StepU.go rfl (fun K hK => ?_)
      go_simp
      exact hK () _ k3
    refine StepsU.cons rfl (fun g L w' hL hr hc hF => ?_) ?_
    · have k3 : Keeps W w' := hF
      clear hF
      clear aw cX cY cS
      refine StepU.go rfl (fun K hK => ?_)
      go_simp
      exact hK () _ k3
    refine StepsU.cons rfl (fun g L w' hL hr hc hF => ?_) ?_
    · have k3 : Keeps W w' := hF
      clear hF
      obtain ⟨p1, p2, p3, p4⟩ := row_four (x8.later k3)
      clear aw cX cY cS
      refine StepU.go rfl (fun K hK => ?_)
      go_simp
      exact hK () _ k3
    refine StepsU.cons rfl (fun g L w' hL hr hc hF => ?_) ?_
    · have k3 : Keeps W w' := hF
      clear hF
      have call9 := cY w'
      have C9 := Lib.hid call9
      clear call9
      clear aw cX cY cS
      refine StepU.go rfl (fun K hK => ?_)
      go_simp
      refine C9.out.mono ?_
      rintro e w2 ⟨rfl, b3⟩
      exact hK () _ (Keeps.next k3 b3)
    refine StepsU.cons rfl (fun g L w' hL hr hc hF => ?_) ?_
    · have k3 : Keeps W w' := hF
      clear hF
      clear aw cX cY cS
      refine StepU.go rfl (fun K hK => ?_)
      go_simp
      exact hK () _ k3
    refine StepsU.cons rfl (fun g L w' hL hr hc hF => ?_) ?_
    · have k3 : Keeps W w' := hF
      clear hF
      clear aw cX cY cS
      refine StepU.go rfl (fun K hK => ?_)
      go_simp
      exact hK () _ k3
    refine StepsU.cons rfl (fun g L w' hL hr hc hF => ?_) ?_
    · have k3 : Keeps W w' := hF
      clear hF
      obtain ⟨p1, p2, p3, p4⟩ := row_four (x10.later k3)
      clear aw cX cY cS
      refine StepU.go rfl (fun K hK => ?_)
      go_simp
      exact hK () _ k3
    refine StepsU.cons rfl (fun g L w' hL hr hc hF => ?_) ?_
    · have k3 : Keeps W w' := hF
      clear hF
      obtain ⟨p1, p2, p3, p4⟩ := row_four (x7.later k3)
      clear aw cX cY cS
      refine StepU.go rfl (fun K hK => ?_)
      go_simp
      exact hK () _ k3
    refine StepsU.cons rfl (fun g L w' hL hr hc hF => ?_) ?_
    · have k3 : Keeps W w' := hF
      clear hF
      obtain ⟨p1, p2, p3, p4⟩ := row_four (x8.later k3)
      clear aw cX cY cS
      refine StepU.go rfl (fun K hK => ?_)
      go_simp
      exact hK () _ k3
    refine StepsU.cons rfl (fun g L w' hL hr hc hF => ?_) ?_
    · have k3 : Keeps W w' := hF
      clear hF
      have call9 := cS w'
      have C9 := Lib.hid call9
      clear call9
      clear aw cX cY cS
      refine StepU.go rfl (fun K hK => ?_)
      go_simp
      refine C9.out.mono ?_
      rintro e w2 ⟨rfl, b3⟩
      exact hK () _ (Keeps.next k3 b3)
    refine StepsU.cons rfl (fun g L w' hL hr hc hF => ?_) ?_
    · have k3 : Keeps W w' := hF
      clear hF
      clear aw cX cY cS
      refine StepU.go rfl (fun K hK => ?_)
      go_simp
      exact hK () _ k3
    refine StepsU.cons rfl (fun g L w' hL hr hc hF => ?_) ?_
    · have k3 : Keeps W w' := hF
      clear hF
      clear aw cX cY cS
      refine StepU.go rfl (fun K hK => ?_)
      go_simp
      exact hK () _ k3
    refine StepsU.cons rfl (fun g L w' hL hr hc hF => ?_) ?_
    · have k3 : Keeps W w' := hF
      clear hF
      clear aw cX cY cS
      refine StepU.go rfl (fun K hK => ?_)
      go_simp
      exact hK () _ k3
    refine StepsU.cons rfl (fun g L w' hL hr hc hF => ?_) ?_
    · have k3 : Keeps W w' := hF
      clear hF
      have call9 := aw w'
      have C9 := Lib.hid call9
      clear call9
      clear aw cX cY cS
      refine StepU.go rfl (fun K hK => ?_)
      go_simp
      refine C9.out.mono ?_
      rintro e w2 ⟨rfl, b3⟩
      exact hK () _ (Keeps.next k3 b3)
    refine StepsU.cons rfl (fun g L w' hL hr hc hF => ?_) ?_
    · have k3 : Keeps W w' := hF
      clear hF
      clear aw cX cY cS
      refine StepU.go rfl (fun K hK => ?_)
      go_simp
      exact hK () _ k3
    refine StepsU.cons rfl (fun g L w' hL hr hc hF => ?_) ?_
    · have k3 : Keeps W w' := hF
      clear hF
      clear aw cX cY cS
      refine StepU.go rfl (fun K hK => ?_)
      go_simp
      exact hK () _ k3
    exact StepsU.nil (by simp)
  case fin1 =>
  intro g L w11 hall k11
  clear hall g L
  go_wp2_with fail
  go_ret
  exact ⟨rfl, Keeps.next kW k11⟩
end Go.Proofs.YtfekggmdhmkemaaDoor
