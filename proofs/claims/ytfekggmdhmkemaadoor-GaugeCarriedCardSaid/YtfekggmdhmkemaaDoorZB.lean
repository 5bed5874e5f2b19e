/- The law GaugeCarried. -/
import Derived.Test.YtfekggmdhmkemaaDoorZA
namespace Go.Proofs.YtfekggmdhmkemaaDoor
open Go.RowKit
set_option linter.unusedVariables false
set_option linter.unusedSimpArgs false

set_option maxHeartbeats 8000000 in
set_option maxRecDepth 100000 in
theorem carried_one (s : ByteArray) (at1 at2 : Int) (w : World) (hs : s.size ≤ maxLen) (hpar : (modN at1 2 == 0) = true) :
    Calls Tryd.prog 6 #[.string s, .int .i64 at1, .int .i64 at2] w fun e w' => e = .returned (.bool true) ∧ Keeps w w' := by
  have aw := fun z => awake_c z
  have c1 : ∀ z, Calls Tryd.prog 18 #[.string s, .int .i64 30, .int .i64 2] z fun e w' => e = .returned (.string ⟨(txW s.data.toList 7 2).toArray⟩) ∧ Keeps z w' := fun z => lawText_c s hs 30 2 (.inl rfl) z
  have hT25 : (txW s.data.toList 7 2).length ≤ 25 := (law_prs7 s.data.toList).choose_spec.choose_spec.2.2.2
  have hsz : (⟨(txW s.data.toList 7 2).toArray⟩ : ByteArray).size ≤ 25 := by rw [arr_size]; exact hT25
  have hk := modN_in at2 (((⟨(txW s.data.toList 7 2).toArray⟩ : ByteArray).size : Int) + 1) (by omega)
  obtain ⟨k, hkk⟩ : ∃ k : Nat, modN at2 (((⟨(txW s.data.toList 7 2).toArray⟩ : ByteArray).size : Int) + 1) = (k : Int) := ⟨_, (Int.toNat_of_nonneg hk.1).symm⟩
  rw [hkk] at hk
  have hk2 : k ≤ (⟨(txW s.data.toList 7 2).toArray⟩ : ByteArray).size := by omega
  have c2 : ∀ z, Calls Tryd.prog 20 #[.int .i64 at2, .int .i64 (((⟨(txW s.data.toList 7 2).toArray⟩ : ByteArray).size : Int) + 1)] z fun e w' => e = .returned (.int .i64 (k : Int)) ∧ z = w' := fun z => by
    have := mod_c at2 (((⟨(txW s.data.toList 7 2).toArray⟩ : ByteArray).size : Int) + 1) (by omega) (by omega) z
    rw [hkk] at this
    exact this
  have c3 := fun z => mod_c at1 2 (by decide) (by decide) z
  obtain ⟨F, G, F2, G2, i1, i2, i3, i4, i5, i6⟩ := ins_value s.data.toList [48, 49, 49] [49, 48, 48] k (by rw [← arr_size]; exact hk2) rfl (fun c hc => (dig_ok c).1 (by simp only [List.mem_cons, List.not_mem_nil, or_false] at hc; rcases hc with rfl | rfl | rfl <;> decide)) (fun c hc => (dig_ok c).1 (by simp only [List.mem_cons, List.not_mem_nil, or_false] at hc; rcases hc with rfl | rfl | rfl <;> decide)) (by decide) (by decide) (fun e s => carry_one e s)
  obtain ⟨P1, P2, QI, e1, e2, a1, a2, z1, z2, z3⟩ := ins_pieces (⟨(txW s.data.toList 7 2).toArray⟩ : ByteArray) [48, 49, 49] k hk2 (by decide) (by omega)
  obtain ⟨P3, P4, QJ, e3, e4, a3, a4, z4, z5, z6⟩ := ins_pieces (⟨(txW s.data.toList 7 2).toArray⟩ : ByteArray) [49, 48, 48] k hk2 (by decide) (by omega)
  obtain rfl : P1 = P3 := e1.symm.trans e3
  obtain rfl : P2 = P4 := e2.symm.trans e4
  clear e3 e4 z1 z2 z3 z4 z5 z6 hkk
  rw [arr_list] at a2 a4
  have tI := text_yes ⟨(ins (txW s.data.toList 7 2) [48, 49, 49] k).toArray⟩ (by rw [arr_size]; omega) F G (by rw [arr_list]; exact i1)
  have tJ := text_yes ⟨(ins (txW s.data.toList 7 2) [49, 48, 48] k).toArray⟩ (by rw [arr_size]; omega) F2 G2 (by rw [arr_list]; exact i2)
  obtain ⟨h80, ok1⟩ := dig_80 _ F G i1
  obtain ⟨h81, ok2⟩ := dig_80 _ F2 G2 i2
  have bX := num_of (sm2_mono i4 (show (400000 : Int) ≤ 1000000 by decide))
  have cI := fun z => Value_ok _ (digL F G) h80 ok1 tI z
  rw [nofV, nofE, bX, if_pos rfl, if_pos rfl] at cI
  rw [i3] at bX
  have cJ := fun z => Value_ok _ (digL F2 G2) h81 ok2 tJ z
  rw [nofV, nofE, bX, if_pos rfl, if_pos rfl] at cJ
  rw [i3] at cI
  clear i1 i2 i3 i4 i5 i6 tI tJ h80 ok1 h81 ok2 bX hs
  generalize valG (digL F2 G2) = x at *
  generalize (⟨(ins (txW s.data.toList 7 2) [48, 49, 49] k).toArray⟩ : ByteArray) = TI at *
  generalize (⟨(ins (txW s.data.toList 7 2) [49, 48, 48] k).toArray⟩ : ByteArray) = TJ at *
  generalize (⟨(txW s.data.toList 7 2).toArray⟩ : ByteArray) = T at *
  have a1' : ∀ W, (Op.stringOp .add P1 ⟨#[48, 49, 49]⟩).run Tryd.prog W = .ok (.string QI) W := a1
  have a3' : ∀ W, (Op.stringOp .add P1 ⟨#[49, 48, 48]⟩).run Tryd.prog W = .ok (.string QJ) W := a3
  have q1 : IntKind.i64.wrap ((T.size : Int) + 1) = (T.size : Int) + 1 := IntWalk.i64_in _ (by omega)
  have l0 : (0 : Int) ≤ (k : Int) := by omega
  have l1 : (k : Int) ≤ (T.size : Int) := by omega
  generalize hM : modN at1 2 = M at *
  clear hM hT25 hsz a1 a3 hk hk2
  have k0 : Keeps w w := Below.refl _ _
  go_enter Tryd.func6, Tryd.ntmps6
  go_upto_region 2 with (first
    | (go_at_call 18
       (with_reducible refine (c1 _).mono ?_)
       rintro e w1 ⟨rfl, b1⟩
       have k1 := Keeps.next k0 b1
       clear c1 k0 ))
  go_upto_region 3 with (go_at_call 20; refine (c2 _).mono ?_; rintro e w2 ⟨rfl, rfl⟩)
  clear c2 q1
  go_upto_region 4 with fail
  obtain ⟨W, hW⟩ : ∃ W, (w1.alloc (.cells #[.int .i64 0, .int .i64 0] 24)).alloc (.cells #[.int .i64 0, .int .i64 0] 24) = W := ⟨_, rfl⟩
  have x9 : At W w1.heap.size 24 (gv (0, 0)) := by rw [← hW]; exact (At.new w1 _ _).alloc _
  have x10 : At W (w1.heap.size + 1) 24 (gv (0, 0)) := by rw [← hW]; exact At.new2 w1 _ _ _
  have k2 : Keeps w W := by rw [← hW]; exact Keeps.alloc (Keeps.alloc k1 _) _
  rw [hW]
  clear hW
  have g9 : w.heap.size ≤ w1.heap.size := k1.size
  have g10 : w.heap.size ≤ w1.heap.size + 1 := by omega
  have ne : w1.heap.size ≠ w1.heap.size + 1 := by omega
  clear k1
  generalize w1.heap.size + 1 = b10 at *
  generalize w1.heap.size = b9 at *
  go_upto_region 6 with (go_at_call 20; refine (c3 _).mono ?_; rintro e w3 ⟨rfl, rfl⟩)
  try simp only [hpar]
  clear c3 hpar
  refine region_any_inv (G := Unit) (f := ?f6) (fun _ => [.string T, .int .i64 (k : Int), .string P1, .string QI, .string T, .int .i64 (k : Int), .string P2, .string TI, .tuple #[.agg (gv x), .int .i64 0], .tuple #[.agg (gv x), .int .i64 0], .agg #[.int .i64 x.1, .int .i64 x.2], .int .i64 0, undef, .int .i64 0])
    (fun _ L w' => ∃ V, Keeps W V ∧ w' = bif L 12 then (V.setCell ⟨b9, 0, none⟩ (.int .i64 x.1)).setCell ⟨b9, 1, none⟩ (.int .i64 x.2) else V) () (fun _ => ?hf6) (by kernel_rfl) (by kernel_rfl) ⟨_, below_drewN (n := 1) (Below.refl _ _), rfl⟩ ?steps6 ?fin6
  case hf6 =>
    simp only [fill, List.toList_toArray, List.zip_cons_cons, List.zip_nil_left, List.zip_nil_right, List.foldl_cons, List.foldl_nil, Act.put, List.setIfInBounds_toArray, List.set_cons_succ, List.set_cons_zero]
    exact rfl
  case steps6 =>
    refine StepsU.cons rfl (fun g L w' hL hr hc hF => ?_) ?_
    · obtain ⟨V, k3, hw⟩ := hF
      have e9 : L 12 = false := hc.not 12 0 rfl rfl hL
      rw [e9, cond_false] at hw
      subst hw
      have E9 := Lib.hid e9
      clear e9
      clear aw cJ cI a3' a4
      refine StepU.go rfl (fun K hK => ?_)
      go_simp
      exact hK () _ ⟨_, k3, by rw [show add L 0 12 = L 12 from rfl, E9.out]; rfl⟩
    refine StepsU.cons rfl (fun g L w' hL hr hc hF => ?_) ?_
    · obtain ⟨V, k3, hw⟩ := hF
      have e9 : L 12 = false := hc.not 12 1 rfl rfl hL
      rw [e9, cond_false] at hw
      subst hw
      have E9 := Lib.hid e9
      clear e9
      clear aw cJ cI a3' a4
      refine StepU.go rfl (fun K hK => ?_)
      go_simp
      exact hK () _ ⟨_, k3, by rw [show add L 1 12 = L 12 from rfl, E9.out]; rfl⟩
    refine StepsU.cons rfl (fun g L w' hL hr hc hF => ?_) ?_
    · obtain ⟨V, k3, hw⟩ := hF
      have e9 : L 12 = false := hc.not 12 2 rfl rfl hL
      rw [e9, cond_false] at hw
      subst hw
      have E9 := Lib.hid e9
      clear e9
      clear aw cJ cI a3' a4
      refine StepU.go rfl (fun K hK => ?_)
      go_simp
      exact hK () _ ⟨_, k3, by rw [show add L 2 12 = L 12 from rfl, E9.out]; rfl⟩
    refine StepsU.cons rfl (fun g L w' hL hr hc hF => ?_) ?_
    · obtain ⟨V, k3, hw⟩ := hF
      have e9 : L 12 = false := hc.not 12 3 rfl rfl hL
      rw [e9, cond_false] at hw
      subst hw
      have E9 := Lib.hid e9
      clear e9
      clear aw cJ cI a3' a4
      refine StepU.go rfl (fun K hK => ?_)
      go_simp
      exact hK () _ ⟨_, k3, by rw [show add L 3 12 = L 12 from rfl, E9.out]; rfl⟩
    refine StepsU.cons rfl (fun g L w' hL hr hc hF => ?_) ?_
    · obtain ⟨V, k3, hw⟩ := hF
      have e9 : L 12 = false := hc.not 12 4 rfl rfl hL
      rw [e9, cond_false] at hw
      subst hw
      have E9 := Lib.hid e9
      clear e9
      clear aw cJ cI a3' a4
      refine StepU.go rfl (fun K hK => ?_)
      go_simp
      exact hK () _ ⟨_, k3, by rw [show add L 4 12 = L 12 from rfl, E9.out]; rfl⟩
    refine StepsU.cons rfl (fun g L w' hL hr hc hF => ?_) ?_
    · obtain ⟨V, k3, hw⟩ := hF
      have e9 : L 12 = false := hc.not 12 5 rfl rfl hL
      rw [e9, cond_false] at hw
      subst hw
      have E9 := Lib.hid e9
      clear e9
      clear aw cJ cI a3' a4
      refine StepU.go rfl (fun K hK => ?_)
      go_simp
      exact hK () _ ⟨_, k3, by rw [show add L 5 12 = L 12 from rfl, E9.out]; rfl⟩
    refine StepsU.cons rfl (fun g L w' hL hr hc hF => ?_) ?_
    · obtain ⟨V, k3, hw⟩ := hF
      have e9 : L 12 = false := hc.not 12 6 rfl rfl hL
      rw [e9, cond_false] at hw
      subst hw
      have E9 := Lib.hid e9
      clear e9
      clear aw cJ cI a3' a4
      refine StepU.go rfl (fun K hK => ?_)
      go_simp
      exact hK () _ ⟨_, k3, by rw [show add L 6 12 = L 12 from rfl, E9.out]; rfl⟩
    refine StepsU.cons rfl (fun g L w' hL hr hc hF => ?_) ?_
    · obtain ⟨V, k3, hw⟩ := hF
      have e9 : L 12 = false := hc.not 12 7 rfl rfl hL
      rw [e9, cond_false] at hw
      subst hw
      have E9 := Lib.hid e9
      clear e9
      clear aw cJ cI a3' a4
      refine StepU.go rfl (fun K hK => ?_)
      go_simp
      exact hK () _ ⟨_, k3, by rw [show add L 7 12 = L 12 from rfl, E9.out]; rfl⟩
    refine StepsU.cons rfl (fun g L w' hL hr hc hF => ?_) ?_
    · obtain ⟨V, k3, hw⟩ := hF
      have e9 : L 12 = false := hc.not 12 8 rfl rfl hL
      rw [e9, cond_false] at hw
      subst hw
      have E9 := Lib.hid e9
      clear e9
      have call9 := cI w'
      have C9 := Lib.hid call9
      clear call9
      clear aw cJ cI a3' a4
      refine StepU.go rfl (fun K hK => ?_)
      go_simp
      refine C9.out.mono ?_
      rintro e w2 ⟨rfl, b3⟩
      exact hK () _ ⟨w2, Keeps.next k3 b3, by rw [show add L 8 12 = L 12 from rfl, E9.out]; rfl⟩
    refine StepsU.cons rfl (fun g L w' hL hr hc hF => ?_) ?_
    · obtain ⟨V, k3, hw⟩ := hF
      have e9 : L 12 = false := hc.not 12 9 rfl rfl hL
      rw [e9, cond_false] at hw
      subst hw
      have E9 := Lib.hid e9
      clear e9
      clear aw cJ cI a3' a4
      refine StepU.go rfl (fun K hK => ?_)
      go_simp
      exact hK () _ ⟨_, k3, by rw [show add L 9 12 = L 12 from rfl, E9.out]; rfl⟩
    refine StepsU.cons rfl (fun g L w' hL hr hc hF => ?_) ?_
    · obtain ⟨V, k3, hw⟩ := hF
      have e9 : L 12 = false := hc.not 12 10 rfl rfl hL
      rw [e9, cond_false] at hw
      subst hw
      have E9 := Lib.hid e9
      clear e9
      clear aw cJ cI a3' a4
      refine StepU.go rfl (fun K hK => ?_)
      go_simp
      exact hK () _ ⟨_, k3, by rw [show add L 10 12 = L 12 from rfl, E9.out]; rfl⟩
    refine StepsU.cons rfl (fun g L w' hL hr hc hF => ?_) ?_
    · obtain ⟨V, k3, hw⟩ := hF
      clear aw cJ cI a3' a4
      have HW := Lib.hid hw
      clear hw
      refine StepU.go rfl (fun K hK => ?_)
      go_simp
      exact hK () _ ⟨V, k3, HW.out⟩
    refine StepsU.cons rfl (fun g L w' hL hr hc hF => ?_) ?_
    · obtain ⟨V, k3, hw⟩ := hF
      have e9 : L 12 = false := hL
      rw [e9, cond_false] at hw
      subst hw
      have E9 := Lib.hid e9
      clear e9
      obtain ⟨p1, p2, p3, p4⟩ := row_four (x9.later k3)
      clear aw cJ cI a3' a4
      refine StepU.go rfl (fun K hK => ?_)
      go_simp
      exact hK () _ ⟨_, k3, by rw [add_same]; rfl⟩
    refine StepsU.cons rfl (fun g L w' hL hr hc hF => ?_) ?_
    · obtain ⟨V, k3, hw⟩ := hF
      clear aw cJ cI a3' a4
      have HW := Lib.hid hw
      clear hw
      refine StepU.go rfl (fun K hK => ?_)
      go_simp
      exact hK () _ ⟨V, k3, HW.out⟩
    exact StepsU.nil (by simp)
  case fin6 =>
  intro g L w5 hall hF
  obtain ⟨V, k5, hw⟩ := hF
  rw [hall 12 (by simp), cond_true] at hw
  subst hw
  clear hall
  obtain ⟨W2, hW2⟩ : ∃ W2, (V.setCell ⟨b9, 0, none⟩ (.int .i64 x.1)).setCell ⟨b9, 1, none⟩ (.int .i64 x.2) = W2 := ⟨_, rfl⟩
  have y9 : At W2 b9 24 (gv x) := by rw [← hW2]; exact ((x9.later k5).set 0 _).set 1 _
  have y10 : At W2 b10 24 (gv (0, 0)) := by rw [← hW2]; exact ((x10.later k5).far (fun e => ne e.symm) _).far (fun e => ne e.symm) _
  have k3 : Keeps w W2 := by rw [← hW2]; exact Keeps.set (Keeps.set (Keeps.next k2 k5) _ g9 _ _) _ g9 _ _
  rw [hW2]
  clear hW2 k2 k5 x9 x10 g L cI a1' a2 V W g9
  go_upto_region 7 with fail
  refine region_any_inv (G := Unit) (f := ?f7) (fun _ => [.string T, .int .i64 (k : Int), .string P1, .string QJ, .string T, .int .i64 (k : Int), .string P2, .string TJ, .tuple #[.agg (gv x), .int .i64 0], .tuple #[.agg (gv x), .int .i64 0], .agg #[.int .i64 x.1, .int .i64 x.2], .int .i64 0, undef, .int .i64 0])
    (fun _ L w' => ∃ V, Keeps W2 V ∧ w' = bif L 12 then (V.setCell ⟨b10, 0, none⟩ (.int .i64 x.1)).setCell ⟨b10, 1, none⟩ (.int .i64 x.2) else V) () (fun _ => ?hf7) (by kernel_rfl) (by kernel_rfl) ⟨_, below_drewN (n := 1) (Below.refl _ _), rfl⟩ ?steps7 ?fin7
  case hf7 =>
    simp only [fill, List.toList_toArray, List.zip_cons_cons, List.zip_nil_left, List.zip_nil_right, List.foldl_cons, List.foldl_nil, Act.put, List.setIfInBounds_toArray, List.set_cons_succ, List.set_cons_zero]
    exact rfl
  case steps7 =>
    refine StepsU.cons rfl (fun g L w' hL hr hc hF => ?_) ?_
    · obtain ⟨V, k3, hw⟩ := hF
      have e9 : L 12 = false := hc.not 12 0 rfl rfl hL
      rw [e9, cond_false] at hw
      subst hw
      have E9 := Lib.hid e9
      clear e9
      clear aw cJ
      refine StepU.go rfl (fun K hK => ?_)
      go_simp
      exact hK () _ ⟨_, k3, by rw [show add L 0 12 = L 12 from rfl, E9.out]; rfl⟩
    refine StepsU.cons rfl (fun g L w' hL hr hc hF => ?_) ?_
    · obtain ⟨V, k3, hw⟩ := hF
      have e9 : L 12 = false := hc.not 12 1 rfl rfl hL
      rw [e9, cond_false] at hw
      subst hw
      have E9 := Lib.hid e9
      clear e9
      clear aw cJ
      refine StepU.go rfl (fun K hK => ?_)
      go_simp
      exact hK () _ ⟨_, k3, by rw [show add L 1 12 = L 12 from rfl, E9.out]; rfl⟩
    refine StepsU.cons rfl (fun g L w' hL hr hc hF => ?_) ?_
    · obtain ⟨V, k3, hw⟩ := hF
      have e9 : L 12 = false := hc.not 12 2 rfl rfl hL
      rw [e9, cond_false] at hw
      subst hw
      have E9 := Lib.hid e9
      clear e9
      clear aw cJ
      refine StepU.go rfl (fun K hK => ?_)
      go_simp
      exact hK () _ ⟨_, k3, by rw [show add L 2 12 = L 12 from rfl, E9.out]; rfl⟩
    refine StepsU.cons rfl (fun g L w' hL hr hc hF => ?_) ?_
    · obtain ⟨V, k3, hw⟩ := hF
      have e9 : L 12 = false := hc.not 12 3 rfl rfl hL
      rw [e9, cond_false] at hw
      subst hw
      have E9 := Lib.hid e9
      clear e9
      clear aw cJ
      refine StepU.go rfl (fun K hK => ?_)
      go_simp
      exact hK () _ ⟨_, k3, by rw [show add L 3 12 = L 12 from rfl, E9.out]; rfl⟩
    refine StepsU.cons rfl (fun g L w' hL hr hc hF => ?_) ?_
    · obtain ⟨V, k3, hw⟩ := hF
      have e9 : L 12 = false := hc.not 12 4 rfl rfl hL
      rw [e9, cond_false] at hw
      subst hw
      have E9 := Lib.hid e9
      clear e9
      clear aw cJ
      refine StepU.go rfl (fun K hK => ?_)
      go_simp
      exact hK () _ ⟨_, k3, by rw [show add L 4 12 = L 12 from rfl, E9.out]; rfl⟩
    refine StepsU.cons rfl (fun g L w' hL hr hc hF => ?_) ?_
    · obtain ⟨V, k3, hw⟩ := hF
      have e9 : L 12 = false := hc.not 12 5 rfl rfl hL
      rw [e9, cond_false] at hw
      subst hw
      have E9 := Lib.hid e9
      clear e9
      clear aw cJ
      refine StepU.go rfl (fun K hK => ?_)
      go_simp
      exact hK () _ ⟨_, k3, by rw [show add L 5 12 = L 12 from rfl, E9.out]; rfl⟩
    refine StepsU.cons rfl (fun g L w' hL hr hc hF => ?_) ?_
    · obtain ⟨V, k3, hw⟩ := hF
      have e9 : L 12 = false := hc.not 12 6 rfl rfl hL
      rw [e9, cond_false] at hw
      subst hw
      have E9 := Lib.hid e9
      clear e9
      clear aw cJ
      refine StepU.go rfl (fun K hK => ?_)
      go_simp
      exact hK () _ ⟨_, k3, by rw [show add L 6 12 = L 12 from rfl, E9.out]; rfl⟩
    refine StepsU.cons rfl (fun g L w' hL hr hc hF => ?_) ?_
    · obtain ⟨V, k3, hw⟩ := hF
      have e9 : L 12 = false := hc.not 12 7 rfl rfl hL
      rw [e9, cond_false] at hw
      subst hw
      have E9 := Lib.hid e9
      clear e9
      clear aw cJ
      refine StepU.go rfl (fun K hK => ?_)
      go_simp
      exact hK () _ ⟨_, k3, by rw [show add L 7 12 = L 12 from rfl, E9.out]; rfl⟩
    refine StepsU.cons rfl (fun g L w' hL hr hc hF => ?_) ?_
    · obtain ⟨V, k3, hw⟩ := hF
      have e9 : L 12 = false := hc.not 12 8 rfl rfl hL
      rw [e9, cond_false] at hw
      subst hw
      have E9 := Lib.hid e9
      clear e9
      have call9 := cJ w'
      have C9 := Lib.hid call9
      clear call9
      clear aw cJ
      refine StepU.go rfl (fun K hK => ?_)
      go_simp
      refine C9.out.mono ?_
      rintro e w2 ⟨rfl, b3⟩
      exact hK () _ ⟨w2, Keeps.next k3 b3, by rw [show add L 8 12 = L 12 from rfl, E9.out]; rfl⟩
    refine StepsU.cons rfl (fun g L w' hL hr hc hF => ?_) ?_
    · obtain ⟨V, k3, hw⟩ := hF
      have e9 : L 12 = false := hc.not 12 9 rfl rfl hL
      rw [e9, cond_false] at hw
      subst hw
      have E9 := Lib.hid e9
      clear e9
      clear aw cJ
      refine StepU.go rfl (fun K hK => ?_)
      go_simp
      exact hK () _ ⟨_, k3, by rw [show add L 9 12 = L 12 from rfl, E9.out]; rfl⟩
    refine StepsU.cons rfl (fun g L w' hL hr hc hF => ?_) ?_
    · obtain ⟨V, k3, hw⟩ := hF
      have e9 : L 12 = false := hc.not 12 10 rfl rfl hL
      rw [e9, cond_false] at hw
      subst hw
      have E9 := Lib.hid e9
      clear e9
      clear aw cJ
      refine StepU.go rfl (fun K hK => ?_)
      go_simp
      exact hK () _ ⟨_, k3, by rw [show add L 10 12 = L 12 from rfl, E9.out]; rfl⟩
    refine StepsU.cons rfl (fun g L w' hL hr hc hF => ?_) ?_
    · obtain ⟨V, k3, hw⟩ := hF
      clear aw cJ
      have HW := Lib.hid hw
      clear hw
      refine StepU.go rfl (fun K hK => ?_)
      go_simp
      exact hK () _ ⟨V, k3, HW.out⟩
    refine StepsU.cons rfl (fun g L w' hL hr hc hF => ?_) ?_
    · obtain ⟨V, k3, hw⟩ := hF
      have e9 : L 12 = false := hL
      rw [e9, cond_false] at hw
      subst hw
      have E9 := Lib.hid e9
      clear e9
      obtain ⟨p1, p2, p3, p4⟩ := row_four (y10.later k3)
      clear aw cJ
      refine StepU.go rfl (fun K hK => ?_)
      go_simp
      exact hK () _ ⟨_, k3, by rw [add_same]; rfl⟩
    refine StepsU.cons rfl (fun g L w' hL hr hc hF => ?_) ?_
    · obtain ⟨V, k3, hw⟩ := hF
      clear aw cJ
      have HW := Lib.hid hw
      clear hw
      refine StepU.go rfl (fun K hK => ?_)
      go_simp
      exact hK () _ ⟨V, k3, HW.out⟩
    exact StepsU.nil (by simp)
  case fin7 =>
  intro g L w5 hall hF
  obtain ⟨V, k5, hw⟩ := hF
  rw [hall 12 (by simp), cond_true] at hw
  subst hw
  clear hall
  obtain ⟨W3, hW3⟩ : ∃ W3, (V.setCell ⟨b10, 0, none⟩ (.int .i64 x.1)).setCell ⟨b10, 1, none⟩ (.int .i64 x.2) = W3 := ⟨_, rfl⟩
  have v10 : At W3 b10 24 (gv x) := by rw [← hW3]; exact ((y10.later k5).set 0 _).set 1 _
  have v9 : At W3 b9 24 (gv x) := by rw [← hW3]; exact ((y9.later k5).far ne _).far ne _
  have k4 : Keeps w W3 := by rw [← hW3]; exact Keeps.set (Keeps.set (Keeps.next k3 k5) _ g10 _ _) _ g10 _ _
  rw [hW3]
  clear hW3 k3 k5 y9 y10 g L cJ a3' a4 V W2 g10
  go_wp2_with (first
    | (refine load_row_w rfl 24 _ rfl _ rfl 24 #[.int .i64 x.1, .int .i64 x.2] _ _ v9 Tryd.underlying24 rfl (sizeG _ _) ?_)
    | (refine load_row_w rfl 24 _ rfl _ rfl 24 #[.int .i64 x.1, .int .i64 x.2] _ _ v10 Tryd.underlying24 rfl (sizeG _ _) ?_)
    | (go_at_call 12
       (with_reducible refine (aw _).mono ?_)
       rintro e w5 ⟨rfl, b5⟩
       have k5 := Keeps.next k4 b5
       clear aw k4 ))
  go_ret
  exact ⟨rfl, k5⟩
set_option maxHeartbeats 8000000 in
set_option maxRecDepth 100000 in
theorem carried_two (s : ByteArray) (at1 at2 : Int) (w : World) (hs : s.size ≤ maxLen) (hpar : (modN at1 2 == 0) = false) :
    Calls Tryd.prog 6 #[.string s, .int .i64 at1, .int .i64 at2] w fun e w' => e = .returned (.bool true) ∧ Keeps w w' := by
  have aw := fun z => awake_c z
  have c1 : ∀ z, Calls Tryd.prog 18 #[.string s, .int .i64 30, .int .i64 2] z fun e w' => e = .returned (.string ⟨(txW s.data.toList 7 2).toArray⟩) ∧ Keeps z w' := fun z => lawText_c s hs 30 2 (.inl rfl) z
  have hT25 : (txW s.data.toList 7 2).length ≤ 25 := (law_prs7 s.data.toList).choose_spec.choose_spec.2.2.2
  have hsz : (⟨(txW s.data.toList 7 2).toArray⟩ : ByteArray).size ≤ 25 := by rw [arr_size]; exact hT25
  have hk := modN_in at2 (((⟨(txW s.data.toList 7 2).toArray⟩ : ByteArray).size : Int) + 1) (by omega)
  obtain ⟨k, hkk⟩ : ∃ k : Nat, modN at2 (((⟨(txW s.data.toList 7 2).toArray⟩ : ByteArray).size : Int) + 1) = (k : Int) := ⟨_, (Int.toNat_of_nonneg hk.1).symm⟩
  rw [hkk] at hk
  have hk2 : k ≤ (⟨(txW s.data.toList 7 2).toArray⟩ : ByteArray).size := by omega
  have c2 : ∀ z, Calls Tryd.prog 20 #[.int .i64 at2, .int .i64 (((⟨(txW s.data.toList 7 2).toArray⟩ : ByteArray).size : Int) + 1)] z fun e w' => e = .returned (.int .i64 (k : Int)) ∧ z = w' := fun z => by
    have := mod_c at2 (((⟨(txW s.data.toList 7 2).toArray⟩ : ByteArray).size : Int) + 1) (by omega) (by omega) z
    rw [hkk] at this
    exact this
  have c3 := fun z => mod_c at1 2 (by decide) (by decide) z
  obtain ⟨F, G, F2, G2, i1, i2, i3, i4, i5, i6⟩ := ins_value s.data.toList [48, 50, 48, 48] [49, 48, 48, 49] k (by rw [← arr_size]; exact hk2) rfl (fun c hc => (dig_ok c).1 (by simp only [List.mem_cons, List.not_mem_nil, or_false] at hc; rcases hc with rfl | rfl | rfl | rfl <;> decide)) (fun c hc => (dig_ok c).1 (by simp only [List.mem_cons, List.not_mem_nil, or_false] at hc; rcases hc with rfl | rfl | rfl | rfl <;> decide)) (by decide) (by decide) (fun e s => carry_two e s)
  obtain ⟨P1, P2, QI, e1, e2, a1, a2, z1, z2, z3⟩ := ins_pieces (⟨(txW s.data.toList 7 2).toArray⟩ : ByteArray) [48, 50, 48, 48] k hk2 (by decide) (by omega)
  obtain ⟨P3, P4, QJ, e3, e4, a3, a4, z4, z5, z6⟩ := ins_pieces (⟨(txW s.data.toList 7 2).toArray⟩ : ByteArray) [49, 48, 48, 49] k hk2 (by decide) (by omega)
  obtain rfl : P1 = P3 := e1.symm.trans e3
  obtain rfl : P2 = P4 := e2.symm.trans e4
  clear e3 e4 z1 z2 z3 z4 z5 z6 hkk
  rw [arr_list] at a2 a4
  have tI := text_yes ⟨(ins (txW s.data.toList 7 2) [48, 50, 48, 48] k).toArray⟩ (by rw [arr_size]; omega) F G (by rw [arr_list]; exact i1)
  have tJ := text_yes ⟨(ins (txW s.data.toList 7 2) [49, 48, 48, 49] k).toArray⟩ (by rw [arr_size]; omega) F2 G2 (by rw [arr_list]; exact i2)
  obtain ⟨h80, ok1⟩ := dig_80 _ F G i1
  obtain ⟨h81, ok2⟩ := dig_80 _ F2 G2 i2
  have bX := num_of (sm2_mono i4 (show (400000 : Int) ≤ 1000000 by decide))
  have cI := fun z => Value_ok _ (digL F G) h80 ok1 tI z
  rw [nofV, nofE, bX, if_pos rfl, if_pos rfl] at cI
  rw [i3] at bX
  have cJ := fun z => Value_ok _ (digL F2 G2) h81 ok2 tJ z
  rw [nofV, nofE, bX, if_pos rfl, if_pos rfl] at cJ
  rw [i3] at cI
  clear i1 i2 i3 i4 i5 i6 tI tJ h80 ok1 h81 ok2 bX hs
  generalize valG (digL F2 G2) = x at *
  generalize (⟨(ins (txW s.data.toList 7 2) [48, 50, 48, 48] k).toArray⟩ : ByteArray) = TI at *
  generalize (⟨(ins (txW s.data.toList 7 2) [49, 48, 48, 49] k).toArray⟩ : ByteArray) = TJ at *
  generalize (⟨(txW s.data.toList 7 2).toArray⟩ : ByteArray) = T at *
  have a1' : ∀ W, (Op.stringOp .add P1 ⟨#[48, 50, 48, 48]⟩).run Tryd.prog W = .ok (.string QI) W := a1
  have a3' : ∀ W, (Op.stringOp .add P1 ⟨#[49, 48, 48, 49]⟩).run Tryd.prog W = .ok (.string QJ) W := a3
  have q1 : IntKind.i64.wrap ((T.size : Int) + 1) = (T.size : Int) + 1 := IntWalk.i64_in _ (by omega)
  have l0 : (0 : Int) ≤ (k : Int) := by omega
  have l1 : (k : Int) ≤ (T.size : Int) := by omega
  generalize hM : modN at1 2 = M at *
  clear hM hT25 hsz a1 a3 hk hk2
  have k0 : Keeps w w := Below.refl _ _
  go_enter Tryd.func6, Tryd.ntmps6
  go_upto_region 2 with (first
    | (go_at_call 18
       (with_reducible refine (c1 _).mono ?_)
       rintro e w1 ⟨rfl, b1⟩
       have k1 := Keeps.next k0 b1
       clear c1 k0 ))
  go_upto_region 3 with (go_at_call 20; refine (c2 _).mono ?_; rintro e w2 ⟨rfl, rfl⟩)
  clear c2 q1
  go_upto_region 4 with fail
  obtain ⟨W, hW⟩ : ∃ W, (w1.alloc (.cells #[.int .i64 0, .int .i64 0] 24)).alloc (.cells #[.int .i64 0, .int .i64 0] 24) = W := ⟨_, rfl⟩
  have x9 : At W w1.heap.size 24 (gv (0, 0)) := by rw [← hW]; exact (At.new w1 _ _).alloc _
  have x10 : At W (w1.heap.size + 1) 24 (gv (0, 0)) := by rw [← hW]; exact At.new2 w1 _ _ _
  have k2 : Keeps w W := by rw [← hW]; exact Keeps.alloc (Keeps.alloc k1 _) _
  rw [hW]
  clear hW
  have g9 : w.heap.size ≤ w1.heap.size := k1.size
  have g10 : w.heap.size ≤ w1.heap.size + 1 := by omega
  have ne : w1.heap.size ≠ w1.heap.size + 1 := by omega
  clear k1
  generalize w1.heap.size + 1 = b10 at *
  generalize w1.heap.size = b9 at *
  go_upto_region 8 with (go_at_call 20; refine (c3 _).mono ?_; rintro e w3 ⟨rfl, rfl⟩)
  try simp only [hpar]
  clear c3 hpar
  refine region_any_inv (G := Unit) (f := ?f8) (fun _ => [.string T, .int .i64 (k : Int), .string P1, .string QI, .string T, .int .i64 (k : Int), .string P2, .string TI, .tuple #[.agg (gv x), .int .i64 0], .tuple #[.agg (gv x), .int .i64 0], .agg #[.int .i64 x.1, .int .i64 x.2], .int .i64 0, undef, .int .i64 0])
    (fun _ L w' => ∃ V, Keeps W V ∧ w' = bif L 12 then (V.setCell ⟨b9, 0, none⟩ (.int .i64 x.1)).setCell ⟨b9, 1, none⟩ (.int .i64 x.2) else V) () (fun _ => ?hf8) (by kernel_rfl) (by kernel_rfl) ⟨_, below_drewN (n := 1) (Below.refl _ _), rfl⟩ ?steps8 ?fin8
  case hf8 =>
    simp only [fill, List.toList_toArray, List.zip_cons_cons, List.zip_nil_left, List.zip_nil_right, List.foldl_cons, List.foldl_nil, Act.put, List.setIfInBounds_toArray, List.set_cons_succ, List.set_cons_zero]
    exact rfl
  case steps8 =>
    refine StepsU.cons rfl (fun g L w' hL hr hc hF => ?_) ?_
    · obtain ⟨V, k3, hw⟩ := hF
      have e9 : L 12 = false := hc.not 12 0 rfl rfl hL
      rw [e9, cond_false] at hw
      subst hw
      have E9 := Lib.hid e9
      clear e9
      clear aw cJ cI a3' a4
      refine StepU.go rfl (fun K hK => ?_)
      go_simp
      exact hK () _ ⟨_, k3, by rw [show add L 0 12 = L 12 from rfl, E9.out]; rfl⟩
    refine StepsU.cons rfl (fun g L w' hL hr hc hF => ?_) ?_
    · obtain ⟨V, k3, hw⟩ := hF
      have e9 : L 12 = false := hc.not 12 1 rfl rfl hL
      rw [e9, cond_false] at hw
      subst hw
      have E9 := Lib.hid e9
      clear e9
      clear aw cJ cI a3' a4
      refine StepU.go rfl (fun K hK => ?_)
      go_simp
      exact hK () _ ⟨_, k3, by rw [show add L 1 12 = L 12 from rfl, E9.out]; rfl⟩
    refine StepsU.cons rfl (fun g L w' hL hr hc hF => ?_) ?_
    · obtain ⟨V, k3, hw⟩ := hF
      have e9 : L 12 = false := hc.not 12 2 rfl rfl hL
      rw [e9, cond_false] at hw
      subst hw
      have E9 := Lib.hid e9
      clear e9
      clear aw cJ cI a3' a4
      refine StepU.go rfl (fun K hK => ?_)
      go_simp
      exact hK () _ ⟨_, k3, by rw [show add L 2 12 = L 12 from rfl, E9.out]; rfl⟩
    refine StepsU.cons rfl (fun g L w' hL hr hc hF => ?_) ?_
    · obtain ⟨V, k3, hw⟩ := hF
      have e9 : L 12 = false := hc.not 12 3 rfl rfl hL
      rw [e9, cond_false] at hw
      subst hw
      have E9 := Lib.hid e9
      clear e9
      clear aw cJ cI a3' a4
      refine StepU.go rfl (fun K hK => ?_)
      go_simp
      exact hK () _ ⟨_, k3, by rw [show add L 3 12 = L 12 from rfl, E9.out]; rfl⟩
    refine StepsU.cons rfl (fun g L w' hL hr hc hF => ?_) ?_
    · obtain ⟨V, k3, hw⟩ := hF
      have e9 : L 12 = false := hc.not 12 4 rfl rfl hL
      rw [e9, cond_false] at hw
      subst hw
      have E9 := Lib.hid e9
      clear e9
      clear aw cJ cI a3' a4
      refine StepU.go rfl (fun K hK => ?_)
      go_simp
      exact hK () _ ⟨_, k3, by rw [show add L 4 12 = L 12 from rfl, E9.out]; rfl⟩
    refine StepsU.cons rfl (fun g L w' hL hr hc hF => ?_) ?_
    · obtain ⟨V, k3, hw⟩ := hF
      have e9 : L 12 = false := hc.not 12 5 rfl rfl hL
      rw [e9, cond_false] at hw
      subst hw
      have E9 := Lib.hid e9
      clear e9
      clear aw cJ cI a3' a4
      refine StepU.go rfl (fun K hK => ?_)
      go_simp
      exact hK () _ ⟨_, k3, by rw [show add L 5 12 = L 12 from rfl, E9.out]; rfl⟩
    refine StepsU.cons rfl (fun g L w' hL hr hc hF => ?_) ?_
    · obtain ⟨V, k3, hw⟩ := hF
      have e9 : L 12 = false := hc.not 12 6 rfl rfl hL
      rw [e9, cond_false] at hw
      subst hw
      have E9 := Lib.hid e9
      clear e9
      clear aw cJ cI a3' a4
      refine StepU.go rfl (fun K hK => ?_)
      go_simp
      exact hK () _ ⟨_, k3, by rw [show add L 6 12 = L 12 from rfl, E9.out]; rfl⟩
    refine StepsU.cons rfl (fun g L w' hL hr hc hF => ?_) ?_
    · obtain ⟨V, k3, hw⟩ := hF
      have e9 : L 12 = false := hc.not 12 7 rfl rfl hL
      rw [e9, cond_false] at hw
      subst hw
      have E9 := Lib.hid e9
      clear e9
      clear aw cJ cI a3' a4
      refine StepU.go rfl (fun K hK => ?_)
      go_simp
      exact hK () _ ⟨_, k3, by rw [show add L 7 12 = L 12 from rfl, E9.out]; rfl⟩
    refine StepsU.cons rfl (fun g L w' hL hr hc hF => ?_) ?_
    · obtain ⟨V, k3, hw⟩ := hF
      have e9 : L 12 = false := hc.not 12 8 rfl rfl hL
      rw [e9, cond_false] at hw
      subst hw
      have E9 := Lib.hid e9
      clear e9
      have call9 := cI w'
      have C9 := Lib.hid call9
      clear call9
      clear aw cJ cI a3' a4
      refine StepU.go rfl (fun K hK => ?_)
      go_simp
      refine C9.out.mono ?_
      rintro e w2 ⟨rfl, b3⟩
      exact hK () _ ⟨w2, Keeps.next k3 b3, by rw [show add L 8 12 = L 12 from rfl, E9.out]; rfl⟩
    refine StepsU.cons rfl (fun g L w' hL hr hc hF => ?_) ?_
    · obtain ⟨V, k3, hw⟩ := hF
      have e9 : L 12 = false := hc.not 12 9 rfl rfl hL
      rw [e9, cond_false] at hw
      subst hw
      have E9 := Lib.hid e9
      clear e9
      clear aw cJ cI a3' a4
      refine StepU.go rfl (fun K hK => ?_)
      go_simp
      exact hK () _ ⟨_, k3, by rw [show add L 9 12 = L 12 from rfl, E9.out]; rfl⟩
    refine StepsU.cons rfl (fun g L w' hL hr hc hF => ?_) ?_
    · obtain ⟨V, k3, hw⟩ := hF
      have e9 : L 12 = false := hc.not 12 10 rfl rfl hL
      rw [e9, cond_false] at hw
      subst hw
      have E9 := Lib.hid e9
      clear e9
      clear aw cJ cI a3' a4
      refine StepU.go rfl (fun K hK => ?_)
      go_simp
      exact hK () _ ⟨_, k3, by rw [show add L 10 12 = L 12 from rfl, E9.out]; rfl⟩
    refine StepsU.cons rfl (fun g L w' hL hr hc hF => ?_) ?_
    · obtain ⟨V, k3, hw⟩ := hF
      clear aw cJ cI a3' a4
      have HW := Lib.hid hw
      clear hw
      refine StepU.go rfl (fun K hK => ?_)
      go_simp
      exact hK () _ ⟨V, k3, HW.out⟩
    refine StepsU.cons rfl (fun g L w' hL hr hc hF => ?_) ?_
    · obtain ⟨V, k3, hw⟩ := hF
      have e9 : L 12 = false := hL
      rw [e9, cond_false] at hw
      subst hw
      have E9 := Lib.hid e9
      clear e9
      obtain ⟨p1, p2, p3, p4⟩ := row_four (x9.later k3)
      clear aw cJ cI a3' a4
      refine StepU.go rfl (fun K hK => ?_)
      go_simp
      exact hK () _ ⟨_, k3, by rw [add_same]; rfl⟩
    refine StepsU.cons rfl (fun g L w' hL hr hc hF => ?_) ?_
    · obtain ⟨V, k3, hw⟩ := hF
      clear aw cJ cI a3' a4
      have HW := Lib.hid hw
      clear hw
      refine StepU.go rfl (fun K hK => ?_)
      go_simp
      exact hK () _ ⟨V, k3, HW.out⟩
    exact StepsU.nil (by simp)
  case fin8 =>
  intro g L w5 hall hF
  obtain ⟨V, k5, hw⟩ := hF
  rw [hall 12 (by simp), cond_true] at hw
  subst hw
  clear hall
  obtain ⟨W2, hW2⟩ : ∃ W2, (V.setCell ⟨b9, 0, none⟩ (.int .i64 x.1)).setCell ⟨b9, 1, none⟩ (.int .i64 x.2) = W2 := ⟨_, rfl⟩
  have y9 : At W2 b9 24 (gv x) := by rw [← hW2]; exact ((x9.later k5).set 0 _).set 1 _
  have y10 : At W2 b10 24 (gv (0, 0)) := by rw [← hW2]; exact ((x10.later k5).far (fun e => ne e.symm) _).far (fun e => ne e.symm) _
  have k3 : Keeps w W2 := by rw [← hW2]; exact Keeps.set (Keeps.set (Keeps.next k2 k5) _ g9 _ _) _ g9 _ _
  rw [hW2]
  clear hW2 k2 k5 x9 x10 g L cI a1' a2 V W g9
  go_upto_region 9 with fail
  refine region_any_inv (G := Unit) (f := ?f9) (fun _ => [.string T, .int .i64 (k : Int), .string P1, .string QJ, .string T, .int .i64 (k : Int), .string P2, .string TJ, .tuple #[.agg (gv x), .int .i64 0], .tuple #[.agg (gv x), .int .i64 0], .agg #[.int .i64 x.1, .int .i64 x.2], .int .i64 0, undef, .int .i64 0])
    (fun _ L w' => ∃ V, Keeps W2 V ∧ w' = bif L 12 then (V.setCell ⟨b10, 0, none⟩ (.int .i64 x.1)).setCell ⟨b10, 1, none⟩ (.int .i64 x.2) else V) () (fun _ => ?hf9) (by kernel_rfl) (by kernel_rfl) ⟨_, below_drewN (n := 1) (Below.refl _ _), rfl⟩ ?steps9 ?fin9
  case hf9 =>
    simp only [fill, List.toList_toArray, List.zip_cons_cons, List.zip_nil_left, List.zip_nil_right, List.foldl_cons, List.foldl_nil, Act.put, List.setIfInBounds_toArray, List.set_cons_succ, List.set_cons_zero]
    exact rfl
  case steps9 =>
    refine StepsU.cons rfl (fun g L w' hL hr hc hF => ?_) ?_
    · obtain ⟨V, k3, hw⟩ := hF
      have e9 : L 12 = false := hc.not 12 0 rfl rfl hL
      rw [e9, cond_false] at hw
      subst hw
      have E9 := Lib.hid e9
      clear e9
      clear aw cJ
      refine StepU.go rfl (fun K hK => ?_)
      go_simp
      exact hK () _ ⟨_, k3, by rw [show add L 0 12 = L 12 from rfl, E9.out]; rfl⟩
    refine StepsU.cons rfl (fun g L w' hL hr hc hF => ?_) ?_
    · obtain ⟨V, k3, hw⟩ := hF
      have e9 : L 12 = false := hc.not 12 1 rfl rfl hL
      rw [e9, cond_false] at hw
      subst hw
      have E9 := Lib.hid e9
      clear e9
      clear aw cJ
      refine StepU.go rfl (fun K hK => ?_)
      go_simp
      exact hK () _ ⟨_, k3, by rw [show add L 1 12 = L 12 from rfl, E9.out]; rfl⟩
    refine StepsU.cons rfl (fun g L w' hL hr hc hF => ?_) ?_
    · obtain ⟨V, k3, hw⟩ := hF
      have e9 : L 12 = false := hc.not 12 2 rfl rfl hL
      rw [e9, cond_false] at hw
      subst hw
      have E9 := Lib.hid e9
      clear e9
      clear aw cJ
      refine StepU.go rfl (fun K hK => ?_)
      go_simp
      exact hK () _ ⟨_, k3, by rw [show add L 2 12 = L 12 from rfl, E9.out]; rfl⟩
    refine StepsU.cons rfl (fun g L w' hL hr hc hF => ?_) ?_
    · obtain ⟨V, k3, hw⟩ := hF
      have e9 : L 12 = false := hc.not 12 3 rfl rfl hL
      rw [e9, cond_false] at hw
      subst hw
      have E9 := Lib.hid e9
      clear e9
      clear aw cJ
      refine StepU.go rfl (fun K hK => ?_)
      go_simp
      exact hK () _ ⟨_, k3, by rw [show add L 3 12 = L 12 from rfl, E9.out]; rfl⟩
    refine StepsU.cons rfl (fun g L w' hL hr hc hF => ?_) ?_
    · obtain ⟨V, k3, hw⟩ := hF
      have e9 : L 12 = false := hc.not 12 4 rfl rfl hL
      rw [e9, cond_false] at hw
      subst hw
      have E9 := Lib.hid e9
      clear e9
      clear aw cJ
      refine StepU.go rfl (fun K hK => ?_)
      go_simp
      exact hK () _ ⟨_, k3, by rw [show add L 4 12 = L 12 from rfl, E9.out]; rfl⟩
    refine StepsU.cons rfl (fun g L w' hL hr hc hF => ?_) ?_
    · obtain ⟨V, k3, hw⟩ := hF
      have e9 : L 12 = false := hc.not 12 5 rfl rfl hL
      rw [e9, cond_false] at hw
      subst hw
      have E9 := Lib.hid e9
      clear e9
      clear aw cJ
      refine StepU.go rfl (fun K hK => ?_)
      go_simp
      exact hK () _ ⟨_, k3, by rw [show add L 5 12 = L 12 from rfl, E9.out]; rfl⟩
    refine StepsU.cons rfl (fun g L w' hL hr hc hF => ?_) ?_
    · obtain ⟨V, k3, hw⟩ := hF
      have e9 : L 12 = false := hc.not 12 6 rfl rfl hL
      rw [e9, cond_false] at hw
      subst hw
      have E9 := Lib.hid e9
      clear e9
      clear aw cJ
      refine StepU.go rfl (fun K hK => ?_)
      go_simp
      exact hK () _ ⟨_, k3, by rw [show add L 6 12 = L 12 from rfl, E9.out]; rfl⟩
    refine StepsU.cons rfl (fun g L w' hL hr hc hF => ?_) ?_
    · obtain ⟨V, k3, hw⟩ := hF
      have e9 : L 12 = false := hc.not 12 7 rfl rfl hL
      rw [e9, cond_false] at hw
      subst hw
      have E9 := Lib.hid e9
      clear e9
      clear aw cJ
      refine StepU.go rfl (fun K hK => ?_)
      go_simp
      exact hK () _ ⟨_, k3, by rw [show add L 7 12 = L 12 from rfl, E9.out]; rfl⟩
    refine StepsU.cons rfl (fun g L w' hL hr hc hF => ?_) ?_
    · obtain ⟨V, k3, hw⟩ := hF
      have e9 : L 12 = false := hc.not 12 8 rfl rfl hL
      rw [e9, cond_false] at hw
      subst hw
      have E9 := Lib.hid e9
      clear e9
      have call9 := cJ w'
      have C9 := Lib.hid call9
      clear call9
      clear aw cJ
      refine StepU.go rfl (fun K hK => ?_)
      go_simp
      refine C9.out.mono ?_
      rintro e w2 ⟨rfl, b3⟩
      exact hK () _ ⟨w2, Keeps.next k3 b3, by rw [show add L 8 12 = L 12 from rfl, E9.out]; rfl⟩
    refine StepsU.cons rfl (fun g L w' hL hr hc hF => ?_) ?_
    · obtain ⟨V, k3, hw⟩ := hF
      have e9 : L 12 = false := hc.not 12 9 rfl rfl hL
      rw [e9, cond_false] at hw
      subst hw
      have E9 := Lib.hid e9
      clear e9
      clear aw cJ
      refine StepU.go rfl (fun K hK => ?_)
      go_simp
      exact hK () _ ⟨_, k3, by rw [show add L 9 12 = L 12 from rfl, E9.out]; rfl⟩
    refine StepsU.cons rfl (fun g L w' hL hr hc hF => ?_) ?_
    · obtain ⟨V, k3, hw⟩ := hF
      have e9 : L 12 = false := hc.not 12 10 rfl rfl hL
      rw [e9, cond_false] at hw
      subst hw
      have E9 := Lib.hid e9
      clear e9
      clear aw cJ
      refine StepU.go rfl (fun K hK => ?_)
      go_simp
      exact hK () _ ⟨_, k3, by rw [show add L 10 12 = L 12 from rfl, E9.out]; rfl⟩
    refine StepsU.cons rfl (fun g L w' hL hr hc hF => ?_) ?_
    · obtain ⟨V, k3, hw⟩ := hF
      clear aw cJ
      have HW := Lib.hid hw
      clear hw
      refine StepU.go rfl (fun K hK => ?_)
      go_simp
      exact hK () _ ⟨V, k3, HW.out⟩
    refine StepsU.cons rfl (fun g L w' hL hr hc hF => ?_) ?_
    · obtain ⟨V, k3, hw⟩ := hF
      have e9 : L 12 = false := hL
      rw [e9, cond_false] at hw
      subst hw
      have E9 := Lib.hid e9
      clear e9
      obtain ⟨p1, p2, p3, p4⟩ := row_four (y10.later k3)
      clear aw cJ
      refine StepU.go rfl (fun K hK => ?_)
      go_simp
      exact hK () _ ⟨_, k3, by rw [add_same]; rfl⟩
    refine StepsU.cons rfl (fun g L w' hL hr hc hF => ?_) ?_
    · obtain ⟨V, k3, hw⟩ := hF
      clear aw cJ
      have HW := Lib.hid hw
      clear hw
      refine StepU.go rfl (fun K hK => ?_)
      go_simp
      exact hK () _ ⟨V, k3, HW.out⟩
    exact StepsU.nil (by simp)
  case fin9 =>
  intro g L w5 hall hF
  obtain ⟨V, k5, hw⟩ := hF
  rw [hall 12 (by simp), cond_true] at hw
  subst hw
  clear hall
  obtain ⟨W3, hW3⟩ : ∃ W3, (V.setCell ⟨b10, 0, none⟩ (.int .i64 x.1)).setCell ⟨b10, 1, none⟩ (.int .i64 x.2) = W3 := ⟨_, rfl⟩
  have v10 : At W3 b10 24 (gv x) := by rw [← hW3]; exact ((y10.later k5).set 0 _).set 1 _
  have v9 : At W3 b9 24 (gv x) := by rw [← hW3]; exact ((y9.later k5).far ne _).far ne _
  have k4 : Keeps w W3 := by rw [← hW3]; exact Keeps.set (Keeps.set (Keeps.next k3 k5) _ g10 _ _) _ g10 _ _
  rw [hW3]
  clear hW3 k3 k5 y9 y10 g L cJ a3' a4 V W2 g10
  go_wp2_with (first
    | (refine load_row_w rfl 24 _ rfl _ rfl 24 #[.int .i64 x.1, .int .i64 x.2] _ _ v9 Tryd.underlying24 rfl (sizeG _ _) ?_)
    | (refine load_row_w rfl 24 _ rfl _ rfl 24 #[.int .i64 x.1, .int .i64 x.2] _ _ v10 Tryd.underlying24 rfl (sizeG _ _) ?_)
    | (go_at_call 12
       (with_reducible refine (aw _).mono ?_)
       rintro e w5 ⟨rfl, b5⟩
       have k5 := Keeps.next k4 b5
       clear aw k4 ))
  go_ret
  exact ⟨rfl, k5⟩
theorem law_carried (s : ByteArray) (at1 at2 : Int) (w : World) (hs : s.size ≤ maxLen) (_ : (Lit.int IntKind.i64 at1).wf = true) (_ : (Lit.int IntKind.i64 at2).wf = true) :
    Calls Tryd.prog 6 #[.string s, .int .i64 at1, .int .i64 at2] w fun e w' => e = .returned (.bool true) ∧ Keeps w w' := by
  cases h : (modN at1 2 == 0)
  · exact carried_two s at1 at2 w hs h
  · exact carried_one s at1 at2 w hs h
end Go.Proofs.YtfekggmdhmkemaaDoor
