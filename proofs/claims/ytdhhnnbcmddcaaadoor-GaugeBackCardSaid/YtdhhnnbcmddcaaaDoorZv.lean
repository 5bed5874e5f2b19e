/- The law GaugeBack. -/
import Derived.Test.YtdhhnnbcmddcaaaDoorZu
import Derived.Test.YtdhhnnbcmddcaaaDoorZg
import Derived.Test.YtdhhnnbcmddcaaaDoorGq
import Derived.Test.YtdhhnnbcmddcaaaDoorGp
import Derived.Test.YtdhhnnbcmddcaaaDoorUa
import Derived.Test.YtdhhnnbcmddcaaaDoorVc
namespace Go.Proofs.YtdhhnnbcmddcaaaDoor
open Go.RowKit
set_option linter.unusedVariables false
set_option linter.unusedSimpArgs false

/-- What read tells of a plain text. -/
theorem read_plain (l F G : List UInt8) (hl : l.length ≤ 81) (h : prs l = some (F, G)) (w : World) : Calls Tryd.prog 36 #[.string ⟨l.toArray⟩] w fun e w' => e = .returned (.tuple #[.agg (dB (digL F G)), .int .i64 0]) ∧ Keeps w w' := by
  have := read_any l (by omega) w
  unfold rdV rdE at this
  rw [h] at this
  exact this
theorem digL_ok (l F G : List UInt8) (h : prs l = some (F, G)) : (digL F G).length = 80 ∧ ∀ c ∈ digL F G, okD c := by
  obtain ⟨hF, hG, f1, f2, g2, hl⟩ := prs_parts l F G h
  refine ⟨by simp [digL]; omega, fun c hc => ?_⟩
  simp only [digL, List.mem_append, List.mem_replicate] at hc
  rcases hc with (hc | hc) | (hc | hc)
  · exact .inl hc.2
  · exact hF c hc
  · exact hG c hc
  · exact .inl hc.2
theorem bne_46 (c : UInt8) : ((c.toNat : Int) != 46) = !decide (c = 46) := by
  have := u8_eq c 46
  rw [show ((46 : UInt8).toNat : Int) = 46 from rfl] at this
  rw [bne, this]
/-- A counter below two bounds. -/
def upN (n s : Nat) (j : Value) : Prop := ∃ m : Nat, m ≤ n ∧ m ≤ s ∧ j = .int .i64 m
set_option maxHeartbeats 8000000 in
set_option maxRecDepth 100000 in
theorem law_back (a b : Int) (w : World) :
    Calls Tryd.prog 7 #[.agg #[.int .i64 a, .int .i64 b]] w fun e w' => e = .returned (.bool true) ∧ Keeps w w' := by
  obtain ⟨x, hx0⟩ : ∃ x : Int × Int, x = (a, b) := ⟨_, rfl⟩
  rw [show a = x.1 by rw [hx0], show b = x.2 by rw [hx0]]
  clear hx0
  have aw := fun z => awake_c z
  have c1 := fun z => positive_c x 1000000 (by decide) (by decide) z
  obtain ⟨hX, hnn⟩ := posG_in 1000000 (by decide) x
  generalize posG 1000000 x = X at *
  have nX := num_of hX
  obtain ⟨n, F, G, hp, hv, hFl, n1, n40, hl81, hln, hpl, hdig, hdot, hzero, hone⟩ := back_facts X hX hnn
  obtain ⟨h80, hok⟩ := digL_ok _ F G hp
  have cT := fun z => Text_yes X nX hnn z
  have hS : (⟨(textG X).toArray⟩ : ByteArray).data.toList = textG X := List.toList_toArray
  have hz : (⟨(textG X).toArray⟩ : ByteArray).size = (textG X).length := by show (textG X).toArray.size = _; simp
  have cI := fun z => isPlain_any (⟨(textG X).toArray⟩ : ByteArray) (by rw [hz]; unfold maxLen; omega) z
  rw [hS, hpl] at cI
  have cV := fun z => Value_ok (⟨(textG X).toArray⟩ : ByteArray) (digL F G) h80 hok (read_plain _ F G hl81 hp) z
  rw [hv, nofV, nofE, nX, if_pos rfl, if_pos rfl] at cV
  have cQ := fun z => Plain_ok (⟨(textG X).toArray⟩ : ByteArray) X hX cV z
  have hbyte : ∀ (j : Nat) (h : j < (⟨(textG X).toArray⟩ : ByteArray).size), (⟨(textG X).toArray⟩ : ByteArray)[j] = (textG X)[j]?.getD 0 := fun j h => by
    rw [← at_u8 _ j h, hS]
  have h46 : ∀ (j : Nat) (h : j < (⟨(textG X).toArray⟩ : ByteArray).size), j < n → (((⟨(textG X).toArray⟩ : ByteArray)[j].toNat : Int) != 46) = true := fun j h hj => by
    rw [bne_46, hbyte j h, decide_eq_false (hdig j hj)]; rfl
  have h46e : ∀ (h : n < (⟨(textG X).toArray⟩ : ByteArray).size), (((⟨(textG X).toArray⟩ : ByteArray)[n].toNat : Int) != 46) = false := fun h => by
    rw [bne_46, hbyte n h, decide_eq_true (hdot (by rw [← hz]; exact h))]; rfl
  have hS0 : 0 < (⟨(textG X).toArray⟩ : ByteArray).size := by omega
  have h48 : (((⟨(textG X).toArray⟩ : ByteArray)[0].toNat : Int) == 48) = decide ((textG X)[0]?.getD 0 = 48) := by
    have := u8_eq (⟨(textG X).toArray⟩ : ByteArray)[0] 48
    rw [show ((48 : UInt8).toNat : Int) = 48 from rfl] at this
    rw [this, hbyte 0 hS0]
  have hnS : n ≤ (⟨(textG X).toArray⟩ : ByteArray).size := by omega
  have hS81 : (⟨(textG X).toArray⟩ : ByteArray).size ≤ 81 := by omega
  have m0 : ∀ z, Calls Tryd.prog 11 #[.agg (gv X), .agg #[.int .i64 1, .int .i64 0]] z fun e w' => e = .returned (.agg (gv (minusG X (1, 0)))) ∧ Keeps z w' := fun z => refMinus_v X (1, 0) (sm2_mono hX (by decide)) (by unfold sm2 sm; simp) z
  have g0 := fun z => refSign_v (minusG X (1, 0)) (by unfold sm2 sm minusG at *; simp only; omega) z
  have pA := fun z => refPower_c ((n : Int) - 1) (by omega) (by omega) z
  have pB := fun z => refPower_c (n : Int) (by omega) (by omega) z
  have ps1 := pw_sm ((n : Int) - 1) (by omega) (by omega)
  have ps2 := pw_sm (n : Int) (by omega) (by omega)
  have m1 := fun z => refMinus_v X (pw ((n : Int) - 1)) (sm2_mono hX (by decide)) ⟨sm_mono ps1.1 (by decide), sm_mono ps1.2 (by decide)⟩ z
  have m2 := fun z => refMinus_v (pw (n : Int)) X ⟨sm_mono ps2.1 (by decide), sm_mono ps2.2 (by decide)⟩ (sm2_mono hX (by decide)) z
  have g1 := fun z => refSign_v (minusG X (pw ((n : Int) - 1))) (by unfold sm2 sm minusG at *; simp only; omega) z
  have g2 := fun z => refSign_v (minusG (pw (n : Int)) X) (by unfold sm2 sm minusG at *; simp only; omega) z
  have hz1 : (textG X)[0]?.getD 0 = 48 → decide (sgn (minusG X (1, 0)).1 (minusG X (1, 0)).2 < 0) = true := fun h => by
    have h1 := hzero h
    have h2 : ¬ nn (minusG X (1, 0)) := po_not h1 (by simp only [minusG]; omega) (by simp only [minusG]; omega)
    exact decide_eq_true (by unfold nn at h2; omega)
  have hz2 : (textG X)[0]?.getD 0 ≠ 48 → decide (0 ≤ sgn (minusG X (pw ((n : Int) - 1))).1 (minusG X (pw ((n : Int) - 1))).2) = true ∧ decide (0 < sgn (minusG (pw (n : Int)) X).1 (minusG (pw (n : Int)) X).2) = true := fun h =>
    ⟨decide_eq_true (hone h).1, decide_eq_true (hone h).2⟩
  have q1 : IntKind.i64.wrap ((n : Int) - 1) = (n : Int) - 1 := IntWalk.i64_in _ (by omega)
  generalize hc0 : (textG X)[0]?.getD 0 = c0 at *
  have Hh46 := Lib.hid h46
  have Hh46e := Lib.hid h46e
  have Hz1 := Lib.hid hz1
  have Hz2 := Lib.hid hz2
  clear hX hnn nX hp hv hFl hl81 hln hpl hdig hdot hzero hone h80 hok hS hz hbyte h46 h46e hz1 hz2 ps1 ps2 hc0
  generalize (⟨(textG X).toArray⟩ : ByteArray) = S at *
  generalize minusG X (1, 0) = e0 at *
  generalize minusG X (pw ((n : Int) - 1)) = e1 at *
  generalize minusG (pw (n : Int)) X = e2 at *
  generalize pw ((n : Int) - 1) = v1 at *
  generalize pw (n : Int) = v2 at *
  generalize sgn e0.1 e0.2 = t0 at *
  generalize sgn e1.1 e1.2 = t1 at *
  generalize sgn e2.1 e2.2 = t2 at *
  obtain ⟨W, hW⟩ : ∃ W, w.alloc (.cells #[.int .i64 x.1, .int .i64 x.2] 23) = W := ⟨_, rfl⟩
  have a0 : At W w.heap.size 23 (gv x) := by rw [← hW]; exact At.new w _ _
  have k0 : Keeps w W := by rw [← hW]; exact Keeps.alloc (Below.refl _ _) _
  have HW := Lib.hid hW
  clear hW
  go_enter Tryd.func7, Tryd.ntmps7
  go_upto_region 1 with fail
  rw [HW.out]
  clear HW
  go_upto_region 2 with (first
    | (refine load_row_w rfl 23 _ rfl _ rfl 23 _ _ _ a0 Tryd.underlying23 rfl (sizeV _) ?_)
    | (go_at_call 18
       (with_reducible refine (c1 _).mono ?_)
       rintro e w1 ⟨rfl, b1⟩
       have a1 := a0.later b1
       have k1 := Keeps.next k0 b1
       have a2 := a1.row (gv X)
       have k2 := below_row k1 (Nat.le_refl _) (gv X)
       clear c1 k0 a0)
    | (refine wpList_store_row rfl 23 _ _ rfl w.heap.size (gv X) rfl rfl 23 (gv x) a1 (sizeV _) rfl (oneV _) ?_))
  clear a1 k1 b1
  generalize w1.setRow w.heap.size (gv X) = W2 at *
  go_upto_region 3 with (first
    | (refine load_row_w rfl 23 _ rfl _ rfl 23 _ _ _ a2 Tryd.underlying23 rfl (sizeV _) ?_)
    | (go_at_call 16
       (with_reducible refine (cT _).mono ?_)
       rintro e w3 ⟨rfl, b3⟩
       have a3 := a2.later b3
       have k3 := Keeps.next k2 b3
       clear cT k2 a2))
  go_upto_region 5 with (go_at_call 17; refine (cI _).mono ?_; rintro e w4 ⟨rfl, rfl⟩)
  clear cI
  go_upto_region 6 with (first
    | (go_at_call 21
       (with_reducible refine (cV _).mono ?_)
       rintro e w5 ⟨rfl, b5⟩
       have t5 := At.new w5 23 (gv (0, 0))
       have c5 := t5.row (gv X)
       have dd := below_row (Keeps.alloc b5 (.cells (gv (0, 0)) 23)) b5.size (gv X)
       have a5 := a3.later dd
       have k5 := Keeps.next k3 dd
       clear dd a3
       clear cV)
    | (refine wpList_store_row rfl 23 _ _ rfl w5.heap.size (gv X) rfl rfl 23 (gv (0, 0)) t5 (sizeV _) rfl (oneV _) ?_))
  clear t5 b5 k3
  go_upto_region 7 with (first
    | (go_at_call 22
       (with_reducible refine (cQ _).mono ?_)
       rintro e w6 ⟨rfl, b6⟩
       have a6 := a5.later b6
       have c6 := c5.later b6
       have k6 := Keeps.next k5 b6
       clear cQ k5 a5 c5))
  obtain ⟨r1, r2, -, -⟩ := row_four a6
  obtain ⟨r3, r4, -, -⟩ := row_four c6
  go_upto_region 9 with fail
  clear r1 r2 r3 r4 c6
  go_wp2_with fail
  go_loop [9] (fun j => upN n S.size j) (fun j => S.size + 1 - (intOf j).toNat)
  case atStart => exact ⟨0, Nat.zero_le _, Nat.zero_le _, rfl⟩
  case round =>
    obtain ⟨j, hj, hjn, rfl⟩ := hrel
    by_cases hlt : j < n
    · have hjS : j < S.size := by omega
      have d1 := Hh46.out j hjS hlt
      have d2 : decide ((j : Int) < (S.size : Int)) = true := decide_eq_true (by omega)
      have q2 : IntKind.i64.wrap ((j : Int) + 1) = (j : Int) + 1 := IntWalk.i64_in _ (by omega)
      go_wp2_with fail
      exact ⟨⟨j + 1, by omega, by omega, by go_num⟩, by simp [intOf]; omega⟩
    · obtain rfl : j = n := by omega
      by_cases hjS : j < S.size
      · have d1 := Hh46e.out hjS
        have d2 : decide ((j : Int) < (S.size : Int)) = true := decide_eq_true (by omega)
        clear hlt hj hjn
        go_upto_region 12 with fail
        clear d2 Hh46 Hh46e
        by_cases h0 : c0 = 48
        · rw [decide_eq_true h0] at h48
          have d3 := Hz1.out h0
          clear h0 Hz1 Hz2
          go_wp2_with (first
            | (refine load_row_w rfl 23 _ rfl _ rfl 23 _ _ _ a6 Tryd.underlying23 rfl (sizeV _) ?_)
            | (go_at_call 11
               (with_reducible refine (m0 _).mono ?_)
               rintro e w7 ⟨rfl, b7⟩
               have k7 := Keeps.next k6 b7
               clear m0 k6 )
            | (go_at_call 10
               (with_reducible refine (g0 _).mono ?_)
               rintro e w8 ⟨rfl, b8⟩
               have k8 := Keeps.next k7 b8
               clear g0 k7 )
            | (go_at_call 12
               (with_reducible refine (aw _).mono ?_)
               rintro e w9 ⟨rfl, b9⟩
               have k9 := Keeps.next k8 b9
               clear aw k8 ))
          go_ret
          exact ⟨rfl, k9⟩
        · rw [decide_eq_false h0] at h48
          obtain ⟨d3, d4⟩ := Hz2.out h0
          clear h0 Hz1 Hz2
          go_upto_region 14 with fail
          clear h48
          refine region_any_inv (G := Unit) (f := ?f1) (fun _ => [.agg (gv X), .int .i64 j, .int .i64 ((j : Int) - 1), .agg (gv v1), .agg (gv e1), .int .i64 t1, .bool true, .bool true, .int .i64 j, .agg (gv v2), .agg (gv X), .agg (gv e2), .int .i64 t2, .bool true, .bool true, .bool true, .bool true, .bool true, .bool true])
            (fun _ _ w' => Keeps w6 w') () (fun _ => ?hf1) (by kernel_rfl) (by kernel_rfl) (below_drewN (n := 1) (Below.refl _ _)) ?steps1 ?fin1
          case hf1 =>
            simp only [fill, List.toList_toArray, List.zip_cons_cons, List.zip_nil_left, List.zip_nil_right, List.foldl_cons, List.foldl_nil, Act.put, List.setIfInBounds_toArray, List.set_cons_succ, List.set_cons_zero]
            exact rfl
          case steps1 =>
            refine StepsU.cons rfl (fun g L w' hL hr hc hF => ?_) ?_
            · have k3 : Keeps w6 w' := hF
              clear hF
              obtain ⟨p1, p2, p3, p4⟩ := row_four (a6.later k3)
              clear aw pA pB m0 m1 m2 g0 g1 g2
              refine StepU.go rfl (fun K hK => ?_)
              go_simp
              exact hK () _ k3
            refine StepsU.cons rfl (fun g L w' hL hr hc hF => ?_) ?_
            · have k3 : Keeps w6 w' := hF
              clear hF
              clear aw pA pB m0 m1 m2 g0 g1 g2
              refine StepU.go rfl (fun K hK => ?_)
              go_simp
              exact hK () _ k3
            refine StepsU.cons rfl (fun g L w' hL hr hc hF => ?_) ?_
            · have k3 : Keeps w6 w' := hF
              clear hF
              clear aw pA pB m0 m1 m2 g0 g1 g2
              refine StepU.go rfl (fun K hK => ?_)
              go_simp
              exact hK () _ k3
            refine StepsU.cons rfl (fun g L w' hL hr hc hF => ?_) ?_
            · have k3 : Keeps w6 w' := hF
              clear hF
              have call9 := pA w'
              have C9 := Lib.hid call9
              clear call9
              clear aw pA pB m0 m1 m2 g0 g1 g2
              refine StepU.go rfl (fun K hK => ?_)
              go_simp
              refine C9.out.mono ?_
              rintro e w2 ⟨rfl, b3⟩
              exact hK () _ (Keeps.next k3 b3)
            refine StepsU.cons rfl (fun g L w' hL hr hc hF => ?_) ?_
            · have k3 : Keeps w6 w' := hF
              clear hF
              have call9 := m1 w'
              have C9 := Lib.hid call9
              clear call9
              clear aw pA pB m0 m1 m2 g0 g1 g2
              refine StepU.go rfl (fun K hK => ?_)
              go_simp
              refine C9.out.mono ?_
              rintro e w2 ⟨rfl, b3⟩
              exact hK () _ (Keeps.next k3 b3)
            refine StepsU.cons rfl (fun g L w' hL hr hc hF => ?_) ?_
            · have k3 : Keeps w6 w' := hF
              clear hF
              have call9 := g1 w'
              have C9 := Lib.hid call9
              clear call9
              clear aw pA pB m0 m1 m2 g0 g1 g2
              refine StepU.go rfl (fun K hK => ?_)
              go_simp
              refine C9.out.mono ?_
              rintro e w2 ⟨rfl, b3⟩
              exact hK () _ (Keeps.next k3 b3)
            refine StepsU.cons rfl (fun g L w' hL hr hc hF => ?_) ?_
            · have k3 : Keeps w6 w' := hF
              clear hF
              clear aw pA pB m0 m1 m2 g0 g1 g2
              refine StepU.go rfl (fun K hK => ?_)
              go_simp
              exact hK () _ k3
            refine StepsU.cons rfl (fun g L w' hL hr hc hF => ?_) ?_
            · have k3 : Keeps w6 w' := hF
              clear hF
              clear aw pA pB m0 m1 m2 g0 g1 g2
              refine StepU.go rfl (fun K hK => ?_)
              go_simp
              exact hK () _ k3
            refine StepsU.cons rfl (fun g L w' hL hr hc hF => ?_) ?_
            · have k3 : Keeps w6 w' := hF
              clear hF
              clear aw pA pB m0 m1 m2 g0 g1 g2
              refine StepU.go rfl (fun K hK => ?_)
              go_simp
              exact hK () _ k3
            refine StepsU.cons rfl (fun g L w' hL hr hc hF => ?_) ?_
            · have k3 : Keeps w6 w' := hF
              clear hF
              have call9 := pB w'
              have C9 := Lib.hid call9
              clear call9
              clear aw pA pB m0 m1 m2 g0 g1 g2
              refine StepU.go rfl (fun K hK => ?_)
              go_simp
              refine C9.out.mono ?_
              rintro e w2 ⟨rfl, b3⟩
              exact hK () _ (Keeps.next k3 b3)
            refine StepsU.cons rfl (fun g L w' hL hr hc hF => ?_) ?_
            · have k3 : Keeps w6 w' := hF
              clear hF
              obtain ⟨p1, p2, p3, p4⟩ := row_four (a6.later k3)
              clear aw pA pB m0 m1 m2 g0 g1 g2
              refine StepU.go rfl (fun K hK => ?_)
              go_simp
              exact hK () _ k3
            refine StepsU.cons rfl (fun g L w' hL hr hc hF => ?_) ?_
            · have k3 : Keeps w6 w' := hF
              clear hF
              have call9 := m2 w'
              have C9 := Lib.hid call9
              clear call9
              clear aw pA pB m0 m1 m2 g0 g1 g2
              refine StepU.go rfl (fun K hK => ?_)
              go_simp
              refine C9.out.mono ?_
              rintro e w2 ⟨rfl, b3⟩
              exact hK () _ (Keeps.next k3 b3)
            refine StepsU.cons rfl (fun g L w' hL hr hc hF => ?_) ?_
            · have k3 : Keeps w6 w' := hF
              clear hF
              have call9 := g2 w'
              have C9 := Lib.hid call9
              clear call9
              clear aw pA pB m0 m1 m2 g0 g1 g2
              refine StepU.go rfl (fun K hK => ?_)
              go_simp
              refine C9.out.mono ?_
              rintro e w2 ⟨rfl, b3⟩
              exact hK () _ (Keeps.next k3 b3)
            refine StepsU.cons rfl (fun g L w' hL hr hc hF => ?_) ?_
            · have k3 : Keeps w6 w' := hF
              clear hF
              clear aw pA pB m0 m1 m2 g0 g1 g2
              refine StepU.go rfl (fun K hK => ?_)
              go_simp
              exact hK () _ k3
            refine StepsU.cons rfl (fun g L w' hL hr hc hF => ?_) ?_
            · have k3 : Keeps w6 w' := hF
              clear hF
              clear aw pA pB m0 m1 m2 g0 g1 g2
              refine StepU.go rfl (fun K hK => ?_)
              go_simp
              exact hK () _ k3
            refine StepsU.cons rfl (fun g L w' hL hr hc hF => ?_) ?_
            · have k3 : Keeps w6 w' := hF
              clear hF
              clear aw pA pB m0 m1 m2 g0 g1 g2
              refine StepU.go rfl (fun K hK => ?_)
              go_simp
              exact hK () _ k3
            refine StepsU.cons rfl (fun g L w' hL hr hc hF => ?_) ?_
            · have k3 : Keeps w6 w' := hF
              clear hF
              have call9 := aw w'
              have C9 := Lib.hid call9
              clear call9
              clear aw pA pB m0 m1 m2 g0 g1 g2
              refine StepU.go rfl (fun K hK => ?_)
              go_simp
              refine C9.out.mono ?_
              rintro e w2 ⟨rfl, b3⟩
              exact hK () _ (Keeps.next k3 b3)
            refine StepsU.cons rfl (fun g L w' hL hr hc hF => ?_) ?_
            · have k3 : Keeps w6 w' := hF
              clear hF
              clear aw pA pB m0 m1 m2 g0 g1 g2
              refine StepU.go rfl (fun K hK => ?_)
              go_simp
              exact hK () _ k3
            refine StepsU.cons rfl (fun g L w' hL hr hc hF => ?_) ?_
            · have k3 : Keeps w6 w' := hF
              clear hF
              clear aw pA pB m0 m1 m2 g0 g1 g2
              refine StepU.go rfl (fun K hK => ?_)
              go_simp
              exact hK () _ k3
            exact StepsU.nil (by simp)
          case fin1 =>
          intro g L w7 hall k7
          clear hall g L
          go_wp2_with fail
          go_ret
          exact ⟨rfl, Keeps.next k6 k7⟩
      · have d2 : decide ((j : Int) < (S.size : Int)) = false := decide_eq_false (by omega)
        clear hlt hj hjn
        go_upto_region 12 with fail
        clear d2 Hh46 Hh46e
        by_cases h0 : c0 = 48
        · rw [decide_eq_true h0] at h48
          have d3 := Hz1.out h0
          clear h0 Hz1 Hz2
          go_wp2_with (first
            | (refine load_row_w rfl 23 _ rfl _ rfl 23 _ _ _ a6 Tryd.underlying23 rfl (sizeV _) ?_)
            | (go_at_call 11
               (with_reducible refine (m0 _).mono ?_)
               rintro e w7 ⟨rfl, b7⟩
               have k7 := Keeps.next k6 b7
               clear m0 k6 )
            | (go_at_call 10
               (with_reducible refine (g0 _).mono ?_)
               rintro e w8 ⟨rfl, b8⟩
               have k8 := Keeps.next k7 b8
               clear g0 k7 )
            | (go_at_call 12
               (with_reducible refine (aw _).mono ?_)
               rintro e w9 ⟨rfl, b9⟩
               have k9 := Keeps.next k8 b9
               clear aw k8 ))
          go_ret
          exact ⟨rfl, k9⟩
        · rw [decide_eq_false h0] at h48
          obtain ⟨d3, d4⟩ := Hz2.out h0
          clear h0 Hz1 Hz2
          go_upto_region 14 with fail
          clear h48
          refine region_any_inv (G := Unit) (f := ?f2) (fun _ => [.agg (gv X), .int .i64 j, .int .i64 ((j : Int) - 1), .agg (gv v1), .agg (gv e1), .int .i64 t1, .bool true, .bool true, .int .i64 j, .agg (gv v2), .agg (gv X), .agg (gv e2), .int .i64 t2, .bool true, .bool true, .bool true, .bool true, .bool true, .bool true])
            (fun _ _ w' => Keeps w6 w') () (fun _ => ?hf2) (by kernel_rfl) (by kernel_rfl) (below_drewN (n := 1) (Below.refl _ _)) ?steps2 ?fin2
          case hf2 =>
            simp only [fill, List.toList_toArray, List.zip_cons_cons, List.zip_nil_left, List.zip_nil_right, List.foldl_cons, List.foldl_nil, Act.put, List.setIfInBounds_toArray, List.set_cons_succ, List.set_cons_zero]
            exact rfl
          case steps2 =>
            refine StepsU.cons rfl (fun g L w' hL hr hc hF => ?_) ?_
            · have k3 : Keeps w6 w' := hF
              clear hF
              obtain ⟨p1, p2, p3, p4⟩ := row_four (a6.later k3)
              clear aw pA pB m0 m1 m2 g0 g1 g2
              refine StepU.go rfl (fun K hK => ?_)
              go_simp
              exact hK () _ k3
            refine StepsU.cons rfl (fun g L w' hL hr hc hF => ?_) ?_
            · have k3 : Keeps w6 w' := hF
              clear hF
              clear aw pA pB m0 m1 m2 g0 g1 g2
              refine StepU.go rfl (fun K hK => ?_)
              go_simp
              exact hK () _ k3
            refine StepsU.cons rfl (fun g L w' hL hr hc hF => ?_) ?_
            · have k3 : Keeps w6 w' := hF
              clear hF
              clear aw pA pB m0 m1 m2 g0 g1 g2
              refine StepU.go rfl (fun K hK => ?_)
              go_simp
              exact hK () _ k3
            refine StepsU.cons rfl (fun g L w' hL hr hc hF => ?_) ?_
            · have k3 : Keeps w6 w' := hF
              clear hF
              have call9 := pA w'
              have C9 := Lib.hid call9
              clear call9
              clear aw pA pB m0 m1 m2 g0 g1 g2
              refine StepU.go rfl (fun K hK => ?_)
              go_simp
              refine C9.out.mono ?_
              rintro e w2 ⟨rfl, b3⟩
              exact hK () _ (Keeps.next k3 b3)
            refine StepsU.cons rfl (fun g L w' hL hr hc hF => ?_) ?_
            · have k3 : Keeps w6 w' := hF
              clear hF
              have call9 := m1 w'
              have C9 := Lib.hid call9
              clear call9
              clear aw pA pB m0 m1 m2 g0 g1 g2
              refine StepU.go rfl (fun K hK => ?_)
              go_simp
              refine C9.out.mono ?_
              rintro e w2 ⟨rfl, b3⟩
              exact hK () _ (Keeps.next k3 b3)
            refine StepsU.cons rfl (fun g L w' hL hr hc hF => ?_) ?_
            · have k3 : Keeps w6 w' := hF
              clear hF
              have call9 := g1 w'
              have C9 := Lib.hid call9
              clear call9
              clear aw pA pB m0 m1 m2 g0 g1 g2
              refine StepU.go rfl (fun K hK => ?_)
              go_simp
              refine C9.out.mono ?_
              rintro e w2 ⟨rfl, b3⟩
              exact hK () _ (Keeps.next k3 b3)
            refine StepsU.cons rfl (fun g L w' hL hr hc hF => ?_) ?_
            · have k3 : Keeps w6 w' := hF
              clear hF
              clear aw pA pB m0 m1 m2 g0 g1 g2
              refine StepU.go rfl (fun K hK => ?_)
              go_simp
              exact hK () _ k3
            refine StepsU.cons rfl (fun g L w' hL hr hc hF => ?_) ?_
            · have k3 : Keeps w6 w' := hF
              clear hF
              clear aw pA pB m0 m1 m2 g0 g1 g2
              refine StepU.go rfl (fun K hK => ?_)
              go_simp
              exact hK () _ k3
            refine StepsU.cons rfl (fun g L w' hL hr hc hF => ?_) ?_
            · have k3 : Keeps w6 w' := hF
              clear hF
              clear aw pA pB m0 m1 m2 g0 g1 g2
              refine StepU.go rfl (fun K hK => ?_)
              go_simp
              exact hK () _ k3
            refine StepsU.cons rfl (fun g L w' hL hr hc hF => ?_) ?_
            · have k3 : Keeps w6 w' := hF
              clear hF
              have call9 := pB w'
              have C9 := Lib.hid call9
              clear call9
              clear aw pA pB m0 m1 m2 g0 g1 g2
              refine StepU.go rfl (fun K hK => ?_)
              go_simp
              refine C9.out.mono ?_
              rintro e w2 ⟨rfl, b3⟩
              exact hK () _ (Keeps.next k3 b3)
            refine StepsU.cons rfl (fun g L w' hL hr hc hF => ?_) ?_
            · have k3 : Keeps w6 w' := hF
              clear hF
              obtain ⟨p1, p2, p3, p4⟩ := row_four (a6.later k3)
              clear aw pA pB m0 m1 m2 g0 g1 g2
              refine StepU.go rfl (fun K hK => ?_)
              go_simp
              exact hK () _ k3
            refine StepsU.cons rfl (fun g L w' hL hr hc hF => ?_) ?_
            · have k3 : Keeps w6 w' := hF
              clear hF
              have call9 := m2 w'
              have C9 := Lib.hid call9
              clear call9
              clear aw pA pB m0 m1 m2 g0 g1 g2
              refine StepU.go rfl (fun K hK => ?_)
              go_simp
              refine C9.out.mono ?_
              rintro e w2 ⟨rfl, b3⟩
              exact hK () _ (Keeps.next k3 b3)
            refine StepsU.cons rfl (fun g L w' hL hr hc hF => ?_) ?_
            · have k3 : Keeps w6 w' := hF
              clear hF
              have call9 := g2 w'
              have C9 := Lib.hid call9
              clear call9
              clear aw pA pB m0 m1 m2 g0 g1 g2
              refine StepU.go rfl (fun K hK => ?_)
              go_simp
              refine C9.out.mono ?_
              rintro e w2 ⟨rfl, b3⟩
              exact hK () _ (Keeps.next k3 b3)
            refine StepsU.cons rfl (fun g L w' hL hr hc hF => ?_) ?_
            · have k3 : Keeps w6 w' := hF
              clear hF
              clear aw pA pB m0 m1 m2 g0 g1 g2
              refine StepU.go rfl (fun K hK => ?_)
              go_simp
              exact hK () _ k3
            refine StepsU.cons rfl (fun g L w' hL hr hc hF => ?_) ?_
            · have k3 : Keeps w6 w' := hF
              clear hF
              clear aw pA pB m0 m1 m2 g0 g1 g2
              refine StepU.go rfl (fun K hK => ?_)
              go_simp
              exact hK () _ k3
            refine StepsU.cons rfl (fun g L w' hL hr hc hF => ?_) ?_
            · have k3 : Keeps w6 w' := hF
              clear hF
              clear aw pA pB m0 m1 m2 g0 g1 g2
              refine StepU.go rfl (fun K hK => ?_)
              go_simp
              exact hK () _ k3
            refine StepsU.cons rfl (fun g L w' hL hr hc hF => ?_) ?_
            · have k3 : Keeps w6 w' := hF
              clear hF
              have call9 := aw w'
              have C9 := Lib.hid call9
              clear call9
              clear aw pA pB m0 m1 m2 g0 g1 g2
              refine StepU.go rfl (fun K hK => ?_)
              go_simp
              refine C9.out.mono ?_
              rintro e w2 ⟨rfl, b3⟩
              exact hK () _ (Keeps.next k3 b3)
            refine StepsU.cons rfl (fun g L w' hL hr hc hF => ?_) ?_
            · have k3 : Keeps w6 w' := hF
              clear hF
              clear aw pA pB m0 m1 m2 g0 g1 g2
              refine StepU.go rfl (fun K hK => ?_)
              go_simp
              exact hK () _ k3
            refine StepsU.cons rfl (fun g L w' hL hr hc hF => ?_) ?_
            · have k3 : Keeps w6 w' := hF
              clear hF
              clear aw pA pB m0 m1 m2 g0 g1 g2
              refine StepU.go rfl (fun K hK => ?_)
              go_simp
              exact hK () _ k3
            exact StepsU.nil (by simp)
          case fin2 =>
          intro g L w7 hall k7
          clear hall g L
          go_wp2_with fail
          go_ret
          exact ⟨rfl, Keeps.next k6 k7⟩
end Go.Proofs.YtdhhnnbcmddcaaaDoor
