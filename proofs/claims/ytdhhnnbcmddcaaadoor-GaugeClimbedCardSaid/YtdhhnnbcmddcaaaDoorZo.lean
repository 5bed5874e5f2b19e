/- The law GaugeClimbed. -/
import Derived.Test.YtdhhnnbcmddcaaaDoorZn
import Derived.Test.YtdhhnnbcmddcaaaDoorZe
import Derived.Test.YtdhhnnbcmddcaaaDoorGq
import Derived.Test.YtdhhnnbcmddcaaaDoorGp
import Derived.Test.YtdhhnnbcmddcaaaDoorXc
import Derived.Test.YtdhhnnbcmddcaaaDoorUa
import Derived.Test.YtdhhnnbcmddcaaaDoorVd
namespace Go.Proofs.YtdhhnnbcmddcaaaDoor
open Go.RowKit
set_option linter.unusedVariables false
set_option linter.unusedSimpArgs false

theorem climb_facts (k : Int) (h0 : 0 ≤ k) (h1 : k ≤ 100000) : sm2 1000000 (rungG k) ∧ nn (rungG k) ∧ nn (minusG (1000000, 0) (rungG k)) ∧ blw (partsL (rungG k)) = k ∧ plB (textG (rungG k)) = true ∧ (∀ c ∈ textG (rungG k), c ≠ 46) ∧ (textG (rungG k)).length ≤ 81 := by
  have hp := rung_pos k h0 (by omega)
  have hs : sm2 1000000 (rungG k) := by unfold sm2 sm; omega
  have hn : nn (rungG k) := by unfold nn; rw [sgn_nn]; exact .inl ⟨by omega, by omega⟩
  have hm : nn (minusG (1000000, 0) (rungG k)) := by
    have e1 : nn (2 * 200000, -(rungG k).2) := nn_lin 200000 _ (by decide) (by omega) (by omega)
    have e2 := nn_int (600000 - (rungG k).1) (by omega)
    exact nn_sum e1 e2 (by simp only [minusG]; omega) (by simp only [minusG]; omega)
  have hb : blw (partsL (rungG k)) = k := by
    by_cases hk : k = 0
    · subst hk
      rw [rungG_zero]
      exact blw_zero _ (by decide)
    · have e1 := rung_asc 0 k (by omega) (by omega) (by omega)
      rw [rungG_zero] at e1
      have e2 : po (rungG k) := po_sum e1 nn_zero (by simp only [minusG]; omega) (by simp only [minusG]; omega)
      refine place_one (rungG k) _ _ (blw_place _ hs e2 hm) ⟨by omega, by omega, rung_asc (k - 1) k (by omega) (by omega) (by omega), ?_⟩
      unfold minusG nn
      simp only [Int.sub_self]
      exact nn_zero
  have hw := rung_whole k h0 (by omega) hs hn
  obtain ⟨n0, n1, sp, s1, s2, s3⟩ := span_of _ hs hn
  have e40 := s1 hw
  subst e40
  have ht : textG (rungG k) = dgs (rungG k) n0 40 := by rw [text_span _ n0 40 sp]; unfold txt; rw [if_pos (Nat.le_refl _)]
  refine ⟨hs, hn, hm, hb, by rw [text_span _ n0 40 sp]; exact plain_is _ hs hn n0 40 sp, fun c hc => ?_, by rw [ht, dgs_length]; omega⟩
  rw [ht] at hc
  rcases dgs_okD _ _ _ c hc with h | h <;> rw [h] <;> decide
/-- A counter below a bound. -/
def upTo (s : Nat) (j : Value) : Prop := ∃ n : Nat, n ≤ s ∧ j = .int .i64 n
theorem modC_c (x : Int) (w : World) : Calls Tryd.prog 14 #[.int .i64 x, .int .i64 99999] w fun e w' => e = .returned (.int .i64 (modN x 99999)) ∧ w = w' := mod_c x 99999 (by decide) (by decide) w
set_option maxHeartbeats 8000000 in
set_option maxRecDepth 100000 in
theorem law_climbed (k0 : Int) (w : World) (_ : (Lit.int IntKind.i64 k0).wf = true) :
    Calls Tryd.prog 4 #[.int .i64 k0] w fun e w' => e = .returned (.bool true) ∧ Keeps w w' := by
  have aw := fun z => awake_c z
  have cm := fun z => modC_c k0 z
  have hk := modN_in k0 99999 (by decide)
  generalize modN k0 99999 = k at *
  obtain ⟨f1, f2, f3, f4, f5, f6, f7⟩ := climb_facts k (by omega) (by omega)
  have nA := num_of f1
  have cA := fun z => Rung_yes k (by omega) (by omega) z
  have cB := fun z => Rung_yes (k + 1) (by omega) (by omega) z
  have cC := fun z => Rung_yes (k + 2) (by omega) (by omega) z
  have cL := fun z => Below_z (rungG k) nA f3 z
  rw [f4] at cL
  have cT := fun z => Text_yes (rungG k) nA f2 z
  have hS : (⟨(textG (rungG k)).toArray⟩ : ByteArray).data.toList = textG (rungG k) := List.toList_toArray
  have hz : (⟨(textG (rungG k)).toArray⟩ : ByteArray).size = (textG (rungG k)).length := by show (textG (rungG k)).toArray.size = _; simp
  have cP := fun z => isPlain_any (⟨(textG (rungG k)).toArray⟩ : ByteArray) (by rw [hz]; unfold maxLen; omega) z
  rw [hS, f5] at cP
  have h46 : ∀ (j : Nat) (h : j < (⟨(textG (rungG k)).toArray⟩ : ByteArray).size), (((⟨(textG (rungG k)).toArray⟩ : ByteArray)[j].toNat : Int) == 46) = false := fun j h => by
    have e1 := u8_eq (⟨(textG (rungG k)).toArray⟩ : ByteArray)[j] 46
    rw [show ((46 : UInt8).toNat : Int) = 46 from rfl] at e1
    rw [e1, decide_eq_false]
    refine f6 _ ?_
    show (textG (rungG k)).toArray[j] ∈ _
    simp
  have hsz : (⟨(textG (rungG k)).toArray⟩ : ByteArray).size ≤ 81 := by rw [hz]; exact f7
  have H46 := Lib.hid h46
  have gB := rung_pos (k + 1) (by omega) (by omega)
  have gC := rung_pos (k + 2) (by omega) (by omega)
  have sB : sm2 1000000 (rungG (k + 1)) := by unfold sm2 sm; omega
  have sC : sm2 1000000 (rungG (k + 2)) := by unfold sm2 sm; omega
  have m1 : ∀ z, Calls Tryd.prog 11 #[.agg (gv (rungG (k + 1))), .agg (gv (rungG k))] z fun e w' => e = .returned (.agg #[.int .i64 (minusG (rungG (k + 1)) (rungG k)).1, .int .i64 (minusG (rungG (k + 1)) (rungG k)).2]) ∧ Keeps z w' := fun z => refMinus_v _ _ (sm2_mono sB (by decide)) (sm2_mono f1 (by decide)) z
  have m2 : ∀ z, Calls Tryd.prog 11 #[.agg (gv (rungG (k + 2))), .agg (gv (rungG (k + 1)))] z fun e w' => e = .returned (.agg #[.int .i64 (minusG (rungG (k + 2)) (rungG (k + 1))).1, .int .i64 (minusG (rungG (k + 2)) (rungG (k + 1))).2]) ∧ Keeps z w' := fun z => refMinus_v _ _ (sm2_mono sC (by decide)) (sm2_mono sB (by decide)) z
  have hst := rung_steps k (by omega) (by omega)
  have hcs : (minusG (rungG (k + 1)) (rungG k) = (1, 0) ∧ (minusG (rungG (k + 2)) (rungG (k + 1)) = (1, 0) ∨ minusG (rungG (k + 2)) (rungG (k + 1)) = (-1, 1))) ∨ (minusG (rungG (k + 1)) (rungG k) = (-1, 1) ∧ minusG (rungG (k + 2)) (rungG (k + 1)) = (1, 0)) := by
    have h2 := rung_steps (k + 1) (by omega) (by omega)
    rw [show k + 1 + 1 = k + 2 by omega] at h2
    rcases hst.1 with h | h
    · exact .inl ⟨h, h2.1⟩
    · exact .inr ⟨h, hst.2 h⟩
  generalize minusG (rungG (k + 1)) (rungG k) = D at *
  generalize minusG (rungG (k + 2)) (rungG (k + 1)) = E at *
  have HCS := Lib.hid hcs
  have q1 : IntKind.i64.wrap (k + 1) = k + 1 := IntWalk.i64_in _ (by omega)
  have q2 : IntKind.i64.wrap (k + 2) = k + 2 := IntWalk.i64_in _ (by omega)
  clear hst hcs f1 f2 f3 f4 f5 f6 f7 hS hz h46 gB gC sB sC nA hk
  generalize (⟨(textG (rungG k)).toArray⟩ : ByteArray) = S at *
  generalize rungG (k + 2) = C at *
  generalize rungG (k + 1) = B at *
  generalize rungG k = A at *
  have k0 : Keeps w w := Below.refl _ _
  go_enter Tryd.func4, Tryd.ntmps4
  go_upto_region 2 with (go_at_call 14; refine (cm _).mono ?_; rintro e w0 ⟨rfl, rfl⟩)
  clear cm
  go_upto_region 3 with (first
    | (go_at_call 15
       (with_reducible refine (cA _).mono ?_)
       rintro e w1 ⟨rfl, b1⟩
       have A1 := At.new w1 23 (gv (0, 0))
       have Ar1 := A1.row (gv A)
       have dd1 := below_row (Keeps.alloc b1 (.cells (gv (0, 0)) 23)) b1.size (gv A)
       have k1 := Keeps.next k0 dd1
       clear dd1
       clear cA k0 )
    | (refine wpList_store_row rfl 23 _ _ rfl w1.heap.size (gv A) rfl rfl 23 (gv (0, 0)) A1 (sizeV _) rfl (oneV _) ?_))
  clear A1 b1
  go_upto_region 4 with (first
    | (go_at_call 15
       (with_reducible refine (cB _).mono ?_)
       rintro e w2 ⟨rfl, b2⟩
       have B2 := At.new w2 23 (gv (0, 0))
       have Br2 := B2.row (gv B)
       have dd2 := below_row (Keeps.alloc b2 (.cells (gv (0, 0)) 23)) b2.size (gv B)
       have Ar2 := Ar1.later dd2
       have k2 := Keeps.next k1 dd2
       clear dd2
       clear cB k1 Ar1)
    | (refine wpList_store_row rfl 23 _ _ rfl w2.heap.size (gv B) rfl rfl 23 (gv (0, 0)) B2 (sizeV _) rfl (oneV _) ?_))
  clear B2 b2
  go_upto_region 5 with (first
    | (go_at_call 15
       (with_reducible refine (cC _).mono ?_)
       rintro e w3 ⟨rfl, b3⟩
       have C3 := At.new w3 23 (gv (0, 0))
       have Cr3 := C3.row (gv C)
       have dd3 := below_row (Keeps.alloc b3 (.cells (gv (0, 0)) 23)) b3.size (gv C)
       have Ar3 := Ar2.later dd3
       have Br3 := Br2.later dd3
       have k3 := Keeps.next k2 dd3
       clear dd3
       clear cC k2 Ar2 Br2)
    | (refine wpList_store_row rfl 23 _ _ rfl w3.heap.size (gv C) rfl rfl 23 (gv (0, 0)) C3 (sizeV _) rfl (oneV _) ?_))
  clear C3 b3
  go_upto_region 6 with (first
    | (refine load_row_w rfl 23 _ rfl _ rfl 23 _ _ _ Ar3 Tryd.underlying23 rfl (sizeV _) ?_)
    | (go_at_call 8
       (with_reducible refine (cL _).mono ?_)
       rintro e w4 ⟨rfl, b4⟩
       have Ar4 := Ar3.later b4
       have Br4 := Br3.later b4
       have Cr4 := Cr3.later b4
       have k4 := Keeps.next k3 b4
       clear cL k3 Ar3 Br3 Cr3))
  go_upto_region 7 with (first
    | (refine load_row_w rfl 23 _ rfl _ rfl 23 _ _ _ Ar4 Tryd.underlying23 rfl (sizeV _) ?_)
    | (go_at_call 16
       (with_reducible refine (cT _).mono ?_)
       rintro e w5 ⟨rfl, b5⟩
       have Ar5 := Ar4.later b5
       have Br5 := Br4.later b5
       have Cr5 := Cr4.later b5
       have k5 := Keeps.next k4 b5
       clear cT k4 Ar4 Br4 Cr4))
  go_upto_region 9 with (go_at_call 17; refine (cP _).mono ?_; rintro e w6 ⟨rfl, rfl⟩)
  clear cP q1 q2
  go_wp2_with fail
  go_loop [13] (fun j => upTo S.size j) (fun j => S.size - (intOf j).toNat)
  case atStart => exact ⟨0, Nat.zero_le _, rfl⟩
  case round =>
    obtain ⟨n, hn, rfl⟩ := hrel
    by_cases hlt : n < S.size
    · have e1 := H46.out n hlt
      have q1 : IntKind.i64.wrap ((n : Int) + 1) = (n : Int) + 1 := IntWalk.i64_in _ (by omega)
      go_wp2_with fail
      exact ⟨⟨n + 1, by omega, by go_num⟩, by simp [intOf]; omega⟩
    · obtain rfl : n = S.size := by omega
      clear hlt hn H46
      have s5 := At.new w5 23 (gv (0, 0))
      have sr5 : At ((w5.alloc (.cells #[.int .i64 0, .int .i64 0] 23)).setRow w5.heap.size #[.int .i64 (-1), .int .i64 1]) w5.heap.size 23 (gv (-1, 1)) := s5.row (gv (-1, 1))
      have dd : Keeps w5 ((w5.alloc (.cells #[.int .i64 0, .int .i64 0] 23)).setRow w5.heap.size #[.int .i64 (-1), .int .i64 1]) := below_row (Keeps.alloc (Below.refl _ _) (.cells (gv (0, 0)) 23)) (Nat.le_refl w5.heap.size) (gv (-1, 1))
      have Ar6 := Ar5.later dd
      have Br6 := Br5.later dd
      have Cr6 := Cr5.later dd
      have k6 := Keeps.next k5 dd
      clear dd Ar5 Br5 Cr5 k5
      go_upto_region 15 with (refine wpList_store_row rfl 23 _ _ rfl w5.heap.size #[.int .i64 (-1), .int .i64 1] rfl rfl 23 (gv (0, 0)) s5 (sizeG _ _) rfl (oneG _ _) ?_)
      clear s5
      generalize ((w5.alloc (.cells #[.int .i64 0, .int .i64 0] 23)).setRow w5.heap.size #[.int .i64 (-1), .int .i64 1]) = W6 at *
      refine region_any_inv (G := Nat × Nat) (f := ?f) (fun g => [.agg (gv B), .agg (gv A), .agg #[.int .i64 D.1, .int .i64 D.2], .agg (gv C), .agg (gv B), .agg #[.int .i64 E.1, .int .i64 E.2], .pointer (some ⟨g.1, 0, none⟩), .pointer (some ⟨g.2, 0, none⟩), undef, undef])
        (fun g L w' => Keeps W6 w' ∧ (L 6 = true → W6.heap.size ≤ g.1 ∧ At w' g.1 23 (gv (if L 8 = true then D else (0, 0)))) ∧ (L 7 = true → W6.heap.size ≤ g.2 ∧ At w' g.2 23 (gv (if L 9 = true then E else (0, 0)))) ∧ (L 6 = true → L 7 = true → g.1 ≠ g.2)) (0, 0) (fun _ => ?hf) (by kernel_rfl) (by kernel_rfl) ⟨below_drewN (n := 1) (Below.refl _ _), fun h => (by cases h), fun h => (by cases h), fun h => (by cases h)⟩ ?steps ?fin
      case hf =>
        simp only [fill, List.toList_toArray, List.zip_cons_cons, List.zip_nil_left, List.zip_nil_right, List.foldl_cons, List.foldl_nil, Act.put, List.setIfInBounds_toArray, List.set_cons_succ, List.set_cons_zero]
        exact rfl
      case steps =>
        refine StepsU.cons rfl (fun g L w' hL hr hc hF => ?_) ?_
        · obtain ⟨k1, h6, h7, h67⟩ := hF
          have z0 : W6.heap.size ≤ W6.heap.size := Nat.le_refl _
          obtain ⟨p1, p2, p3, p4⟩ := row_four (Br6.later k1)
          clear aw m1 m2
          refine StepU.go rfl (fun K hK => ?_)
          go_simp
          exact hK g _ ⟨k1, h6, h7, h67⟩
        refine StepsU.cons rfl (fun g L w' hL hr hc hF => ?_) ?_
        · obtain ⟨k1, h6, h7, h67⟩ := hF
          have z0 : W6.heap.size ≤ W6.heap.size := Nat.le_refl _
          obtain ⟨p1, p2, p3, p4⟩ := row_four (Ar6.later k1)
          clear aw m1 m2
          refine StepU.go rfl (fun K hK => ?_)
          go_simp
          exact hK g _ ⟨k1, h6, h7, h67⟩
        refine StepsU.cons rfl (fun g L w' hL hr hc hF => ?_) ?_
        · obtain ⟨k1, h6, h7, h67⟩ := hF
          have z0 : W6.heap.size ≤ W6.heap.size := Nat.le_refl _
          have call9 := m1 w'
          have C9 := Lib.hid call9
          clear call9
          clear aw m1 m2
          refine StepU.go rfl (fun K hK => ?_)
          go_simp
          refine C9.out.mono ?_
          rintro e w2 ⟨rfl, b3⟩
          exact hK g _ ⟨Keeps.next k1 b3, fun h => ⟨(h6 h).1, (h6 h).2.later b3⟩, fun h => ⟨(h7 h).1, (h7 h).2.later b3⟩, h67⟩
        refine StepsU.cons rfl (fun g L w' hL hr hc hF => ?_) ?_
        · obtain ⟨k1, h6, h7, h67⟩ := hF
          have z0 : W6.heap.size ≤ W6.heap.size := Nat.le_refl _
          obtain ⟨p1, p2, p3, p4⟩ := row_four (Cr6.later k1)
          clear aw m1 m2
          refine StepU.go rfl (fun K hK => ?_)
          go_simp
          exact hK g _ ⟨k1, h6, h7, h67⟩
        refine StepsU.cons rfl (fun g L w' hL hr hc hF => ?_) ?_
        · obtain ⟨k1, h6, h7, h67⟩ := hF
          have z0 : W6.heap.size ≤ W6.heap.size := Nat.le_refl _
          obtain ⟨p1, p2, p3, p4⟩ := row_four (Br6.later k1)
          clear aw m1 m2
          refine StepU.go rfl (fun K hK => ?_)
          go_simp
          exact hK g _ ⟨k1, h6, h7, h67⟩
        refine StepsU.cons rfl (fun g L w' hL hr hc hF => ?_) ?_
        · obtain ⟨k1, h6, h7, h67⟩ := hF
          have z0 : W6.heap.size ≤ W6.heap.size := Nat.le_refl _
          have call9 := m2 w'
          have C9 := Lib.hid call9
          clear call9
          clear aw m1 m2
          refine StepU.go rfl (fun K hK => ?_)
          go_simp
          refine C9.out.mono ?_
          rintro e w2 ⟨rfl, b3⟩
          exact hK g _ ⟨Keeps.next k1 b3, fun h => ⟨(h6 h).1, (h6 h).2.later b3⟩, fun h => ⟨(h7 h).1, (h7 h).2.later b3⟩, h67⟩
        refine StepsU.cons rfl (fun g L w' hL hr hc hF => ?_) ?_
        · obtain ⟨k1, h6, h7, h67⟩ := hF
          have z0 : W6.heap.size ≤ W6.heap.size := Nat.le_refl _
          have e8 := hc.not 8 6 rfl rfl hL
          have E8 := Lib.hid e8
          clear e8
          clear aw m1 m2
          refine StepU.go rfl (fun K hK => ?_)
          go_simp
          refine hK (w'.heap.size, g.2) _ ⟨Keeps.alloc k1 _, fun _ => ⟨k1.size, ?_⟩, fun h => ⟨(h7 h).1, (h7 h).2.alloc _⟩, fun _ h => ?_⟩
          · rw [show add L 6 8 = L 8 from rfl, E8.out, if_neg (by simp)]
            exact At.new _ _ _
          · have := (h7 h).2.lt
            simp only
            omega
        refine StepsU.cons rfl (fun g L w' hL hr hc hF => ?_) ?_
        · obtain ⟨k1, h6, h7, h67⟩ := hF
          have z0 : W6.heap.size ≤ W6.heap.size := Nat.le_refl _
          have e9 := hc.not 9 7 rfl rfl hL
          have E9 := Lib.hid e9
          clear e9
          clear aw m1 m2
          refine StepU.go rfl (fun K hK => ?_)
          go_simp
          refine hK (g.1, w'.heap.size) _ ⟨Keeps.alloc k1 _, fun h => ⟨(h6 h).1, (h6 h).2.alloc _⟩, fun _ => ⟨k1.size, ?_⟩, fun h _ => ?_⟩
          · rw [show add L 7 9 = L 9 from rfl, E9.out, if_neg (by simp)]
            exact At.new _ _ _
          · have := (h6 h).2.lt
            simp only
            omega
        refine StepsU.cons rfl (fun g L w' hL hr hc hF => ?_) ?_
        · obtain ⟨k1, h6, h7, h67⟩ := hF
          have z0 : W6.heap.size ≤ W6.heap.size := Nat.le_refl _
          obtain ⟨z6, y6⟩ := h6 (hr 6 rfl)
          rw [hL, if_neg (by simp)] at y6
          obtain ⟨p1, p2, p3, p4⟩ := row_four y6
          clear aw m1 m2
          refine StepU.go rfl (fun K hK => ?_)
          go_simp
          refine hK g _ ⟨Keeps.set (Keeps.set k1 _ z6 _ _) _ z6 _ _, fun _ => ⟨z6, ?_⟩, fun h => ⟨(h7 h).1, ((h7 h).2.far (fun e => h67 (hr 6 rfl) h e.symm) _).far (fun e => h67 (hr 6 rfl) h e.symm) _⟩, h67⟩
          rw [if_pos (add_same L _)]
          exact (y6.set 0 _).set 1 _
        refine StepsU.cons rfl (fun g L w' hL hr hc hF => ?_) ?_
        · obtain ⟨k1, h6, h7, h67⟩ := hF
          have z0 : W6.heap.size ≤ W6.heap.size := Nat.le_refl _
          obtain ⟨z7, y7⟩ := h7 (hr 7 rfl)
          rw [hL, if_neg (by simp)] at y7
          obtain ⟨p1, p2, p3, p4⟩ := row_four y7
          clear aw m1 m2
          refine StepU.go rfl (fun K hK => ?_)
          go_simp
          refine hK g _ ⟨Keeps.set (Keeps.set k1 _ z7 _ _) _ z7 _ _, fun h => ⟨(h6 h).1, ((h6 h).2.far (fun e => h67 h (hr 7 rfl) e) _).far (fun e => h67 h (hr 7 rfl) e) _⟩, fun _ => ⟨z7, ?_⟩, h67⟩
          rw [if_pos (add_same L _)]
          exact (y7.set 0 _).set 1 _
        exact StepsU.nil (by simp)
      case fin =>
      intro g L w8 hall hF
      obtain ⟨k7, h6, h7, h67⟩ := hF
      obtain ⟨z6, y6⟩ := h6 (hall 6 (by simp))
      obtain ⟨z7, y7⟩ := h7 (hall 7 (by simp))
      rw [hall 8 (by simp), if_pos rfl] at y6
      rw [hall 9 (by simp), if_pos rfl] at y7
      have x6 := sr5.later k7
      have k8 := Keeps.next k6 k7
      clear hall h6 h7 h67 k7 k6 Ar6 Br6 Cr6 sr5 m1 m2 hsz
      rcases HCS.out with ⟨rfl, rfl | rfl⟩ | ⟨rfl, rfl⟩
      · clear HCS
        obtain ⟨p1, p2, -, -⟩ := row_four y6
        obtain ⟨p3, p4, -, -⟩ := row_four y7
        obtain ⟨p5, p6, -, -⟩ := row_four x6
        simp only at p1 p2 p3 p4 p5 p6
        clear y6 y7 x6 z6 z7
        go_wp2_with (first
          | (go_at_call 12
             (with_reducible refine (aw _).mono ?_)
             rintro e w9 ⟨rfl, b9⟩
             have k9 := Keeps.next k8 b9
             clear aw k8 ))
        go_ret
        exact ⟨rfl, k9⟩
      · clear HCS
        obtain ⟨p1, p2, -, -⟩ := row_four y6
        obtain ⟨p3, p4, -, -⟩ := row_four y7
        obtain ⟨p5, p6, -, -⟩ := row_four x6
        simp only at p1 p2 p3 p4 p5 p6
        clear y6 y7 x6 z6 z7
        go_wp2_with (first
          | (go_at_call 12
             (with_reducible refine (aw _).mono ?_)
             rintro e w9 ⟨rfl, b9⟩
             have k9 := Keeps.next k8 b9
             clear aw k8 ))
        go_ret
        exact ⟨rfl, k9⟩
      · clear HCS
        obtain ⟨p1, p2, -, -⟩ := row_four y6
        obtain ⟨p3, p4, -, -⟩ := row_four y7
        obtain ⟨p5, p6, -, -⟩ := row_four x6
        simp only at p1 p2 p3 p4 p5 p6
        clear y6 y7 x6 z6 z7
        go_wp2_with (first
          | (go_at_call 12
             (with_reducible refine (aw _).mono ?_)
             rintro e w9 ⟨rfl, b9⟩
             have k9 := Keeps.next k8 b9
             clear aw k8 ))
        go_ret
        exact ⟨rfl, k9⟩
end Go.Proofs.YtdhhnnbcmddcaaaDoor
