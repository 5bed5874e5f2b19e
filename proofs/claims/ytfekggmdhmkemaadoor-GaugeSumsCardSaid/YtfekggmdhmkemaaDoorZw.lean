/- The walk of Add and the law GaugeAdds. -/
import Derived.Test.YtfekggmdhmkemaaDoorZt
import Derived.Test.YtfekggmdhmkemaaDoorUa
namespace Go.Proofs.YtfekggmdhmkemaaDoor
open Go.RowKit
set_option linter.unusedVariables false
set_option linter.unusedSimpArgs false

set_option maxHeartbeats 4000000 in
set_option maxRecDepth 100000 in
theorem Add_first (S T : ByteArray) (r1 : (∀ z, Calls Tryd.prog 21 #[.string S] z fun e w' => e = .returned (.tuple #[.agg (dB (List.replicate 80 0)), .int .i64 4]) ∧ Keeps z w')) (w : World) :
    Calls Tryd.prog 16 #[.string S, .string T] w fun e w' => e = .returned (.tuple #[.string ⟨#[]⟩, .int .i64 4]) ∧ Keeps w w' := by
  have hz : Tryd.zeroCells44 = dB (List.replicate 80 0) := by kernel_rfl
  have Hz := Lib.hid hz
  clear hz
  have k0 : Keeps w w := Below.refl _ _
  have hd : (List.replicate 80 (0 : UInt8)).length = 80 := by simp
  have HD := Lib.hid hd
  clear hd
  obtain ⟨D, hD⟩ : ∃ D, List.replicate 80 (0 : UInt8) = D := ⟨_, rfl⟩
  rw [hD] at r1 HD
  clear hD
  go_enter Tryd.func16, Tryd.ntmps16
  go_wp2_with (first
    | (go_at_call 21
       (with_reducible refine (r1 _).mono ?_)
       rintro e w1 ⟨rfl, b1⟩
       have t1 : At (w1.alloc (.cells Tryd.zeroCells44 44)) w1.heap.size 44 (dB (List.replicate 80 0)) := by rw [← Hz.out]; exact At.new w1 _ _
       have g1 := t1.row (dB D)
       have dd1 := below_row (Keeps.alloc b1 (.cells Tryd.zeroCells44 44)) b1.size (dB D)
       have k1 := Keeps.next k0 dd1
       clear r1 dd1 b1 k0 )
    | (refine wpList_store_row rfl 44 _ _ rfl w1.heap.size (dB D) rfl rfl 44 _ t1 (sizeD _ HD.out) (by rw [dB_size, dB_size, HD.out]; simp) (oneD _) ?_))
  go_ret2
  exact ⟨rfl, k1⟩
set_option maxHeartbeats 4000000 in
set_option maxRecDepth 100000 in
theorem Add_second (S T : ByteArray) (D1 : List UInt8) (h1 : D1.length = 80) (r1 : (∀ z, Calls Tryd.prog 21 #[.string S] z fun e w' => e = .returned (.tuple #[.agg (dB D1), .int .i64 0]) ∧ Keeps z w')) (r2 : (∀ z, Calls Tryd.prog 21 #[.string T] z fun e w' => e = .returned (.tuple #[.agg (dB (List.replicate 80 0)), .int .i64 4]) ∧ Keeps z w')) (w : World) :
    Calls Tryd.prog 16 #[.string S, .string T] w fun e w' => e = .returned (.tuple #[.string ⟨#[]⟩, .int .i64 4]) ∧ Keeps w w' := by
  have hz : Tryd.zeroCells44 = dB (List.replicate 80 0) := by kernel_rfl
  have Hz := Lib.hid hz
  clear hz
  have k0 : Keeps w w := Below.refl _ _
  have HD1 := Lib.hid h1
  clear h1
  have hd : (List.replicate 80 (0 : UInt8)).length = 80 := by simp
  have HD := Lib.hid hd
  clear hd
  obtain ⟨D, hD⟩ : ∃ D, List.replicate 80 (0 : UInt8) = D := ⟨_, rfl⟩
  rw [hD] at r2 HD
  clear hD
  go_enter Tryd.func16, Tryd.ntmps16
  go_upto_region 4 with (first
    | (go_at_call 21
       (with_reducible refine (r1 _).mono ?_)
       rintro e w1 ⟨rfl, b1⟩
       have t1 : At (w1.alloc (.cells Tryd.zeroCells44 44)) w1.heap.size 44 (dB (List.replicate 80 0)) := by rw [← Hz.out]; exact At.new w1 _ _
       have g1 := t1.row (dB D1)
       have dd1 := below_row (Keeps.alloc b1 (.cells Tryd.zeroCells44 44)) b1.size (dB D1)
       have k1 := Keeps.next k0 dd1
       clear r1 dd1 b1 k0 )
    | (refine wpList_store_row rfl 44 _ _ rfl w1.heap.size (dB D1) rfl rfl 44 _ t1 (sizeD _ HD1.out) (by rw [dB_size, dB_size, HD1.out]; simp) (oneD _) ?_))
  clear t1
  go_wp2_with (first
    | (go_at_call 21
       (with_reducible refine (r2 _).mono ?_)
       rintro e w2 ⟨rfl, b2⟩
       have t2 : At (w2.alloc (.cells Tryd.zeroCells44 44)) w2.heap.size 44 (dB (List.replicate 80 0)) := by rw [← Hz.out]; exact At.new w2 _ _
       have g2 := t2.row (dB D)
       have dd2 := below_row (Keeps.alloc b2 (.cells Tryd.zeroCells44 44)) b2.size (dB D)
       have k2 := Keeps.next k1 dd2
       clear r2 dd2 b2 k1 )
    | (refine wpList_store_row rfl 44 _ _ rfl w2.heap.size (dB D) rfl rfl 44 _ t2 (sizeD _ HD.out) (by rw [dB_size, dB_size, HD.out]; simp) (oneD _) ?_))
  go_ret2
  exact ⟨rfl, k2⟩
set_option maxHeartbeats 4000000 in
set_option maxRecDepth 100000 in
theorem Add_ok (S T : ByteArray) (D1 D2 : List UInt8) (h1 : D1.length = 80) (h2 : D2.length = 80) (ok1 : ∀ c ∈ D1, okD c) (ok2 : ∀ c ∈ D2, okD c) (r1 : (∀ z, Calls Tryd.prog 21 #[.string S] z fun e w' => e = .returned (.tuple #[.agg (dB D1), .int .i64 0]) ∧ Keeps z w')) (r2 : (∀ z, Calls Tryd.prog 21 #[.string T] z fun e w' => e = .returned (.tuple #[.agg (dB D2), .int .i64 0]) ∧ Keeps z w')) (hn : numB (plusG (valG D1) (valG D2)).1 (plusG (valG D1) (valG D2)).2 = true) (w : World) :
    Calls Tryd.prog 16 #[.string S, .string T] w fun e w' => e = .returned (.tuple #[.string ⟨(textG (plusG (valG D1) (valG D2))).toArray⟩, .int .i64 0]) ∧ Keeps w w' := by
  have v1 := fun z => value_c D1 h1 ok1 z
  have v2 := fun z => value_c D2 h2 ok2 z
  have s1 := valJ_in D1 h1 ok1 80 (Nat.le_refl _)
  have s2 := valJ_in D2 h2 ok2 80 (Nat.le_refl _)
  have pl := fun z => plus_v (valG D1) (valG D2) (sm2_mono s1 (by decide)) (sm2_mono s2 (by decide)) z
  have nf := fun z => numberOrFull_c (plusG (valG D1) (valG D2)) z
  rw [nofV, nofE, hn] at nf
  have pt := fun z => plainText_c (plusG (valG D1) (valG D2)) (sm2_of hn) z
  rw [if_pos rfl, if_pos rfl] at nf
  clear s1 s2 ok1 ok2 hn
  have HD1 := Lib.hid h1
  have HD2 := Lib.hid h2
  clear h1 h2
  generalize (⟨(textG (plusG (valG D1) (valG D2))).toArray⟩ : ByteArray) = TT at *
  generalize plusG (valG D1) (valG D2) = sm at *
  generalize valG D1 = x1 at *
  generalize valG D2 = x2 at *
  have hz : Tryd.zeroCells44 = dB (List.replicate 80 0) := by kernel_rfl
  have Hz := Lib.hid hz
  clear hz
  have k0 : Keeps w w := Below.refl _ _
  have nf2 : ∀ z, Calls Tryd.prog 22 #[.agg (gv sm)] z fun e w' => e = .returned (.tuple #[.agg #[.int .i64 sm.1, .int .i64 sm.2], .int .i64 0]) ∧ Keeps z w' := nf
  clear nf
  go_enter Tryd.func16, Tryd.ntmps16
  go_upto_region 4 with (first
    | (go_at_call 21
       (with_reducible refine (r1 _).mono ?_)
       rintro e w1 ⟨rfl, b1⟩
       have t1 : At (w1.alloc (.cells Tryd.zeroCells44 44)) w1.heap.size 44 (dB (List.replicate 80 0)) := by rw [← Hz.out]; exact At.new w1 _ _
       have g1 := t1.row (dB D1)
       have dd1 := below_row (Keeps.alloc b1 (.cells Tryd.zeroCells44 44)) b1.size (dB D1)
       have k1 := Keeps.next k0 dd1
       clear r1 dd1 b1 k0 )
    | (refine wpList_store_row rfl 44 _ _ rfl w1.heap.size (dB D1) rfl rfl 44 _ t1 (sizeD _ HD1.out) (by rw [dB_size, dB_size, HD1.out]; simp) (oneD _) ?_))
  clear t1
  go_upto_region 7 with (first
    | (go_at_call 21
       (with_reducible refine (r2 _).mono ?_)
       rintro e w2 ⟨rfl, b2⟩
       have t2 : At (w2.alloc (.cells Tryd.zeroCells44 44)) w2.heap.size 44 (dB (List.replicate 80 0)) := by rw [← Hz.out]; exact At.new w2 _ _
       have g2 := t2.row (dB D2)
       have dd2 := below_row (Keeps.alloc b2 (.cells Tryd.zeroCells44 44)) b2.size (dB D2)
       have g1b := g1.later dd2
       have k2 := Keeps.next k1 dd2
       clear r2 dd2 b2 k1 g1)
    | (refine wpList_store_row rfl 44 _ _ rfl w2.heap.size (dB D2) rfl rfl 44 _ t2 (sizeD _ HD2.out) (by rw [dB_size, dB_size, HD2.out]; simp) (oneD _) ?_))
  clear t2
  generalize hb1 : w1.heap.size = b1 at *
  generalize hb2 : w2.heap.size = b2 at *
  generalize hW : (w2.alloc (.cells Tryd.zeroCells44 44)).setRow b2 (dB D2) = W at *
  clear hb1 hb2 hW
  refine region_any_inv (G := Nat) (f := ?f) (fun g => [.agg (dB D1), .agg (gv x1), .agg (dB D2), .agg (gv x2), .agg (gv sm), .tuple #[.agg #[.int .i64 sm.1, .int .i64 sm.2], .int .i64 0], .tuple #[.agg #[.int .i64 sm.1, .int .i64 sm.2], .int .i64 0], .agg #[.int .i64 sm.1, .int .i64 sm.2], .int .i64 0, .pointer (some ⟨g, 0, none⟩), undef, .int .i64 0])
    (fun g L w' => Keeps W w' ∧ (L 9 = true → W.heap.size ≤ g ∧ At w' g 24 (gv (if L 10 = true then sm else (0, 0))))) 0 (fun _ => ?hf) (by kernel_rfl) (by kernel_rfl) ⟨below_drewN (n := 1) (Below.refl _ _), fun h => (by cases h)⟩ ?steps ?fin
  case hf =>
    simp only [fill, List.toList_toArray, List.zip_cons_cons, List.zip_nil_left, List.zip_nil_right, List.foldl_cons, List.foldl_nil, Act.put, List.setIfInBounds_toArray, List.set_cons_succ, List.set_cons_zero]
    exact rfl
  case steps =>
    refine StepsU.cons rfl (fun g L w' hL hr hc hF => ?_) ?_
    · obtain ⟨k5, h9⟩ := hF
      refine StepU.go rfl (fun K hK => ?_)
      refine wp_load_row 44 _ rfl b1 rfl _ (dB D1) _ _ (g1b.later k5) Tryd.underlying44 rfl (sizeD _ HD1.out) ?_
      exact hK g _ ⟨k5, h9⟩
    refine StepsU.cons rfl (fun g L w' hL hr hc hF => ?_) ?_
    · obtain ⟨k5, h9⟩ := hF
      have call9 := v1 w'
      have C9 := Lib.hid call9
      clear call9
      clear v1 v2 pl nf2 pt
      refine StepU.go rfl (fun K hK => ?_)
      go_simp
      refine C9.out.mono ?_
      rintro e w4 ⟨rfl, b3⟩
      exact hK g _ ⟨Keeps.next k5 b3, fun h => ⟨(h9 h).1, (h9 h).2.later b3⟩⟩
    refine StepsU.cons rfl (fun g L w' hL hr hc hF => ?_) ?_
    · obtain ⟨k5, h9⟩ := hF
      refine StepU.go rfl (fun K hK => ?_)
      refine wp_load_row 44 _ rfl b2 rfl _ (dB D2) _ _ (g2.later k5) Tryd.underlying44 rfl (sizeD _ HD2.out) ?_
      exact hK g _ ⟨k5, h9⟩
    refine StepsU.cons rfl (fun g L w' hL hr hc hF => ?_) ?_
    · obtain ⟨k5, h9⟩ := hF
      have call9 := v2 w'
      have C9 := Lib.hid call9
      clear call9
      clear v1 v2 pl nf2 pt
      refine StepU.go rfl (fun K hK => ?_)
      go_simp
      refine C9.out.mono ?_
      rintro e w4 ⟨rfl, b3⟩
      exact hK g _ ⟨Keeps.next k5 b3, fun h => ⟨(h9 h).1, (h9 h).2.later b3⟩⟩
    refine StepsU.cons rfl (fun g L w' hL hr hc hF => ?_) ?_
    · obtain ⟨k5, h9⟩ := hF
      have call9 := pl w'
      have C9 := Lib.hid call9
      clear call9
      clear v1 v2 pl nf2 pt
      refine StepU.go rfl (fun K hK => ?_)
      go_simp
      refine C9.out.mono ?_
      rintro e w4 ⟨rfl, b3⟩
      exact hK g _ ⟨Keeps.next k5 b3, fun h => ⟨(h9 h).1, (h9 h).2.later b3⟩⟩
    refine StepsU.cons rfl (fun g L w' hL hr hc hF => ?_) ?_
    · obtain ⟨k5, h9⟩ := hF
      have call9 := nf2 w'
      have C9 := Lib.hid call9
      clear call9
      clear v1 v2 pl nf2 pt
      refine StepU.go rfl (fun K hK => ?_)
      go_simp
      refine C9.out.mono ?_
      rintro e w4 ⟨rfl, b3⟩
      exact hK g _ ⟨Keeps.next k5 b3, fun h => ⟨(h9 h).1, (h9 h).2.later b3⟩⟩
    refine StepsU.cons rfl (fun g L w' hL hr hc hF => ?_) ?_
    · obtain ⟨k5, h9⟩ := hF
      clear v1 v2 pl nf2 pt
      refine StepU.go rfl (fun K hK => ?_)
      go_simp
      exact hK g _ ⟨k5, h9⟩
    refine StepsU.cons rfl (fun g L w' hL hr hc hF => ?_) ?_
    · obtain ⟨k5, h9⟩ := hF
      clear v1 v2 pl nf2 pt
      refine StepU.go rfl (fun K hK => ?_)
      go_simp
      exact hK g _ ⟨k5, h9⟩
    refine StepsU.cons rfl (fun g L w' hL hr hc hF => ?_) ?_
    · obtain ⟨k5, h9⟩ := hF
      clear v1 v2 pl nf2 pt
      refine StepU.go rfl (fun K hK => ?_)
      go_simp
      exact hK g _ ⟨k5, h9⟩
    refine StepsU.cons rfl (fun g L w' hL hr hc hF => ?_) ?_
    · obtain ⟨k5, h9⟩ := hF
      have e9 := hc.not 10 9 rfl rfl hL
      have E9 := Lib.hid e9
      clear e9
      clear v1 v2 pl nf2 pt
      refine StepU.go rfl (fun K hK => ?_)
      go_simp
      refine hK w'.heap.size _ ⟨Keeps.alloc k5 _, fun _ => ⟨k5.size, ?_⟩⟩
      rw [show add L 9 10 = L 10 from rfl, E9.out, if_neg (by simp)]
      exact At.new _ _ _
    refine StepsU.cons rfl (fun g L w' hL hr hc hF => ?_) ?_
    · obtain ⟨k5, h9⟩ := hF
      obtain ⟨z9, y9⟩ := h9 (hr 9 rfl)
      rw [hL, if_neg (by simp)] at y9
      obtain ⟨p1, p2, p3, p4⟩ := row_four y9
      clear v1 v2 pl nf2 pt
      refine StepU.go rfl (fun K hK => ?_)
      go_simp
      refine hK g _ ⟨Keeps.set (Keeps.set k5 _ z9 _ _) _ z9 _ _, fun _ => ⟨z9, ?_⟩⟩
      rw [if_pos (add_same L _)]
      exact (y9.set 0 _).set 1 _
    refine StepsU.cons rfl (fun g L w' hL hr hc hF => ?_) ?_
    · obtain ⟨k5, h9⟩ := hF
      clear v1 v2 pl nf2 pt
      refine StepU.go rfl (fun K hK => ?_)
      go_simp
      exact hK g _ ⟨k5, h9⟩
    exact StepsU.nil (by simp)
  case fin =>
  intro g L w8 hall hF
  obtain ⟨k5, h9⟩ := hF
  obtain ⟨z9, y8⟩ := h9 (hall 9 (by simp))
  rw [hall 10 (by simp), if_pos rfl] at y8
  have k8 := Keeps.next k2 k5
  clear hall h9 k5 v1 v2 pl nf2 g1b g2
  go_wp2_with (first
    | (refine load_row_w rfl 24 _ rfl _ rfl 24 _ _ _ y8 Tryd.underlying24 rfl (sizeV _) ?_)
    | (go_at_call 24
       (with_reducible refine (pt _).mono ?_)
       rintro e w9 ⟨rfl, b9⟩
       have k9 := Keeps.next k8 b9
       clear pt k8 ))
  go_ret2
  exact ⟨rfl, k9⟩
set_option maxHeartbeats 4000000 in
set_option maxRecDepth 100000 in
theorem Add_full (S T : ByteArray) (D1 D2 : List UInt8) (h1 : D1.length = 80) (h2 : D2.length = 80) (ok1 : ∀ c ∈ D1, okD c) (ok2 : ∀ c ∈ D2, okD c) (r1 : (∀ z, Calls Tryd.prog 21 #[.string S] z fun e w' => e = .returned (.tuple #[.agg (dB D1), .int .i64 0]) ∧ Keeps z w')) (r2 : (∀ z, Calls Tryd.prog 21 #[.string T] z fun e w' => e = .returned (.tuple #[.agg (dB D2), .int .i64 0]) ∧ Keeps z w')) (hn : numB (plusG (valG D1) (valG D2)).1 (plusG (valG D1) (valG D2)).2 = false) (w : World) :
    Calls Tryd.prog 16 #[.string S, .string T] w fun e w' => e = .returned (.tuple #[.string ⟨#[]⟩, .int .i64 5]) ∧ Keeps w w' := by
  have v1 := fun z => value_c D1 h1 ok1 z
  have v2 := fun z => value_c D2 h2 ok2 z
  have s1 := valJ_in D1 h1 ok1 80 (Nat.le_refl _)
  have s2 := valJ_in D2 h2 ok2 80 (Nat.le_refl _)
  have pl := fun z => plus_v (valG D1) (valG D2) (sm2_mono s1 (by decide)) (sm2_mono s2 (by decide)) z
  have nf := fun z => numberOrFull_c (plusG (valG D1) (valG D2)) z
  rw [nofV, nofE, hn] at nf
  rw [if_neg (by simp), if_neg (by simp)] at nf
  clear s1 s2 ok1 ok2 hn
  have HD1 := Lib.hid h1
  have HD2 := Lib.hid h2
  clear h1 h2
  generalize plusG (valG D1) (valG D2) = sm at *
  generalize valG D1 = x1 at *
  generalize valG D2 = x2 at *
  have hz : Tryd.zeroCells44 = dB (List.replicate 80 0) := by kernel_rfl
  have Hz := Lib.hid hz
  clear hz
  have k0 : Keeps w w := Below.refl _ _
  have nf2 : ∀ z, Calls Tryd.prog 22 #[.agg (gv sm)] z fun e w' => e = .returned (.tuple #[.agg #[.int .i64 0, .int .i64 0], .int .i64 5]) ∧ Keeps z w' := nf
  clear nf
  go_enter Tryd.func16, Tryd.ntmps16
  go_upto_region 4 with (first
    | (go_at_call 21
       (with_reducible refine (r1 _).mono ?_)
       rintro e w1 ⟨rfl, b1⟩
       have t1 : At (w1.alloc (.cells Tryd.zeroCells44 44)) w1.heap.size 44 (dB (List.replicate 80 0)) := by rw [← Hz.out]; exact At.new w1 _ _
       have g1 := t1.row (dB D1)
       have dd1 := below_row (Keeps.alloc b1 (.cells Tryd.zeroCells44 44)) b1.size (dB D1)
       have k1 := Keeps.next k0 dd1
       clear r1 dd1 b1 k0 )
    | (refine wpList_store_row rfl 44 _ _ rfl w1.heap.size (dB D1) rfl rfl 44 _ t1 (sizeD _ HD1.out) (by rw [dB_size, dB_size, HD1.out]; simp) (oneD _) ?_))
  clear t1
  go_upto_region 7 with (first
    | (go_at_call 21
       (with_reducible refine (r2 _).mono ?_)
       rintro e w2 ⟨rfl, b2⟩
       have t2 : At (w2.alloc (.cells Tryd.zeroCells44 44)) w2.heap.size 44 (dB (List.replicate 80 0)) := by rw [← Hz.out]; exact At.new w2 _ _
       have g2 := t2.row (dB D2)
       have dd2 := below_row (Keeps.alloc b2 (.cells Tryd.zeroCells44 44)) b2.size (dB D2)
       have g1b := g1.later dd2
       have k2 := Keeps.next k1 dd2
       clear r2 dd2 b2 k1 g1)
    | (refine wpList_store_row rfl 44 _ _ rfl w2.heap.size (dB D2) rfl rfl 44 _ t2 (sizeD _ HD2.out) (by rw [dB_size, dB_size, HD2.out]; simp) (oneD _) ?_))
  clear t2
  generalize hb1 : w1.heap.size = b1 at *
  generalize hb2 : w2.heap.size = b2 at *
  generalize hW : (w2.alloc (.cells Tryd.zeroCells44 44)).setRow b2 (dB D2) = W at *
  clear hb1 hb2 hW
  refine region_any_inv (G := Nat) (f := ?f) (fun g => [.agg (dB D1), .agg (gv x1), .agg (dB D2), .agg (gv x2), .agg (gv sm), .tuple #[.agg #[.int .i64 0, .int .i64 0], .int .i64 5], .tuple #[.agg #[.int .i64 0, .int .i64 0], .int .i64 5], .agg #[.int .i64 0, .int .i64 0], .int .i64 5, .pointer (some ⟨g, 0, none⟩), undef, .int .i64 5])
    (fun g L w' => Keeps W w' ∧ (L 9 = true → W.heap.size ≤ g ∧ At w' g 24 (gv (if L 10 = true then (0, 0) else (0, 0))))) 0 (fun _ => ?hf) (by kernel_rfl) (by kernel_rfl) ⟨below_drewN (n := 1) (Below.refl _ _), fun h => (by cases h)⟩ ?steps ?fin
  case hf =>
    simp only [fill, List.toList_toArray, List.zip_cons_cons, List.zip_nil_left, List.zip_nil_right, List.foldl_cons, List.foldl_nil, Act.put, List.setIfInBounds_toArray, List.set_cons_succ, List.set_cons_zero]
    exact rfl
  case steps =>
    refine StepsU.cons rfl (fun g L w' hL hr hc hF => ?_) ?_
    · obtain ⟨k5, h9⟩ := hF
      refine StepU.go rfl (fun K hK => ?_)
      refine wp_load_row 44 _ rfl b1 rfl _ (dB D1) _ _ (g1b.later k5) Tryd.underlying44 rfl (sizeD _ HD1.out) ?_
      exact hK g _ ⟨k5, h9⟩
    refine StepsU.cons rfl (fun g L w' hL hr hc hF => ?_) ?_
    · obtain ⟨k5, h9⟩ := hF
      have call9 := v1 w'
      have C9 := Lib.hid call9
      clear call9
      clear v1 v2 pl nf2
      refine StepU.go rfl (fun K hK => ?_)
      go_simp
      refine C9.out.mono ?_
      rintro e w4 ⟨rfl, b3⟩
      exact hK g _ ⟨Keeps.next k5 b3, fun h => ⟨(h9 h).1, (h9 h).2.later b3⟩⟩
    refine StepsU.cons rfl (fun g L w' hL hr hc hF => ?_) ?_
    · obtain ⟨k5, h9⟩ := hF
      refine StepU.go rfl (fun K hK => ?_)
      refine wp_load_row 44 _ rfl b2 rfl _ (dB D2) _ _ (g2.later k5) Tryd.underlying44 rfl (sizeD _ HD2.out) ?_
      exact hK g _ ⟨k5, h9⟩
    refine StepsU.cons rfl (fun g L w' hL hr hc hF => ?_) ?_
    · obtain ⟨k5, h9⟩ := hF
      have call9 := v2 w'
      have C9 := Lib.hid call9
      clear call9
      clear v1 v2 pl nf2
      refine StepU.go rfl (fun K hK => ?_)
      go_simp
      refine C9.out.mono ?_
      rintro e w4 ⟨rfl, b3⟩
      exact hK g _ ⟨Keeps.next k5 b3, fun h => ⟨(h9 h).1, (h9 h).2.later b3⟩⟩
    refine StepsU.cons rfl (fun g L w' hL hr hc hF => ?_) ?_
    · obtain ⟨k5, h9⟩ := hF
      have call9 := pl w'
      have C9 := Lib.hid call9
      clear call9
      clear v1 v2 pl nf2
      refine StepU.go rfl (fun K hK => ?_)
      go_simp
      refine C9.out.mono ?_
      rintro e w4 ⟨rfl, b3⟩
      exact hK g _ ⟨Keeps.next k5 b3, fun h => ⟨(h9 h).1, (h9 h).2.later b3⟩⟩
    refine StepsU.cons rfl (fun g L w' hL hr hc hF => ?_) ?_
    · obtain ⟨k5, h9⟩ := hF
      have call9 := nf2 w'
      have C9 := Lib.hid call9
      clear call9
      clear v1 v2 pl nf2
      refine StepU.go rfl (fun K hK => ?_)
      go_simp
      refine C9.out.mono ?_
      rintro e w4 ⟨rfl, b3⟩
      exact hK g _ ⟨Keeps.next k5 b3, fun h => ⟨(h9 h).1, (h9 h).2.later b3⟩⟩
    refine StepsU.cons rfl (fun g L w' hL hr hc hF => ?_) ?_
    · obtain ⟨k5, h9⟩ := hF
      clear v1 v2 pl nf2
      refine StepU.go rfl (fun K hK => ?_)
      go_simp
      exact hK g _ ⟨k5, h9⟩
    refine StepsU.cons rfl (fun g L w' hL hr hc hF => ?_) ?_
    · obtain ⟨k5, h9⟩ := hF
      clear v1 v2 pl nf2
      refine StepU.go rfl (fun K hK => ?_)
      go_simp
      exact hK g _ ⟨k5, h9⟩
    refine StepsU.cons rfl (fun g L w' hL hr hc hF => ?_) ?_
    · obtain ⟨k5, h9⟩ := hF
      clear v1 v2 pl nf2
      refine StepU.go rfl (fun K hK => ?_)
      go_simp
      exact hK g _ ⟨k5, h9⟩
    refine StepsU.cons rfl (fun g L w' hL hr hc hF => ?_) ?_
    · obtain ⟨k5, h9⟩ := hF
      have e9 := hc.not 10 9 rfl rfl hL
      have E9 := Lib.hid e9
      clear e9
      clear v1 v2 pl nf2
      refine StepU.go rfl (fun K hK => ?_)
      go_simp
      refine hK w'.heap.size _ ⟨Keeps.alloc k5 _, fun _ => ⟨k5.size, ?_⟩⟩
      rw [show add L 9 10 = L 10 from rfl, E9.out, if_neg (by simp)]
      exact At.new _ _ _
    refine StepsU.cons rfl (fun g L w' hL hr hc hF => ?_) ?_
    · obtain ⟨k5, h9⟩ := hF
      obtain ⟨z9, y9⟩ := h9 (hr 9 rfl)
      rw [hL, if_neg (by simp)] at y9
      obtain ⟨p1, p2, p3, p4⟩ := row_four y9
      clear v1 v2 pl nf2
      refine StepU.go rfl (fun K hK => ?_)
      go_simp
      refine hK g _ ⟨Keeps.set (Keeps.set k5 _ z9 _ _) _ z9 _ _, fun _ => ⟨z9, ?_⟩⟩
      rw [if_pos (add_same L _)]
      exact (y9.set 0 _).set 1 _
    refine StepsU.cons rfl (fun g L w' hL hr hc hF => ?_) ?_
    · obtain ⟨k5, h9⟩ := hF
      clear v1 v2 pl nf2
      refine StepU.go rfl (fun K hK => ?_)
      go_simp
      exact hK g _ ⟨k5, h9⟩
    exact StepsU.nil (by simp)
  case fin =>
  intro g L w8 hall hF
  obtain ⟨k5, h9⟩ := hF
  obtain ⟨z9, y8⟩ := h9 (hall 9 (by simp))
  rw [hall 10 (by simp), if_pos rfl] at y8
  have k8 := Keeps.next k2 k5
  clear hall h9 k5 v1 v2 pl nf2 g1b g2
  go_wp2_with fail
  go_ret2
  exact ⟨rfl, k8⟩
set_option maxHeartbeats 4000000 in
set_option maxRecDepth 100000 in
theorem adds_a (s t : ByteArray) (hs : s.size ≤ maxLen) (ht : t.size ≤ maxLen) (hp : prs (brf s).data.toList = none) (w : World) :
    Calls Tryd.prog 4 #[.string s, .string t] w fun e w' => e = .returned (.bool true) ∧ Keeps w w' := by
  have aw := fun z => awake_c z
  have cb := fun z => brief_c s hs z
  have cc := fun z => brief_c t ht z
  have hS := brf_size s
  have hT := brf_size t
  generalize brf s = S at *
  generalize brf t = T at *
  have ct := fun z => isText_c S (Nat.le_trans hS (by unfold maxLen; decide)) z
  have cu := fun z => isText_c T (Nat.le_trans hT (by unfold maxLen; decide)) z
  have hpt := prs_point S.data.toList
  rw [hp] at hpt
  simp only at hpt
  rw [hpt, show decide (0 ≤ (-1 : Int)) = false by decide] at ct
  have ca := fun z => Add_first S T (text_no S hS hp) z
  clear hp hpt hS hT
  have k0 : Keeps w w := Below.refl _ _
  go_enter Tryd.func4, Tryd.ntmps4
  go_upto_region 2 with (first
    | (go_at_call 8
       (with_reducible refine (cb _).mono ?_)
       rintro e w1 ⟨rfl, b1⟩
       have k1 := Keeps.next k0 b1
       clear cb k0 )
    | (go_at_call 8
       (with_reducible refine (cc _).mono ?_)
       rintro e w2 ⟨rfl, b2⟩
       have k2 := Keeps.next k1 b2
       clear cc k1 ))
  go_upto_region 3 with (first
    | (go_at_call 16
       (with_reducible refine (ca _).mono ?_)
       rintro e w3 ⟨rfl, b3⟩
       have k3 := Keeps.next k2 b3
       clear ca k2 ))
  go_wp2_with (first
    | (go_at_call 11
       (with_reducible refine (ct _).mono ?_)
       rintro e w4 ⟨rfl, b4⟩
       have k4 := Keeps.next k3 b4
       clear ct k3 )
    | (go_at_call 12
       (with_reducible refine (aw _).mono ?_)
       rintro e w5 ⟨rfl, b5⟩
       have k5 := Keeps.next k4 b5
       clear aw k4 ))
  go_ret
  exact ⟨rfl, k5⟩
set_option maxHeartbeats 4000000 in
set_option maxRecDepth 100000 in
theorem adds_b (s t : ByteArray) (hs : s.size ≤ maxLen) (ht : t.size ≤ maxLen) (F G : List UInt8) (hp : prs (brf s).data.toList = some (F, G)) (hq : prs (brf t).data.toList = none) (w : World) :
    Calls Tryd.prog 4 #[.string s, .string t] w fun e w' => e = .returned (.bool true) ∧ Keeps w w' := by
  have aw := fun z => awake_c z
  have cb := fun z => brief_c s hs z
  have cc := fun z => brief_c t ht z
  have hS := brf_size s
  have hT := brf_size t
  generalize brf s = S at *
  generalize brf t = T at *
  have ct := fun z => isText_c S (Nat.le_trans hS (by unfold maxLen; decide)) z
  have cu := fun z => isText_c T (Nat.le_trans hT (by unfold maxLen; decide)) z
  have hpt := prs_point S.data.toList
  rw [hp] at hpt
  simp only at hpt
  rw [hpt, show decide (0 ≤ (F.length : Int)) = true by simp] at ct
  obtain ⟨h80, hok⟩ := dig_80 _ F G hp
  have hqt := prs_point T.data.toList
  rw [hq] at hqt
  simp only at hqt
  rw [hqt, show decide (0 ≤ (-1 : Int)) = false by decide] at cu
  have ca := fun z => Add_second S T (digL F G) h80 (text_yes S hS F G hp) (text_no T hT hq) z
  clear hp hq hpt hqt hS hT h80 hok
  have k0 : Keeps w w := Below.refl _ _
  go_enter Tryd.func4, Tryd.ntmps4
  go_upto_region 2 with (first
    | (go_at_call 8
       (with_reducible refine (cb _).mono ?_)
       rintro e w1 ⟨rfl, b1⟩
       have k1 := Keeps.next k0 b1
       clear cb k0 )
    | (go_at_call 8
       (with_reducible refine (cc _).mono ?_)
       rintro e w2 ⟨rfl, b2⟩
       have k2 := Keeps.next k1 b2
       clear cc k1 ))
  go_upto_region 3 with (first
    | (go_at_call 16
       (with_reducible refine (ca _).mono ?_)
       rintro e w3 ⟨rfl, b3⟩
       have k3 := Keeps.next k2 b3
       clear ca k2 ))
  go_wp2_with (first
    | (go_at_call 11
       (with_reducible refine (ct _).mono ?_)
       rintro e w4 ⟨rfl, b4⟩
       have k4 := Keeps.next k3 b4
       clear ct k3 )
    | (go_at_call 11
       (with_reducible refine (cu _).mono ?_)
       rintro e w5 ⟨rfl, b5⟩
       have k5 := Keeps.next k4 b5
       clear cu k4 )
    | (go_at_call 12
       (with_reducible refine (aw _).mono ?_)
       rintro e w6 ⟨rfl, b6⟩
       have k6 := Keeps.next k5 b6
       clear aw k5 ))
  go_ret
  exact ⟨rfl, k6⟩
set_option maxHeartbeats 4000000 in
set_option maxRecDepth 100000 in
theorem adds_full (s t : ByteArray) (hs : s.size ≤ maxLen) (ht : t.size ≤ maxLen) (F G F2 G2 : List UInt8) (hp : prs (brf s).data.toList = some (F, G)) (hq : prs (brf t).data.toList = some (F2, G2)) (hn : numB (plusG (valG (digL F G)) (valG (digL F2 G2))).1 (plusG (valG (digL F G)) (valG (digL F2 G2))).2 = false) (w : World) :
    Calls Tryd.prog 4 #[.string s, .string t] w fun e w' => e = .returned (.bool true) ∧ Keeps w w' := by
  have aw := fun z => awake_c z
  have cb := fun z => brief_c s hs z
  have cc := fun z => brief_c t ht z
  have hS := brf_size s
  have hT := brf_size t
  generalize brf s = S at *
  generalize brf t = T at *
  have ct := fun z => isText_c S (Nat.le_trans hS (by unfold maxLen; decide)) z
  have cu := fun z => isText_c T (Nat.le_trans hT (by unfold maxLen; decide)) z
  have hpt := prs_point S.data.toList
  rw [hp] at hpt
  simp only at hpt
  rw [hpt, show decide (0 ≤ (F.length : Int)) = true by simp] at ct
  obtain ⟨h80, hok⟩ := dig_80 _ F G hp
  have hqt := prs_point T.data.toList
  rw [hq] at hqt
  simp only at hqt
  rw [hqt, show decide (0 ≤ (F2.length : Int)) = true by simp] at cu
  obtain ⟨h81, hok1⟩ := dig_80 _ F2 G2 hq
  have n1 := val_nn _ F G hp
  have n2 := val_nn _ F2 G2 hq
  have cr := fun z => refValue_c S F G hp z
  have cs := fun z => refValue_c T F2 G2 hq z
  have s1 := valJ_in _ h80 hok 80 (Nat.le_refl _)
  have s2 := valJ_in _ h81 hok1 80 (Nat.le_refl _)
  have cp : ∀ z, Calls Tryd.prog 17 #[.agg (gv (valG (digL F G))), .agg (gv (valG (digL F2 G2)))] z fun e w' => e = .returned (.agg (gv (plusG (valG (digL F G)) (valG (digL F2 G2))))) ∧ Keeps z w' := fun z => refPlus_v (valG (digL F G)) (valG (digL F2 G2)) (sm2_mono s1 (by decide)) (sm2_mono s2 (by decide)) z
  have cn := fun z => refNumber_v (plusG (valG (digL F G)) (valG (digL F2 G2))) z
  rw [hn] at cn
  have ca := fun z => Add_full S T (digL F G) (digL F2 G2) h80 h81 hok hok1 (text_yes S hS F G hp) (text_yes T hT F2 G2 hq) hn z
  clear hp hq hpt hqt hS hT h80 hok h81 hok1 n1 n2 s1 s2 hn
  generalize plusG (valG (digL F G)) (valG (digL F2 G2)) = sm at *
  generalize valG (digL F G) = x1 at *
  generalize valG (digL F2 G2) = x2 at *
  have k0 : Keeps w w := Below.refl _ _
  go_enter Tryd.func4, Tryd.ntmps4
  go_upto_region 2 with (first
    | (go_at_call 8
       (with_reducible refine (cb _).mono ?_)
       rintro e w1 ⟨rfl, b1⟩
       have k1 := Keeps.next k0 b1
       clear cb k0 )
    | (go_at_call 8
       (with_reducible refine (cc _).mono ?_)
       rintro e w2 ⟨rfl, b2⟩
       have k2 := Keeps.next k1 b2
       clear cc k1 ))
  go_upto_region 3 with (first
    | (go_at_call 16
       (with_reducible refine (ca _).mono ?_)
       rintro e w3 ⟨rfl, b3⟩
       have k3 := Keeps.next k2 b3
       clear ca k2 ))
  go_upto_region 5 with (first
    | (go_at_call 11
       (with_reducible refine (ct _).mono ?_)
       rintro e w4 ⟨rfl, b4⟩
       have k4 := Keeps.next k3 b4
       clear ct k3 )
    | (go_at_call 11
       (with_reducible refine (cu _).mono ?_)
       rintro e w5 ⟨rfl, b5⟩
       have k5 := Keeps.next k4 b5
       clear cu k4 ))
  go_upto_region 6 with (first
    | (go_at_call 13
       (with_reducible refine (cr _).mono ?_)
       rintro e w6 ⟨rfl, b6⟩
       have k6 := Keeps.next k5 b6
       clear cr k5 )
    | (go_at_call 13
       (with_reducible refine (cs _).mono ?_)
       rintro e w7 ⟨rfl, b7⟩
       have k7 := Keeps.next k6 b7
       clear cs k6 )
    | (go_at_call 17
       (with_reducible refine (cp _).mono ?_)
       rintro e w8 ⟨rfl, b8⟩
       have t8 := At.new w8 24 (gv (0, 0))
       have a8 := t8.row (gv sm)
       have dd := below_row (Keeps.alloc b8 (.cells (gv (0, 0)) 24)) b8.size (gv sm)
       have k8 := Keeps.next k7 dd
       clear dd b8 k7
       clear cp)
    | (refine wpList_store_row rfl 24 _ _ rfl w8.heap.size (gv sm) rfl rfl 24 (gv (0, 0)) t8 (sizeV _) rfl (oneV _) ?_))
  clear t8
  go_wp2_with (first
    | (refine load_row_w rfl 24 _ rfl _ rfl 24 _ _ _ a8 Tryd.underlying24 rfl (sizeV _) ?_)
    | (go_at_call 14
       (with_reducible refine (cn _).mono ?_)
       rintro e w9 ⟨rfl, b9⟩
       have k9 := Keeps.next k8 b9
       clear cn k8 )
    | (go_at_call 12
       (with_reducible refine (aw _).mono ?_)
       rintro e w10 ⟨rfl, b10⟩
       have k10 := Keeps.next k9 b10
       clear aw k9 ))
  go_ret
  exact ⟨rfl, k10⟩
set_option maxHeartbeats 4000000 in
set_option maxRecDepth 100000 in
theorem adds_ok (s t : ByteArray) (hs : s.size ≤ maxLen) (ht : t.size ≤ maxLen) (F G F2 G2 : List UInt8) (hp : prs (brf s).data.toList = some (F, G)) (hq : prs (brf t).data.toList = some (F2, G2)) (hn : numB (plusG (valG (digL F G)) (valG (digL F2 G2))).1 (plusG (valG (digL F G)) (valG (digL F2 G2))).2 = true) (w : World) :
    Calls Tryd.prog 4 #[.string s, .string t] w fun e w' => e = .returned (.bool true) ∧ Keeps w w' := by
  have aw := fun z => awake_c z
  have cb := fun z => brief_c s hs z
  have cc := fun z => brief_c t ht z
  have hS := brf_size s
  have hT := brf_size t
  generalize brf s = S at *
  generalize brf t = T at *
  have ct := fun z => isText_c S (Nat.le_trans hS (by unfold maxLen; decide)) z
  have cu := fun z => isText_c T (Nat.le_trans hT (by unfold maxLen; decide)) z
  have hpt := prs_point S.data.toList
  rw [hp] at hpt
  simp only at hpt
  rw [hpt, show decide (0 ≤ (F.length : Int)) = true by simp] at ct
  obtain ⟨h80, hok⟩ := dig_80 _ F G hp
  have hqt := prs_point T.data.toList
  rw [hq] at hqt
  simp only at hqt
  rw [hqt, show decide (0 ≤ (F2.length : Int)) = true by simp] at cu
  obtain ⟨h81, hok1⟩ := dig_80 _ F2 G2 hq
  have n1 := val_nn _ F G hp
  have n2 := val_nn _ F2 G2 hq
  have cr := fun z => refValue_c S F G hp z
  have cs := fun z => refValue_c T F2 G2 hq z
  have s1 := valJ_in _ h80 hok 80 (Nat.le_refl _)
  have s2 := valJ_in _ h81 hok1 80 (Nat.le_refl _)
  have cp : ∀ z, Calls Tryd.prog 17 #[.agg (gv (valG (digL F G))), .agg (gv (valG (digL F2 G2)))] z fun e w' => e = .returned (.agg (gv (plusG (valG (digL F G)) (valG (digL F2 G2))))) ∧ Keeps z w' := fun z => refPlus_v (valG (digL F G)) (valG (digL F2 G2)) (sm2_mono s1 (by decide)) (sm2_mono s2 (by decide)) z
  have cn := fun z => refNumber_v (plusG (valG (digL F G)) (valG (digL F2 G2))) z
  rw [hn] at cn
  have ca := fun z => Add_ok S T (digL F G) (digL F2 G2) h80 h81 hok hok1 (text_yes S hS F G hp) (text_yes T hT F2 G2 hq) hn z
  have cx := fun z => refText_c (plusG (valG (digL F G)) (valG (digL F2 G2))) hn (nn_sum n1 n2 rfl rfl) z
  generalize (⟨(textG (plusG (valG (digL F G)) (valG (digL F2 G2)))).toArray⟩ : ByteArray) = TT at *
  clear hp hq hpt hqt hS hT h80 hok h81 hok1 n1 n2 s1 s2 hn
  generalize plusG (valG (digL F G)) (valG (digL F2 G2)) = sm at *
  generalize valG (digL F G) = x1 at *
  generalize valG (digL F2 G2) = x2 at *
  have k0 : Keeps w w := Below.refl _ _
  go_enter Tryd.func4, Tryd.ntmps4
  go_upto_region 2 with (first
    | (go_at_call 8
       (with_reducible refine (cb _).mono ?_)
       rintro e w1 ⟨rfl, b1⟩
       have k1 := Keeps.next k0 b1
       clear cb k0 )
    | (go_at_call 8
       (with_reducible refine (cc _).mono ?_)
       rintro e w2 ⟨rfl, b2⟩
       have k2 := Keeps.next k1 b2
       clear cc k1 ))
  go_upto_region 3 with (first
    | (go_at_call 16
       (with_reducible refine (ca _).mono ?_)
       rintro e w3 ⟨rfl, b3⟩
       have k3 := Keeps.next k2 b3
       clear ca k2 ))
  go_upto_region 5 with (first
    | (go_at_call 11
       (with_reducible refine (ct _).mono ?_)
       rintro e w4 ⟨rfl, b4⟩
       have k4 := Keeps.next k3 b4
       clear ct k3 )
    | (go_at_call 11
       (with_reducible refine (cu _).mono ?_)
       rintro e w5 ⟨rfl, b5⟩
       have k5 := Keeps.next k4 b5
       clear cu k4 ))
  go_upto_region 6 with (first
    | (go_at_call 13
       (with_reducible refine (cr _).mono ?_)
       rintro e w6 ⟨rfl, b6⟩
       have k6 := Keeps.next k5 b6
       clear cr k5 )
    | (go_at_call 13
       (with_reducible refine (cs _).mono ?_)
       rintro e w7 ⟨rfl, b7⟩
       have k7 := Keeps.next k6 b7
       clear cs k6 )
    | (go_at_call 17
       (with_reducible refine (cp _).mono ?_)
       rintro e w8 ⟨rfl, b8⟩
       have t8 := At.new w8 24 (gv (0, 0))
       have a8 := t8.row (gv sm)
       have dd := below_row (Keeps.alloc b8 (.cells (gv (0, 0)) 24)) b8.size (gv sm)
       have k8 := Keeps.next k7 dd
       clear dd b8 k7
       clear cp)
    | (refine wpList_store_row rfl 24 _ _ rfl w8.heap.size (gv sm) rfl rfl 24 (gv (0, 0)) t8 (sizeV _) rfl (oneV _) ?_))
  clear t8
  go_upto_region 7 with (first
    | (refine load_row_w rfl 24 _ rfl _ rfl 24 _ _ _ a8 Tryd.underlying24 rfl (sizeV _) ?_)
    | (go_at_call 14
       (with_reducible refine (cn _).mono ?_)
       rintro e w9 ⟨rfl, b9⟩
       have a9 := a8.later b9
       have k9 := Keeps.next k8 b9
       clear cn k8 a8))
  go_wp2_with (first
    | (refine load_row_w rfl 24 _ rfl _ rfl 24 _ _ _ a9 Tryd.underlying24 rfl (sizeV _) ?_)
    | (go_at_call 15
       (with_reducible refine (cx _).mono ?_)
       rintro e w10 ⟨rfl, b10⟩
       have k10 := Keeps.next k9 b10
       clear cx k9 )
    | (go_at_call 12
       (with_reducible refine (aw _).mono ?_)
       rintro e w11 ⟨rfl, b11⟩
       have k11 := Keeps.next k10 b11
       clear aw k10 ))
  go_ret
  exact ⟨rfl, k11⟩
theorem law_adds (s t : ByteArray) (w : World) (hs : s.size ≤ maxLen) (ht : t.size ≤ maxLen) :
    Calls Tryd.prog 4 #[.string s, .string t] w fun e w' => e = .returned (.bool true) ∧ Keeps w w' := by
  cases hp : prs (brf s).data.toList with
  | none => exact adds_a s t hs ht hp w
  | some q =>
    obtain ⟨F, G⟩ := q
    cases hq : prs (brf t).data.toList with
    | none => exact adds_b s t hs ht F G hp hq w
    | some q2 =>
      obtain ⟨F2, G2⟩ := q2
      cases hn : numB (plusG (valG (digL F G)) (valG (digL F2 G2))).1 (plusG (valG (digL F G)) (valG (digL F2 G2))).2
      · exact adds_full s t hs ht F G F2 G2 hp hq hn w
      · exact adds_ok s t hs ht F G F2 G2 hp hq hn w
end Go.Proofs.YtfekggmdhmkemaaDoor
