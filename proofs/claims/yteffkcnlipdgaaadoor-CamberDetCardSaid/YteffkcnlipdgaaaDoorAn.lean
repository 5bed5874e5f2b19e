/- The walk of Children. -/
import Derived.Test.YteffkcnlipdgaaaDoorAm
namespace Go.Proofs.YteffkcnlipdgaaaDoor
open Go.RowKit
set_option linter.unusedVariables false
set_option linter.unusedSimpArgs false

theorem idx0 (a b c d e f : Int) (W : World) : (Instr.index 62 (.agg #[.int .i64 a, .int .i64 b, .int .i64 c, .int .i64 d, .int .i64 e, .int .i64 f]) (.int .i64 0)).run Tryd.prog W = .ok (.agg #[.int .i64 a, .int .i64 b, .int .i64 c]) W := by
  kernel_rfl
theorem idx1 (a b c d e f : Int) (W : World) : (Instr.index 62 (.agg #[.int .i64 a, .int .i64 b, .int .i64 c, .int .i64 d, .int .i64 e, .int .i64 f]) (.int .i64 1)).run Tryd.prog W = .ok (.agg #[.int .i64 d, .int .i64 e, .int .i64 f]) W := by
  kernel_rfl
/-- The children so far. -/
def chK (L : List Ed) (c : Ed) : List Ed := if c.2.2 ≤ 1000000000 ∧ c ∉ L then L ++ [c] else L
def chl (e : Ed) : List Ed := chK (chK [] (leftT e)) (rightT e)
set_option maxHeartbeats 1000000 in
theorem Children_no (x y z : Int) (hb : trB x y z = false) (w : World) :
    Calls Tryd.prog 20 #[.agg #[.int .i64 x, .int .i64 y, .int .i64 z]] w fun e w' => e = .returned (.tuple #[.slice none 0 0, .int .i64 2]) ∧ Keeps w w' := by
  have hk : Keeps w (w.alloc (.cells #[.int .i64 x, .int .i64 y, .int .i64 z] 22)) := Keeps.alloc (Below.refl _ _) _
  have cN := newTriple_non x y z hb (w.alloc (.cells #[.int .i64 x, .int .i64 y, .int .i64 z] 22))
  have H := Lib.hid hb
  clear hb
  go_enter Tryd.func20, Tryd.ntmps20
  go_wp2_with (go_at_call 25; refine cN.mono ?_; rintro e w1 ⟨a, b, c, rfl, h1⟩)
  go_ret2
  exact ⟨rfl, Keeps.alloc (Keeps.next hk h1) _⟩
theorem ecs_snoc (L : List Ed) (c : Ed) : ecs (L ++ [c]) = ecs L ++ [.int .i64 c.1, .int .i64 c.2.1, .int .i64 c.2.2] := by simp [ecs]
theorem chK_len (L : List Ed) (c : Ed) : (chK L c).length ≤ L.length + 1 := by unfold chK; split <;> simp
set_option maxHeartbeats 4000000 in
set_option maxRecDepth 20000 in
theorem Children_yes (x y z : Int) (hb : trB x y z = true) (w : World) :
    Calls Tryd.prog 20 #[.agg #[.int .i64 x, .int .i64 y, .int .i64 z]] w fun e w' => ∃ v, e = .returned (.tuple #[v, .int .i64 0]) ∧ w'.ownsRow w.heap.size 22 3 v (chl (x, y, z)).length (ecs (chl (x, y, z))) ∧ Keeps w w' := by
  have hk : Keeps w (w.alloc (.cells #[.int .i64 x, .int .i64 y, .int .i64 z] 22)) := Keeps.alloc (Below.refl _ _) _
  have cN := newTriple_yes x y z hb (w.alloc (.cells #[.int .i64 x, .int .i64 y, .int .i64 z] 22))
  have hbd := ((trB_iff _ _ _).1 hb).bds
  have cL := fun W => left_c x y z hbd.1 hbd.2.1 hbd.2.2 W
  have cR := fun W => right_c x y z hbd.1 hbd.2.1 hbd.2.2 W
  obtain ⟨i0, hi, hz0, hz1, hz2⟩ := info_parts infoEd
  unfold chl
  rw [show leftT (x, y, z) = (y, z, 3 * y * z - x) from rfl, show rightT (x, y, z) = (x, z, 3 * x * z - y) from rfl]
  have H := Lib.hid hb
  clear hb hbd
  go_enter Tryd.func20, Tryd.ntmps20
  go_upto_region 5 with (go_at_call 25; refine cN.mono ?_; rintro e w1 ⟨rfl, h1⟩)
  have hZ := At.new w1 52 #[.int .i64 x, .int .i64 y, .int .i64 z]
  have hk4 : Keeps w (w1.alloc (.cells #[.int .i64 x, .int .i64 y, .int .i64 z] 52)) := Keeps.alloc (Keeps.next hk h1) _
  generalize w1.alloc (.cells #[.int .i64 x, .int .i64 y, .int .i64 z] 52) = Z at *
  refine region_any_inv (G := Unit) (f := ?f5) (fun _ => [.agg #[.int .i64 x, .int .i64 y, .int .i64 z], .agg #[.int .i64 y, .int .i64 z, .int .i64 (3 * y * z - x)], .agg #[.int .i64 x, .int .i64 y, .int .i64 z], .agg #[.int .i64 x, .int .i64 z, .int .i64 (3 * x * z - y)], .agg #[.int .i64 y, .int .i64 z, .int .i64 (3 * y * z - x), .int .i64 x, .int .i64 z, .int .i64 (3 * x * z - y)], .int .i64 0])
    (fun _ _ w' => Keeps Z w') () (fun _ => ?hf5) (by kernel_rfl) (by kernel_rfl) (below_drewN (n := 1) (Below.refl _ _)) ?steps5 ?fin5
  case hf5 =>
    simp only [fill, List.toList_toArray, List.zip_cons_cons, List.zip_nil_left, List.zip_nil_right, List.foldl_cons, List.foldl_nil, Act.put, List.setIfInBounds_toArray, List.set_cons_succ, List.set_cons_zero]
    exact rfl
  case steps5 =>
    refine StepsU.cons rfl (fun g L w' hL hr hc hF => ?_) ?_
    · have k3 : Keeps Z w' := hF
      clear hF
      have p1 := (row_six (hZ.later k3)).1
      have p2 := (row_six (hZ.later k3)).2.1
      have p3 := (row_six (hZ.later k3)).2.2.1
      clear cL cR
      refine StepU.go rfl (fun K hK => ?_)
      go_simp
      exact hK () _ k3
    refine StepsU.cons rfl (fun g L w' hL hr hc hF => ?_) ?_
    · have k3 : Keeps Z w' := hF
      clear hF
      have call9 := cL w'
      have C9 := Lib.hid call9
      clear call9
      clear cL cR
      refine StepU.go rfl (fun K hK => ?_)
      go_simp
      refine C9.out.mono ?_
      rintro e w2 ⟨rfl, b3⟩
      exact hK () _ (Keeps.next k3 b3)
    refine StepsU.cons rfl (fun g L w' hL hr hc hF => ?_) ?_
    · have k3 : Keeps Z w' := hF
      clear hF
      have p1 := (row_six (hZ.later k3)).1
      have p2 := (row_six (hZ.later k3)).2.1
      have p3 := (row_six (hZ.later k3)).2.2.1
      clear cL cR
      refine StepU.go rfl (fun K hK => ?_)
      go_simp
      exact hK () _ k3
    refine StepsU.cons rfl (fun g L w' hL hr hc hF => ?_) ?_
    · have k3 : Keeps Z w' := hF
      clear hF
      have call9 := cR w'
      have C9 := Lib.hid call9
      clear call9
      clear cL cR
      refine StepU.go rfl (fun K hK => ?_)
      go_simp
      refine C9.out.mono ?_
      rintro e w2 ⟨rfl, b3⟩
      exact hK () _ (Keeps.next k3 b3)
    refine StepsU.cons rfl (fun g L w' hL hr hc hF => ?_) ?_
    · have k3 : Keeps Z w' := hF
      clear hF
      clear cL cR
      refine StepU.go rfl (fun K hK => ?_)
      go_simp
      exact hK () _ k3
    refine StepsU.cons rfl (fun g L w' hL hr hc hF => ?_) ?_
    · have k3 : Keeps Z w' := hF
      clear hF
      clear cL cR
      refine StepU.go rfl (fun K hK => ?_)
      go_simp
      exact hK () _ k3
    exact StepsU.nil (by simp)
  case fin5 =>
  intro g L w5 hall k5
  clear hall
  have hk5 := Keeps.next hk4 k5
  clear hZ hk4 k5 hk cN h1 cL cR
  generalize hl1 : 3 * y * z - x = l3 at *
  generalize hr1 : 3 * x * z - y = r3 at *
  have Hl1 := Lib.hid hl1
  have Hr1 := Lib.hid hr1
  clear hl1 hr1
  go_wp2_with fail
  go_loopw [6, 21] (fun s6 s21 wr => ∃ k : Nat, k ≤ 2 ∧ s21 = .int .i64 k ∧ Keeps w wr ∧ (∀ L, L = (if k = 0 then [] else if k = 1 then chK [] (y, z, l3) else chK (chK [] (y, z, l3)) (x, z, r3)) → wr.ownsRow w.heap.size 22 3 s6 L.length (ecs L))) (fun _ s21 _ => 2 - (intOf s21).toNat)
  case atStart => exact ⟨0, by omega, rfl, hk5, fun L hL => by subst hL; exact World.ownsRow_nil _ _ _ _⟩
  case round =>
    obtain ⟨k, hk, rfl, hkr, hown⟩ := hrel
    have hk3 : k = 0 ∨ k = 1 ∨ k = 2 := by omega
    rcases hk3 with rfl | rfl | rfl
    · have hown1 := hown ([]) rfl
      clear hown
      generalize hL : ([] : List Ed) = L at *
      have hLl : L.length ≤ 2 := by rw [← hL]; simp
      have HL := Lib.hid hL
      clear hL
      have ix := idx0 y z l3 x z r3
      cases h9 : decide (l3 ≤ 1000000000)
      · have hch : chK L (y, z, l3) = L := by unfold chK; rw [if_neg (fun h => of_decide_eq_false h9 h.1)]
        have Hch := Lib.hid hch
        clear hch
        go_wp2_with fail
        go_roundw
        case rel => exact ⟨1, by omega, by go_num, Keeps.alloc hkr _, fun L' hL' => by
          subst hL'
          simp only [if_true, if_false, Nat.succ_ne_zero, reduceCtorEq, Nat.reduceEqDiff]
          rw [Hch.out]
          exact own_later hown1 (Keeps.alloc (Below.refl _ _) _)⟩
        case measure => simp [intOf]
      · have hrd := own_edges hown1 (by unfold maxLen; omega)
        obtain ⟨A, cc, hs, -, -⟩ := id hrd
        subst hs
        have cC := Contains_c A cc L (y, z, l3) _ (hrd.below (Keeps.alloc (Below.refl _ _) (.cells #[.int .i64 y, .int .i64 z, .int .i64 l3] 22)))
        by_cases hin : (y, z, l3) ∈ L
        · rw [decide_eq_true hin] at cC
          have hch : chK L (y, z, l3) = L := by unfold chK; rw [if_neg (fun h => h.2 hin)]
          have Hch := Lib.hid hch
          clear hch hin hrd
          go_wp2_with (go_at_call 37; refine cC.mono ?_; rintro e w7 ⟨rfl, h7⟩)
          go_roundw
          case rel => exact ⟨1, by omega, by go_num, Keeps.next (Keeps.alloc hkr _) h7, fun L' hL' => by
            subst hL'
            simp only [if_true, if_false, Nat.succ_ne_zero, reduceCtorEq, Nat.reduceEqDiff]
            rw [Hch.out]
            exact own_later (own_later hown1 (Keeps.alloc (Below.refl _ _) _)) h7⟩
          case measure => simp [intOf]
        · rw [decide_eq_false hin] at cC
          have hch : chK L (y, z, l3) = L ++ [(y, z, l3)] := by unfold chK; rw [if_pos ⟨of_decide_eq_true h9, hin⟩]
          have Hch := Lib.hid hch
          clear hch hin hrd
          have hc8 : At (wr.alloc (.cells #[.int .i64 y, .int .i64 z, .int .i64 l3] 22)) wr.heap.size 22 #[.int .i64 y, .int .i64 z, .int .i64 l3] := At.new wr _ _
          have Hc8 := Lib.hid hc8
          clear hc8
          go_wp2_with (first
            | (go_at_call 37; refine cC.mono ?_; rintro e w7 ⟨rfl, h7⟩; have q7 := Hc8.out.later h7; have p1 := (row_six q7).1; have p2 := (row_six q7).2.1; have p3 := (row_six q7).2.2.1; clear q7)
            | (at_builtin; refine wpList_append_own _ rfl _ _ 41 rfl w.heap.size 22 i0 _ 3 24 Tryd.underlying41 hi hz0 hz1 hz2 rfl (by decide) _ L.length _ rfl (own_later (own_later (own_later hown1 (Keeps.alloc (Below.refl _ _) _)) h7) (Keeps.alloc (Below.refl _ _) _)) ⟨w7.heap.size, 0, none⟩ 1 1 [.int .i64 y, .int .i64 z, .int .i64 l3] rfl rfl (new_cells w7 22 [.int .i64 y, .int .i64 z, .int .i64 l3] w7.heap.size rfl) (fun u hu => by simp only [List.mem_cons, List.not_mem_nil, or_false] at hu; rcases hu with rfl | rfl | rfl <;> rfl) (by unfold maxLen; omega) (by omega) (by have a1 := hkr.size; have a2 := h7.size; simp only [World.size_alloc] at a2 ⊢; omega) ?_; intro v' w9 hown9 hgrow9 _))
          have k9 : Keeps w w9 := (Keeps.alloc (Keeps.next (Keeps.alloc hkr _) h7) _).grown hgrow9 (by have a1 := hkr.size; have a2 := h7.size; simp only [World.size_alloc] at a2 ⊢; omega) (fun r hr => own_base hown1 r hr)
          go_roundw
          case rel => exact ⟨1, by omega, by go_num, k9, fun L' hL' => by
            subst hL'
            simp only [if_true, if_false, Nat.succ_ne_zero, reduceCtorEq, Nat.reduceEqDiff]
            rw [Hch.out, ecs_snoc, List.length_append]
            exact hown9⟩
          case measure => simp [intOf]
    · have hown1 := hown (chK [] (y, z, l3)) rfl
      clear hown
      generalize hL : (chK [] (y, z, l3) : List Ed) = L at *
      have hLl : L.length ≤ 2 := by rw [← hL]; have := chK_len [] (y, z, l3); simp at this; omega
      have HL := Lib.hid hL
      clear hL
      have ix := idx1 y z l3 x z r3
      cases h9 : decide (r3 ≤ 1000000000)
      · have hch : chK L (x, z, r3) = L := by unfold chK; rw [if_neg (fun h => of_decide_eq_false h9 h.1)]
        have Hch := Lib.hid hch
        clear hch
        go_wp2_with fail
        go_roundw
        case rel => exact ⟨2, by omega, by go_num, Keeps.alloc hkr _, fun L' hL' => by
          subst hL'
          simp only [if_true, if_false, Nat.succ_ne_zero, reduceCtorEq, Nat.reduceEqDiff]
          rw [Hch.out]
          exact own_later hown1 (Keeps.alloc (Below.refl _ _) _)⟩
        case measure => simp [intOf]
      · have hrd := own_edges hown1 (by unfold maxLen; omega)
        obtain ⟨A, cc, hs, -, -⟩ := id hrd
        subst hs
        have cC := Contains_c A cc L (x, z, r3) _ (hrd.below (Keeps.alloc (Below.refl _ _) (.cells #[.int .i64 x, .int .i64 z, .int .i64 r3] 22)))
        by_cases hin : (x, z, r3) ∈ L
        · rw [decide_eq_true hin] at cC
          have hch : chK L (x, z, r3) = L := by unfold chK; rw [if_neg (fun h => h.2 hin)]
          have Hch := Lib.hid hch
          clear hch hin hrd
          go_wp2_with (go_at_call 37; refine cC.mono ?_; rintro e w7 ⟨rfl, h7⟩)
          go_roundw
          case rel => exact ⟨2, by omega, by go_num, Keeps.next (Keeps.alloc hkr _) h7, fun L' hL' => by
            subst hL'
            simp only [if_true, if_false, Nat.succ_ne_zero, reduceCtorEq, Nat.reduceEqDiff]
            rw [Hch.out]
            exact own_later (own_later hown1 (Keeps.alloc (Below.refl _ _) _)) h7⟩
          case measure => simp [intOf]
        · rw [decide_eq_false hin] at cC
          have hch : chK L (x, z, r3) = L ++ [(x, z, r3)] := by unfold chK; rw [if_pos ⟨of_decide_eq_true h9, hin⟩]
          have Hch := Lib.hid hch
          clear hch hin hrd
          have hc8 : At (wr.alloc (.cells #[.int .i64 x, .int .i64 z, .int .i64 r3] 22)) wr.heap.size 22 #[.int .i64 x, .int .i64 z, .int .i64 r3] := At.new wr _ _
          have Hc8 := Lib.hid hc8
          clear hc8
          go_wp2_with (first
            | (go_at_call 37; refine cC.mono ?_; rintro e w7 ⟨rfl, h7⟩; have q7 := Hc8.out.later h7; have p1 := (row_six q7).1; have p2 := (row_six q7).2.1; have p3 := (row_six q7).2.2.1; clear q7)
            | (at_builtin; refine wpList_append_own _ rfl _ _ 41 rfl w.heap.size 22 i0 _ 3 24 Tryd.underlying41 hi hz0 hz1 hz2 rfl (by decide) _ L.length _ rfl (own_later (own_later (own_later hown1 (Keeps.alloc (Below.refl _ _) _)) h7) (Keeps.alloc (Below.refl _ _) _)) ⟨w7.heap.size, 0, none⟩ 1 1 [.int .i64 x, .int .i64 z, .int .i64 r3] rfl rfl (new_cells w7 22 [.int .i64 x, .int .i64 z, .int .i64 r3] w7.heap.size rfl) (fun u hu => by simp only [List.mem_cons, List.not_mem_nil, or_false] at hu; rcases hu with rfl | rfl | rfl <;> rfl) (by unfold maxLen; omega) (by omega) (by have a1 := hkr.size; have a2 := h7.size; simp only [World.size_alloc] at a2 ⊢; omega) ?_; intro v' w9 hown9 hgrow9 _))
          have k9 : Keeps w w9 := (Keeps.alloc (Keeps.next (Keeps.alloc hkr _) h7) _).grown hgrow9 (by have a1 := hkr.size; have a2 := h7.size; simp only [World.size_alloc] at a2 ⊢; omega) (fun r hr => own_base hown1 r hr)
          go_roundw
          case rel => exact ⟨2, by omega, by go_num, k9, fun L' hL' => by
            subst hL'
            simp only [if_true, if_false, Nat.succ_ne_zero, reduceCtorEq, Nat.reduceEqDiff]
            rw [Hch.out, ecs_snoc, List.length_append]
            exact hown9⟩
          case measure => simp [intOf]
    · have hown1 := hown (chK (chK [] (y, z, l3)) (x, z, r3)) rfl
      clear hown
      go_wp2_with fail
      go_ret2
      exact ⟨_, rfl, by rw [Hl1.out, Hr1.out]; exact hown1, hkr⟩
end Go.Proofs.YteffkcnlipdgaaaDoor
