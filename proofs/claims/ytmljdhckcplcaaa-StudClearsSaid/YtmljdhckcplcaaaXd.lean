/- The law Clears. -/
import Derived.Test.YtmljdhckcplcaaaXb
import Derived.Test.YtmljdhckcplcaaaXc
import Derived.Test.YtmljdhckcplcaaaRc
import Derived.Test.YtmljdhckcplcaaaVf
import Derived.Test.YtmljdhckcplcaaaVo
import Derived.Test.YtmljdhckcplcaaaSl
import Derived.Test.YtmljdhckcplcaaaLi
import Derived.ChangeKeysEq
namespace Go.Proofs.Ytmljdhckcplcaaa
open Go.RowKit Go.Shelf
set_option linter.unusedVariables false
set_option linter.unusedSimpArgs false

theorem clearA_form (l : List Int) : ∃ a b c d : Nat, clearA l = ia a b c d := by
  unfold clearA
  split
  · exact ⟨_, _, _, _, rfl⟩
  · exact ⟨0, 0, 0, 0, rfl⟩
theorem clearA_no (l : List Int) (h : ordB l = false) : clearA l = ia 0 0 0 0 ∧ clearK l = false := by
  unfold clearA clearK
  rw [h]
  exact ⟨rfl, rfl⟩
theorem oneIa (a b c d : Nat) : (ia a b c d).all (·.oneCell') = true := by simp [ia, Value.oneCell']
set_option maxRecDepth 100000 in
theorem eq4_same (a b c d : Nat) (w : World) : (Op.equalIn 10000 24 (.agg (ia a b c d)) (.agg (ia a b c d))).run Try.prog w = .ok true w := by
  obtain ⟨i0, hi, -⟩ := info_parts infoI
  have h0 : ∀ n x : Nat, (Op.equalIn (n + 1) 3 (.int .i64 x) (.int .i64 x)).run Try.prog w = .ok true w := fun n x => by simp [Op.equalIn, go_sem]
  have h1 : ∀ x : Nat, (Op.equalIn 9999 3 (.int .i64 x) (.int .i64 x)).run Try.prog w = .ok true w := fun x => h0 9998 x
  clear h0
  have hp : Try.prog.cellsOf 3 = 1 := by kernel_rfl
  have q0 : (part 3 #[Value.int .i64 a, .int .i64 b, .int .i64 c, .int .i64 d] 0).run Try.prog w = .ok (.int .i64 a) w := by kernel_rfl
  have q1 : (part 3 #[Value.int .i64 a, .int .i64 b, .int .i64 c, .int .i64 d] 1).run Try.prog w = .ok (.int .i64 b) w := by kernel_rfl
  have q2 : (part 3 #[Value.int .i64 a, .int .i64 b, .int .i64 c, .int .i64 d] 2).run Try.prog w = .ok (.int .i64 c) w := by kernel_rfl
  have q3 : (part 3 #[Value.int .i64 a, .int .i64 b, .int .i64 c, .int .i64 d] 3).run Try.prog w = .ok (.int .i64 d) w := by kernel_rfl
  refine (run_equalIn_array (P := Try.prog) w 9999 (ia a b c d) (ia a b c d) Try.underlying24 hi).trans ?_
  rw [hp]
  generalize 9999 = n at *
  simp [ia, Op.eqItems, List.range_succ, Sem.run_bind, q0, q1, q2, q3, h1, Result.andThen]
set_option maxHeartbeats 4000000 in
set_option maxRecDepth 100000 in
theorem law_clears (v0 : Value) (l0 : List Int) (w : World) (hv : RdI w v0 l0) (hf : fits l0) (hcap : Cap v0) :
    Calls Try.prog 3 #[v0] w fun e w' => e = .returned (.bool true) ∧ Keeps w w' := by
  have hli := list_c v0 l0 w hv hcap
  generalize l0.take 17 = l at *
  have hro := fun x A c hx => rorder_c (.slice A l.length c) l x hx
  by_cases ho : ordB l = true
  · have hcl := fun x A c hx => clear_c A c l x hx
    have htr := fun x A c hx => triangle_yes A c l ho x hx
    have hrc := fun x A c hx => rclear_c A c l ho x hx
    obtain ⟨ho1, ho2, ho3, -⟩ := ordB_parts l ho
    have h16 : l.all (hasB 16) = true := List.all_eq_true.2 fun x hx => by
      have := (hasB_iff _ _).1 (List.all_eq_true.1 ho3 x hx)
      exact (hasB_iff _ _).2 ⟨this.1, by omega⟩
    have hrt := fun x A c hx => rtriangle_c A c l ho1 ho2 h16 x hx
    rw [ho] at hro hcl
    rw [if_pos rfl] at hcl
    obtain ⟨a1, a2, a3, a4, hA⟩ := clearA_form l
    rw [hA] at hcl hrc
    generalize clearK l = ck at *
    have hln := triL_len l
    generalize hT : triL l = T at *
    clear ho ho3 hv hf hcap h16 hA hT
    go_enter Try.func3, Try.ntmps3
    go_upto_region 3 with (first
      | (go_at_call 7; refine hli.mono ?_; rintro e w1 ⟨A, c, rfl, hl1, hb1⟩)
      | (go_at_call 8; refine (hcl _ _ _ hl1).mono ?_; rintro e w2 ⟨rfl, hb2⟩; have hl2 := RdI.below hl1 hb2; have hk2 := Keeps.next hb1 hb2)
      | (refine wpList_store_row rfl 24 _ _ rfl w2.heap.size (ia a1 a2 a3 a4) rfl rfl 24 (ia 0 0 0 0) (At.new w2 24 _) (sizeF _ _ _ _) rfl (oneIa _ _ _ _) ?_))
    obtain ⟨Y, hY⟩ : ∃ Y, (w2.alloc (.cells #[.int .i64 0, .int .i64 0, .int .i64 0, .int .i64 0] 24)).setRow w2.heap.size (ia a1 a2 a3 a4) = Y := ⟨_, rfl⟩
    have aX : At Y w2.heap.size 24 (ia a1 a2 a3 a4) := by rw [← hY]; exact (At.new w2 _ _).row _
    have k2Y : Keeps w2 Y := by rw [← hY]; exact below_row (Keeps.alloc (Below.refl _ _) _) (Nat.le_refl _) _
    have hlY := RdI.below hl2 k2Y
    have kY := Keeps.next hk2 k2Y
    rw [hY]
    clear hY
    clear hli hcl hl1 hl2
    generalize w2.heap.size = gx at *
    go_upto_region 7 with (first
      | (go_at_call 9; refine (htr _ _ _ hlY).mono ?_; rintro e w3 ⟨vt, rfl, ht3, hb3⟩; have hl3 := RdI.below hlY hb3; have hk3 := Keeps.next kY hb3; have aX3 := aX.later hb3)
      | (go_at_call 10; refine (hro _ _ _ hl3).mono ?_; rintro e w4 ⟨rfl, hb4⟩; have hl4 := RdI.below hl3 hb4; have hk4 := Keeps.next hk3 hb4; have aX4 := aX3.later hb4; have ht4 := RdT.below ht3 hb4)
      | (go_at_call 12; refine (hrc _ _ _ hl4).mono ?_; rintro e w5 ⟨rfl, hb5⟩; have hl5 := RdI.below hl4 hb5; have hk5 := Keeps.next hk4 hb5; have aX5 := aX4.later hb5; have ht5 := RdT.below ht4 hb5)
      | (refine wpList_store_row rfl 24 _ _ rfl w5.heap.size (ia a1 a2 a3 a4) rfl rfl 24 (ia 0 0 0 0) (At.new w5 24 _) (sizeF _ _ _ _) rfl (oneIa _ _ _ _) ?_))
    obtain ⟨Z, hZ⟩ : ∃ Z, (w5.alloc (.cells #[.int .i64 0, .int .i64 0, .int .i64 0, .int .i64 0] 24)).setRow w5.heap.size (ia a1 a2 a3 a4) = Z := ⟨_, rfl⟩
    have aY : At Z w5.heap.size 24 (ia a1 a2 a3 a4) := by rw [← hZ]; exact (At.new w5 _ _).row _
    have k5Z : Keeps w5 Z := by rw [← hZ]; exact below_row (Keeps.alloc (Below.refl _ _) _) (Nat.le_refl _) _
    have hlZ := RdI.below hl5 k5Z
    have kZ := Keeps.next hk5 k5Z
    have aXZ := aX5.later k5Z
    have htZ := RdT.below ht5 k5Z
    rw [hZ]
    clear hZ htr hro hrc hl3 hl4 hlY hl5 aX aX3 aX4 aX5 ht3 ht4 ht5 k2Y k5Z
    generalize w5.heap.size = gy at *
    go_upto_region 8 with (go_at_call 13; refine (hrt _ _ _ hlZ).mono ?_; rintro e w6 ⟨vw, rfl, hw6, hb6⟩)
    have hk6 := Keeps.next kZ hb6
    have aX6 := aXZ.later hb6
    have aY6 := aY.later hb6
    have ht6 := RdT.below htZ hb6
    clear htZ aXZ aY hrt hlZ kZ hb6
    obtain ⟨At1, ct1, rfl, hm1, hcs1⟩ := id ht6
    obtain ⟨At2, ct2, rfl, hm2, hcs2⟩ := id hw6
    have Hcs1 := Lib.hid hcs1
    have Hcs2 := Lib.hid hcs2
    have hTl : T.length ≤ 15 := by omega
    clear hcs1 hcs2 hm1 hm2 ht6 hw6
    have heq := eq4_same a1 a2 a3 a4
    go_wp2_with (first
      | (refine load_row_w rfl 24 _ rfl gx rfl 24 (ia a1 a2 a3 a4) _ _ aX6 Try.underlying24 rfl (sizeF _ _ _ _) ?_)
      | (refine load_row_w rfl 24 _ rfl gy rfl 24 (ia a1 a2 a3 a4) _ _ aY6 Try.underlying24 rfl (sizeF _ _ _ _) ?_))
    clear heq aX6 aY6
    go_loopw [12] (fun i wr => ∃ k : Nat, k ≤ l.length - 1 ∧ i = .int .i64 k ∧ Keeps w6 wr) (fun i _ => l.length - (intOf i).toNat)
    case atStart => exact ⟨0, Nat.zero_le _, rfl, Below.refl _ _⟩
    case round =>
      obtain ⟨k, hk, rfl, hb7⟩ := hrel
      by_cases hlt : k < l.length - 1
      · obtain ⟨bt, ot, vx, rfl, x1, lx, hx, x3⟩ := Hcs1.out k (by rw [hln]; exact hlt)
        obtain ⟨bw, ow, vy, rfl, y1, ly, hy, y3⟩ := Hcs2.out k (by rw [hln]; exact hlt)
        obtain rfl : lx = ly := by rw [hx] at hy; exact Option.some.inj hy
        have hkI : (k : Int) < ((l.length - 1 : Nat) : Int) := by omega
        clear hx hy
        go_upto_region 13 with fail
        refine region_any_inv (G := Unit) (f := ?f) (fun _ => [.slice (some ⟨bt, ot, none⟩) (l.length - 1) ct1, .int .i64 k, .pointer (some ⟨bt, ot + k, none⟩), vx, .slice (some ⟨bw, ow, none⟩) (l.length - 1) ct2, .int .i64 k, .pointer (some ⟨bw, ow + k, none⟩), vy, .bool true, .bool false])
          (fun _ L w' => Keeps w6 w') () (fun _ => ?hf) (by kernel_rfl) (by kernel_rfl) (keeps_dr9 hb7) ?steps ?fin
        case hf =>
          simp only [fill, List.toList_toArray, List.zip_cons_cons, List.zip_nil_left, List.zip_nil_right, List.foldl_cons, List.foldl_nil, Act.put, List.setIfInBounds_toArray, List.set_cons_succ, List.set_cons_zero]
          exact rfl
        case steps =>
          refine StepsU.cons rfl (fun G L w' hL hr hc hF => ?_) ?_
          · skip
            refine StepU.go rfl (fun K hK => ?_)
            go_simp
            exact hK () _ hF
          refine StepsU.cons rfl (fun G L w' hL hr hc hF => ?_) ?_
          · skip
            refine StepU.go rfl (fun K hK => ?_)
            go_simp
            exact hK () _ hF
          refine StepsU.cons rfl (fun G L w' hL hr hc hF => ?_) ?_
          · skip
            refine StepU.go rfl (fun K hK => ?_)
            go_simp
            exact hK () _ hF
          refine StepsU.cons rfl (fun G L w' hL hr hc hF => ?_) ?_
          · have c9 := cell_keep x1 hF
            refine StepU.go rfl (fun K hK => ?_)
            go_simp
            exact hK () _ hF
          refine StepsU.cons rfl (fun G L w' hL hr hc hF => ?_) ?_
          · skip
            refine StepU.go rfl (fun K hK => ?_)
            go_simp
            exact hK () _ hF
          refine StepsU.cons rfl (fun G L w' hL hr hc hF => ?_) ?_
          · skip
            refine StepU.go rfl (fun K hK => ?_)
            go_simp
            exact hK () _ hF
          refine StepsU.cons rfl (fun G L w' hL hr hc hF => ?_) ?_
          · skip
            refine StepU.go rfl (fun K hK => ?_)
            go_simp
            exact hK () _ hF
          refine StepsU.cons rfl (fun G L w' hL hr hc hF => ?_) ?_
          · have c9 := cell_keep y1 hF
            refine StepU.go rfl (fun K hK => ?_)
            go_simp
            exact hK () _ hF
          refine StepsU.cons rfl (fun G L w' hL hr hc hF => ?_) ?_
          · refine StepU.go rfl (fun K hK => ?_)
            go_simp
            refine (ints_c vx vy lx lx _ (x3.below hF) (y3.below hF)).mono ?_
            rintro e w6 ⟨rfl, m, rfl⟩
            rw [decide_eq_true rfl]
            exact hK () _ (below_drewN hF)
          refine StepsU.cons rfl (fun G L w' hL hr hc hF => ?_) ?_
          · refine StepU.go rfl (fun K hK => ?_)
            go_simp
            exact hK () _ hF
          exact StepsU.nil (by simp)
        case fin =>
        intro u L w8 hall hF
        go_wp2_with fail
        go_roundw
        case rel => exact ⟨k + 1, by omega, by go_num, hF⟩
        case measure => simp [intOf]; omega
      · obtain rfl : k = l.length - 1 := by omega
        go_wp2_with (go_at_call 11; refine (awake_c _).mono ?_; rintro e w9 ⟨rfl, hb9⟩)
        go_ret
        exact ⟨rfl, (hk6.next hb7).next hb9⟩
  · have ho' : ordB l = false := by simpa using ho
    have hcl := fun x A c hx => clear_c A c l x hx
    obtain ⟨hA, hK⟩ := clearA_no l ho'
    have htr := fun x A c hx => triangle_no A l.length c l ho' x hx
    rw [ho'] at hro hcl
    rw [hA, hK, if_neg (by simp)] at hcl
    have heq : ∀ w, (Op.equalIn 10000 24 (.agg (ia 0 0 0 0)) (.agg #[.int .i64 0, .int .i64 0, .int .i64 0, .int .i64 0])).run Try.prog w = .ok true w := eq4_same 0 0 0 0
    clear ho ho' hA hK hv hf hcap
    go_enter Try.func3, Try.ntmps3
    go_upto_region 3 with (first
      | (go_at_call 7; refine hli.mono ?_; rintro e w1 ⟨A, c, rfl, hl1, hb1⟩)
      | (go_at_call 8; refine (hcl _ _ _ hl1).mono ?_; rintro e w2 ⟨rfl, hb2⟩; have hl2 := RdI.below hl1 hb2; have hk2 := Keeps.next hb1 hb2)
      | (refine wpList_store_row rfl 24 _ _ rfl w2.heap.size (ia 0 0 0 0) rfl rfl 24 (ia 0 0 0 0) (At.new w2 24 _) (sizeF _ _ _ _) rfl (oneIa _ _ _ _) ?_))
    obtain ⟨Y, hY⟩ : ∃ Y, (w2.alloc (.cells #[.int .i64 0, .int .i64 0, .int .i64 0, .int .i64 0] 24)).setRow w2.heap.size (ia 0 0 0 0) = Y := ⟨_, rfl⟩
    have aX : At Y w2.heap.size 24 (ia 0 0 0 0) := by rw [← hY]; exact (At.new w2 _ _).row _
    have k2Y : Keeps w2 Y := by rw [← hY]; exact below_row (Keeps.alloc (Below.refl _ _) _) (Nat.le_refl _) _
    have hlY := RdI.below hl2 k2Y
    have kY := Keeps.next hk2 k2Y
    rw [hY]
    clear hY hli hcl hl1 hl2
    generalize w2.heap.size = gx at *
    go_wp2_with (first
      | (go_at_call 9; refine (htr _ _ _ hlY).mono ?_; rintro e w3 ⟨rfl, hb3⟩; have hl3 := RdI.below hlY hb3; have hk3 := Keeps.next kY hb3; have aX3 := aX.later hb3)
      | (go_at_call 10; refine (hro _ _ _ hl3).mono ?_; rintro e w4 ⟨rfl, hb4⟩; have hk4 := Keeps.next hk3 hb4; have aX4 := aX3.later hb4)
      | (refine load_row_w rfl 24 _ rfl gx rfl 24 (ia 0 0 0 0) _ _ aX4 Try.underlying24 rfl (sizeF _ _ _ _) ?_)
      | (go_at_call 11; refine (awake_c _).mono ?_; rintro e w5 ⟨rfl, hb5⟩; have hk5 := Keeps.next hk4 hb5))
    go_ret
    exact ⟨rfl, hk5⟩
end Go.Proofs.Ytmljdhckcplcaaa
