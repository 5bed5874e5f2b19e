/- The law GaugeUnits. -/
import Derived.Test.YtahkoihlpkaohaaDoorWd
import Derived.Test.YtahkoihlpkaohaaDoorWb
namespace Go.Proofs.YtahkoihlpkaohaaDoor
open Go.RowKit
set_option linter.unusedVariables false
set_option linter.unusedSimpArgs false

set_option maxHeartbeats 4000000 in
set_option maxRecDepth 100000 in
theorem units_even (x y : Int) (w : World) (he : (modN x 23 - 11) % 2 = 0) :
    Calls Tryd.prog 6 #[.int .i64 x, .int .i64 y] w fun e w' => e = .returned (.bool true) ∧ Keeps w w' := by
  have aw := fun z => awake_c z
  have m1 := fun z => mod_c x 23 (by decide) (by decide) z
  have m2 := fun z => mod_c y 23 (by decide) (by decide) z
  have hu := modN_in x 23 (by decide)
  have hv := modN_in y 23 (by decide)
  generalize modN x 23 = u at *
  generalize modN y 23 = v at *
  have hB := units_in u v hu.1 hu.2 hv.1 hv.2
  unfold unitB at hB
  simp only [Bool.and_eq_true, beq_iff_eq] at hB
  obtain ⟨⟨⟨⟨hP, hC⟩, hN⟩, hS⟩, ⟨⟨⟨nA, nB⟩, nC⟩, nD⟩, nP⟩ := hB
  rw [if_pos he] at hN
  have pa := fun z => Power_c (u - 11 - 1) (by omega) (by omega) z
  have pb := fun z => Power_c (u - 11) (by omega) (by omega) z
  have pc := fun z => Power_c (u - 11 + 1) (by omega) (by omega) z
  have pd := fun z => Power_c (v - 11) (by omega) (by omega) z
  have pp := fun z => Power_c (u - 11 + (v - 11)) (by omega) (by omega) z
  have pq := fun z => Product_yes (pw (u - 11)) (pw (v - 11)) nB nD _ hP nP z
  have pn := fun z => Norm_yes (pw (u - 11)) nB z
  rw [hN] at pn
  have cm := fun z => Compare_num (pw (u - 11)) (pw (u - 11 + 1)) nB nC z
  rw [hS] at cm
  have pl := fun z => refPlus_v (pw (u - 11 - 1)) (pw (u - 11)) (sm2_mono (sm2_of nA) (by decide)) (sm2_mono (sm2_of nB) (by decide)) z
  have hC1 := congrArg Prod.fst hC
  have hC2 := congrArg Prod.snd hC
  simp only at hC1 hC2
  rw [hC1, hC2] at pl
  have q1 : IntKind.i64.wrap (u - 11) = u - 11 := IntWalk.i64_in _ (by omega)
  have q2 : IntKind.i64.wrap (v - 11) = v - 11 := IntWalk.i64_in _ (by omega)
  have q3 : IntKind.i64.wrap (u - 11 - 1) = u - 11 - 1 := IntWalk.i64_in _ (by omega)
  have q4 : IntKind.i64.wrap (u - 11 + 1) = u - 11 + 1 := IntWalk.i64_in _ (by omega)
  have q5 : IntKind.i64.wrap (u - 11 + (v - 11)) = u - 11 + (v - 11) := IntWalk.i64_in _ (by omega)
  have e1 : (((u - 11).tmod 2) == 0) = true := by
    have h := Int.tmod_add_tdiv_mul (u - 11) 2
    have h1 := Int.tmod_lt_of_pos (u - 11) (show (0 : Int) < 2 by decide)
    have h2 := Int.tmod_lt_of_pos (-(u - 11)) (show (0 : Int) < 2 by decide)
    rw [Int.neg_tmod] at h2
    simp; omega
  have q6 : IntKind.i64.wrap ((u - 11).tmod 2) = (u - 11).tmod 2 := IntWalk.i64_in _ (by
    have h1 := Int.tmod_lt_of_pos (u - 11) (show (0 : Int) < 2 by decide)
    have h2 := Int.tmod_lt_of_pos (-(u - 11)) (show (0 : Int) < 2 by decide)
    rw [Int.neg_tmod] at h2
    omega)
  obtain ⟨t, ht⟩ : ∃ t, (u - 11).tmod 2 = t := ⟨_, rfl⟩
  rw [ht] at e1 q6
  clear hP hC hN hS nA nB nC nD nP hC1 hC2 hu hv he
  generalize pw (u - 11 - 1) = A at *
  generalize pw (u - 11 + 1) = C at *
  generalize pw (u - 11 + (v - 11)) = P at *
  generalize pw (u - 11) = B at *
  generalize pw (v - 11) = D at *
  have k0 : Keeps w w := Below.refl _ _
  go_enter Tryd.func6, Tryd.ntmps6
  go_upto_region 2 with (first
    | (go_at_call 18
       (with_reducible refine (m1 _).mono ?_)
       rintro e wa ⟨rfl, rfl⟩
       clear m1)
    | (go_at_call 18
       (with_reducible refine (m2 _).mono ?_)
       rintro e wb ⟨rfl, rfl⟩
       clear m2))
  go_upto_region 3 with (first
    | (go_at_call 20
       (with_reducible refine (pa _).mono ?_)
       rintro e w1 ⟨rfl, bl1⟩
       have rw1 := At.new w1 23 (gv (0, 0))
       have a1 := rw1.row (gv A)
       have dw1 := below_row (Keeps.alloc bl1 (.cells (gv (0, 0)) 23)) bl1.size (gv A)
       have k1 := Keeps.next k0 dw1
       clear pa )
    | (refine wpList_store_row rfl 23 _ _ rfl _ (gv A) rfl rfl 23 (gv (0, 0)) rw1 (sizeV _) rfl (oneV _) ?_))
  go_upto_region 4 with (first
    | (go_at_call 20
       (with_reducible refine (pb _).mono ?_)
       rintro e w2 ⟨rfl, bl2⟩
       have rw2 := At.new w2 23 (gv (0, 0))
       have b2 := rw2.row (gv B)
       have dw2 := below_row (Keeps.alloc bl2 (.cells (gv (0, 0)) 23)) bl2.size (gv B)
       have a2 := a1.later dw2
       have k2 := Keeps.next k1 dw2
       clear pb a1)
    | (refine wpList_store_row rfl 23 _ _ rfl _ (gv B) rfl rfl 23 (gv (0, 0)) rw2 (sizeV _) rfl (oneV _) ?_))
  go_upto_region 5 with (first
    | (go_at_call 20
       (with_reducible refine (pc _).mono ?_)
       rintro e w3 ⟨rfl, bl3⟩
       have rw3 := At.new w3 23 (gv (0, 0))
       have c3 := rw3.row (gv C)
       have dw3 := below_row (Keeps.alloc bl3 (.cells (gv (0, 0)) 23)) bl3.size (gv C)
       have a3 := a2.later dw3
       have b3 := b2.later dw3
       have k3 := Keeps.next k2 dw3
       clear pc a2 b2)
    | (refine wpList_store_row rfl 23 _ _ rfl _ (gv C) rfl rfl 23 (gv (0, 0)) rw3 (sizeV _) rfl (oneV _) ?_))
  go_upto_region 6 with (first
    | (go_at_call 20
       (with_reducible refine (pd _).mono ?_)
       rintro e w4 ⟨rfl, bl4⟩
       have rw4 := At.new w4 23 (gv (0, 0))
       have d4 := rw4.row (gv D)
       have dw4 := below_row (Keeps.alloc bl4 (.cells (gv (0, 0)) 23)) bl4.size (gv D)
       have a4 := a3.later dw4
       have b4 := b3.later dw4
       have c4 := c3.later dw4
       have k4 := Keeps.next k3 dw4
       clear pd a3 b3 c3)
    | (refine wpList_store_row rfl 23 _ _ rfl _ (gv D) rfl rfl 23 (gv (0, 0)) rw4 (sizeV _) rfl (oneV _) ?_))
  go_upto_region 7 with (first
    | (go_at_call 20
       (with_reducible refine (pp _).mono ?_)
       rintro e w5 ⟨rfl, bl5⟩
       have rw5 := At.new w5 23 (gv (0, 0))
       have p5 := rw5.row (gv P)
       have dw5 := below_row (Keeps.alloc bl5 (.cells (gv (0, 0)) 23)) bl5.size (gv P)
       have a5 := a4.later dw5
       have b5 := b4.later dw5
       have c5 := c4.later dw5
       have d5 := d4.later dw5
       have k5 := Keeps.next k4 dw5
       clear pp a4 b4 c4 d4)
    | (refine wpList_store_row rfl 23 _ _ rfl _ (gv P) rfl rfl 23 (gv (0, 0)) rw5 (sizeV _) rfl (oneV _) ?_))
  go_upto_region 8 with (first
    | (refine load_row_w rfl 23 _ rfl _ rfl 23 _ _ _ b5 Tryd.underlying23 rfl (sizeV _) ?_)
    | (refine load_row_w rfl 23 _ rfl _ rfl 23 _ _ _ d5 Tryd.underlying23 rfl (sizeV _) ?_)
    | (go_at_call 21
       (with_reducible refine (pq _).mono ?_)
       rintro e w6 ⟨rfl, bl6⟩
       have rw6 := At.new w6 23 (gv (0, 0))
       have q6 := rw6.row (gv P)
       have dw6 := below_row (Keeps.alloc bl6 (.cells (gv (0, 0)) 23)) bl6.size (gv P)
       have a6 := a5.later dw6
       have b6 := b5.later dw6
       have c6 := c5.later dw6
       have d6 := d5.later dw6
       have p6 := p5.later dw6
       have k6 := Keeps.next k5 dw6
       clear pq a5 b5 c5 d5 p5)
    | (refine wpList_store_row rfl 23 _ _ rfl _ (gv P) rfl rfl 23 (gv (0, 0)) rw6 (sizeV _) rfl (oneV _) ?_))
  go_upto_region 9 with (first
    | (refine load_row_w rfl 23 _ rfl _ rfl 23 _ _ _ b6 Tryd.underlying23 rfl (sizeV _) ?_)
    | (go_at_call 22
       (with_reducible refine (pn _).mono ?_)
       rintro e w7 ⟨rfl, bl7⟩
       have a7 := a6.later bl7
       have b7 := b6.later bl7
       have c7 := c6.later bl7
       have d7 := d6.later bl7
       have p7 := p6.later bl7
       have q7 := q6.later bl7
       have k7 := Keeps.next k6 bl7
       clear pn a6 b6 c6 d6 p6 q6))
  go_upto_region 10 with (first
    | (refine load_row_w rfl 23 _ rfl _ rfl 23 _ _ _ b7 Tryd.underlying23 rfl (sizeV _) ?_)
    | (refine load_row_w rfl 23 _ rfl _ rfl 23 _ _ _ c7 Tryd.underlying23 rfl (sizeV _) ?_)
    | (go_at_call 16
       (with_reducible refine (cm _).mono ?_)
       rintro e w8 ⟨rfl, bl8⟩
       have a8 := a7.later bl8
       have b8 := b7.later bl8
       have c8 := c7.later bl8
       have d8 := d7.later bl8
       have p8 := p7.later bl8
       have q8 := q7.later bl8
       have k8 := Keeps.next k7 bl8
       clear cm a7 b7 c7 d7 p7 q7))
  go_upto_region 13 with (fail)
  obtain ⟨ac1, ac2⟩ := cells_gv a8
  obtain ⟨bc1, bc2⟩ := cells_gv b8
  obtain ⟨cc1, cc2⟩ := cells_gv c8
  obtain ⟨pc1, pc2⟩ := cells_gv p8
  obtain ⟨qc1, qc2⟩ := cells_gv q8
  have Sof : ∀ w', Keeps w8 w' → (w'.cell? ⟨w1.heap.size, 0, none⟩ = some (.int .i64 A.1) ∧ w'.cell? ⟨w1.heap.size, 1, none⟩ = some (.int .i64 A.2) ∧ w'.cell? ⟨w2.heap.size, 0, none⟩ = some (.int .i64 B.1) ∧ w'.cell? ⟨w2.heap.size, 1, none⟩ = some (.int .i64 B.2) ∧ w'.cell? ⟨w3.heap.size, 0, none⟩ = some (.int .i64 C.1) ∧ w'.cell? ⟨w3.heap.size, 1, none⟩ = some (.int .i64 C.2) ∧ w'.cell? ⟨w5.heap.size, 0, none⟩ = some (.int .i64 P.1) ∧ w'.cell? ⟨w5.heap.size, 1, none⟩ = some (.int .i64 P.2) ∧ w'.cell? ⟨w6.heap.size, 0, none⟩ = some (.int .i64 P.1) ∧ w'.cell? ⟨w6.heap.size, 1, none⟩ = some (.int .i64 P.2)) :=
    fun w' h => ⟨cell_keep (w := w8) ac1 h, cell_keep (w := w8) ac2 h, cell_keep (w := w8) bc1 h, cell_keep (w := w8) bc2 h, cell_keep (w := w8) cc1 h, cell_keep (w := w8) cc2 h, cell_keep (w := w8) pc1 h, cell_keep (w := w8) pc2 h, cell_keep (w := w8) qc1 h, cell_keep (w := w8) qc2 h⟩
  have SOf := Lib.hid Sof
  have kk : Keeps w8 w8 := Below.refl _ _
  clear Sof ac1 ac2 bc1 bc2 cc1 cc2 pc1 pc2 qc1 qc2
  go_cut [4] (fun v4 wr => v4 = .bool true ∧ Keeps w8 wr)
  case first =>
    go_region_held3 (fun w' => w'.cell? ⟨w1.heap.size, 0, none⟩ = some (.int .i64 A.1) ∧ w'.cell? ⟨w1.heap.size, 1, none⟩ = some (.int .i64 A.2) ∧ w'.cell? ⟨w2.heap.size, 0, none⟩ = some (.int .i64 B.1) ∧ w'.cell? ⟨w2.heap.size, 1, none⟩ = some (.int .i64 B.2) ∧ w'.cell? ⟨w3.heap.size, 0, none⟩ = some (.int .i64 C.1) ∧ w'.cell? ⟨w3.heap.size, 1, none⟩ = some (.int .i64 C.2) ∧ w'.cell? ⟨w5.heap.size, 0, none⟩ = some (.int .i64 P.1) ∧ w'.cell? ⟨w5.heap.size, 1, none⟩ = some (.int .i64 P.2) ∧ w'.cell? ⟨w6.heap.size, 0, none⟩ = some (.int .i64 P.1) ∧ w'.cell? ⟨w6.heap.size, 1, none⟩ = some (.int .i64 P.2))
      (first | exact SOf.out _ (Keeps.dr kk) | exact SOf.out _ kk | fail)
      (first
        | (go_at_call 17; refine (pl _).mono ?_; rintro e w9 ⟨rfl, b9⟩; first | (have kk := Keeps.next (Keeps.dr kk) b9) | (have kk := Keeps.next kk b9))
        | (go_at_call 11; refine (aw _).mono ?_; rintro e w10 ⟨rfl, b10⟩; first | (have kk := Keeps.next (Keeps.dr kk) b10) | (have kk := Keeps.next kk b10)))
    all_goals
      go_wp2_with fail
      go_meet
      exact ⟨rfl, kk⟩
  case rest =>
    obtain ⟨rfl, hk⟩ := hcut
    go_wp2_with fail
    go_ret
    exact ⟨rfl, Keeps.next k8 hk⟩
set_option maxHeartbeats 4000000 in
set_option maxRecDepth 100000 in
theorem units_odd (x y : Int) (w : World) (he : (modN x 23 - 11) % 2 ≠ 0) :
    Calls Tryd.prog 6 #[.int .i64 x, .int .i64 y] w fun e w' => e = .returned (.bool true) ∧ Keeps w w' := by
  have aw := fun z => awake_c z
  have m1 := fun z => mod_c x 23 (by decide) (by decide) z
  have m2 := fun z => mod_c y 23 (by decide) (by decide) z
  have hu := modN_in x 23 (by decide)
  have hv := modN_in y 23 (by decide)
  generalize modN x 23 = u at *
  generalize modN y 23 = v at *
  have hB := units_in u v hu.1 hu.2 hv.1 hv.2
  unfold unitB at hB
  simp only [Bool.and_eq_true, beq_iff_eq] at hB
  obtain ⟨⟨⟨⟨hP, hC⟩, hN⟩, hS⟩, ⟨⟨⟨nA, nB⟩, nC⟩, nD⟩, nP⟩ := hB
  rw [if_neg he] at hN
  have pa := fun z => Power_c (u - 11 - 1) (by omega) (by omega) z
  have pb := fun z => Power_c (u - 11) (by omega) (by omega) z
  have pc := fun z => Power_c (u - 11 + 1) (by omega) (by omega) z
  have pd := fun z => Power_c (v - 11) (by omega) (by omega) z
  have pp := fun z => Power_c (u - 11 + (v - 11)) (by omega) (by omega) z
  have pq := fun z => Product_yes (pw (u - 11)) (pw (v - 11)) nB nD _ hP nP z
  have pn := fun z => Norm_yes (pw (u - 11)) nB z
  rw [hN] at pn
  have cm := fun z => Compare_num (pw (u - 11)) (pw (u - 11 + 1)) nB nC z
  rw [hS] at cm
  have pl := fun z => refPlus_v (pw (u - 11 - 1)) (pw (u - 11)) (sm2_mono (sm2_of nA) (by decide)) (sm2_mono (sm2_of nB) (by decide)) z
  have hC1 := congrArg Prod.fst hC
  have hC2 := congrArg Prod.snd hC
  simp only at hC1 hC2
  rw [hC1, hC2] at pl
  have q1 : IntKind.i64.wrap (u - 11) = u - 11 := IntWalk.i64_in _ (by omega)
  have q2 : IntKind.i64.wrap (v - 11) = v - 11 := IntWalk.i64_in _ (by omega)
  have q3 : IntKind.i64.wrap (u - 11 - 1) = u - 11 - 1 := IntWalk.i64_in _ (by omega)
  have q4 : IntKind.i64.wrap (u - 11 + 1) = u - 11 + 1 := IntWalk.i64_in _ (by omega)
  have q5 : IntKind.i64.wrap (u - 11 + (v - 11)) = u - 11 + (v - 11) := IntWalk.i64_in _ (by omega)
  have e1 : (((u - 11).tmod 2) == 0) = false := by
    have h := Int.tmod_add_tdiv_mul (u - 11) 2
    have h1 := Int.tmod_lt_of_pos (u - 11) (show (0 : Int) < 2 by decide)
    have h2 := Int.tmod_lt_of_pos (-(u - 11)) (show (0 : Int) < 2 by decide)
    rw [Int.neg_tmod] at h2
    simp; omega
  have q6 : IntKind.i64.wrap ((u - 11).tmod 2) = (u - 11).tmod 2 := IntWalk.i64_in _ (by
    have h1 := Int.tmod_lt_of_pos (u - 11) (show (0 : Int) < 2 by decide)
    have h2 := Int.tmod_lt_of_pos (-(u - 11)) (show (0 : Int) < 2 by decide)
    rw [Int.neg_tmod] at h2
    omega)
  obtain ⟨t, ht⟩ : ∃ t, (u - 11).tmod 2 = t := ⟨_, rfl⟩
  rw [ht] at e1 q6
  clear hP hC hN hS nA nB nC nD nP hC1 hC2 hu hv he
  generalize pw (u - 11 - 1) = A at *
  generalize pw (u - 11 + 1) = C at *
  generalize pw (u - 11 + (v - 11)) = P at *
  generalize pw (u - 11) = B at *
  generalize pw (v - 11) = D at *
  have k0 : Keeps w w := Below.refl _ _
  go_enter Tryd.func6, Tryd.ntmps6
  go_upto_region 2 with (first
    | (go_at_call 18
       (with_reducible refine (m1 _).mono ?_)
       rintro e wa ⟨rfl, rfl⟩
       clear m1)
    | (go_at_call 18
       (with_reducible refine (m2 _).mono ?_)
       rintro e wb ⟨rfl, rfl⟩
       clear m2))
  go_upto_region 3 with (first
    | (go_at_call 20
       (with_reducible refine (pa _).mono ?_)
       rintro e w1 ⟨rfl, bl1⟩
       have rw1 := At.new w1 23 (gv (0, 0))
       have a1 := rw1.row (gv A)
       have dw1 := below_row (Keeps.alloc bl1 (.cells (gv (0, 0)) 23)) bl1.size (gv A)
       have k1 := Keeps.next k0 dw1
       clear pa )
    | (refine wpList_store_row rfl 23 _ _ rfl _ (gv A) rfl rfl 23 (gv (0, 0)) rw1 (sizeV _) rfl (oneV _) ?_))
  go_upto_region 4 with (first
    | (go_at_call 20
       (with_reducible refine (pb _).mono ?_)
       rintro e w2 ⟨rfl, bl2⟩
       have rw2 := At.new w2 23 (gv (0, 0))
       have b2 := rw2.row (gv B)
       have dw2 := below_row (Keeps.alloc bl2 (.cells (gv (0, 0)) 23)) bl2.size (gv B)
       have a2 := a1.later dw2
       have k2 := Keeps.next k1 dw2
       clear pb a1)
    | (refine wpList_store_row rfl 23 _ _ rfl _ (gv B) rfl rfl 23 (gv (0, 0)) rw2 (sizeV _) rfl (oneV _) ?_))
  go_upto_region 5 with (first
    | (go_at_call 20
       (with_reducible refine (pc _).mono ?_)
       rintro e w3 ⟨rfl, bl3⟩
       have rw3 := At.new w3 23 (gv (0, 0))
       have c3 := rw3.row (gv C)
       have dw3 := below_row (Keeps.alloc bl3 (.cells (gv (0, 0)) 23)) bl3.size (gv C)
       have a3 := a2.later dw3
       have b3 := b2.later dw3
       have k3 := Keeps.next k2 dw3
       clear pc a2 b2)
    | (refine wpList_store_row rfl 23 _ _ rfl _ (gv C) rfl rfl 23 (gv (0, 0)) rw3 (sizeV _) rfl (oneV _) ?_))
  go_upto_region 6 with (first
    | (go_at_call 20
       (with_reducible refine (pd _).mono ?_)
       rintro e w4 ⟨rfl, bl4⟩
       have rw4 := At.new w4 23 (gv (0, 0))
       have d4 := rw4.row (gv D)
       have dw4 := below_row (Keeps.alloc bl4 (.cells (gv (0, 0)) 23)) bl4.size (gv D)
       have a4 := a3.later dw4
       have b4 := b3.later dw4
       have c4 := c3.later dw4
       have k4 := Keeps.next k3 dw4
       clear pd a3 b3 c3)
    | (refine wpList_store_row rfl 23 _ _ rfl _ (gv D) rfl rfl 23 (gv (0, 0)) rw4 (sizeV _) rfl (oneV _) ?_))
  go_upto_region 7 with (first
    | (go_at_call 20
       (with_reducible refine (pp _).mono ?_)
       rintro e w5 ⟨rfl, bl5⟩
       have rw5 := At.new w5 23 (gv (0, 0))
       have p5 := rw5.row (gv P)
       have dw5 := below_row (Keeps.alloc bl5 (.cells (gv (0, 0)) 23)) bl5.size (gv P)
       have a5 := a4.later dw5
       have b5 := b4.later dw5
       have c5 := c4.later dw5
       have d5 := d4.later dw5
       have k5 := Keeps.next k4 dw5
       clear pp a4 b4 c4 d4)
    | (refine wpList_store_row rfl 23 _ _ rfl _ (gv P) rfl rfl 23 (gv (0, 0)) rw5 (sizeV _) rfl (oneV _) ?_))
  go_upto_region 8 with (first
    | (refine load_row_w rfl 23 _ rfl _ rfl 23 _ _ _ b5 Tryd.underlying23 rfl (sizeV _) ?_)
    | (refine load_row_w rfl 23 _ rfl _ rfl 23 _ _ _ d5 Tryd.underlying23 rfl (sizeV _) ?_)
    | (go_at_call 21
       (with_reducible refine (pq _).mono ?_)
       rintro e w6 ⟨rfl, bl6⟩
       have rw6 := At.new w6 23 (gv (0, 0))
       have q6 := rw6.row (gv P)
       have dw6 := below_row (Keeps.alloc bl6 (.cells (gv (0, 0)) 23)) bl6.size (gv P)
       have a6 := a5.later dw6
       have b6 := b5.later dw6
       have c6 := c5.later dw6
       have d6 := d5.later dw6
       have p6 := p5.later dw6
       have k6 := Keeps.next k5 dw6
       clear pq a5 b5 c5 d5 p5)
    | (refine wpList_store_row rfl 23 _ _ rfl _ (gv P) rfl rfl 23 (gv (0, 0)) rw6 (sizeV _) rfl (oneV _) ?_))
  go_upto_region 9 with (first
    | (refine load_row_w rfl 23 _ rfl _ rfl 23 _ _ _ b6 Tryd.underlying23 rfl (sizeV _) ?_)
    | (go_at_call 22
       (with_reducible refine (pn _).mono ?_)
       rintro e w7 ⟨rfl, bl7⟩
       have a7 := a6.later bl7
       have b7 := b6.later bl7
       have c7 := c6.later bl7
       have d7 := d6.later bl7
       have p7 := p6.later bl7
       have q7 := q6.later bl7
       have k7 := Keeps.next k6 bl7
       clear pn a6 b6 c6 d6 p6 q6))
  go_upto_region 10 with (first
    | (refine load_row_w rfl 23 _ rfl _ rfl 23 _ _ _ b7 Tryd.underlying23 rfl (sizeV _) ?_)
    | (refine load_row_w rfl 23 _ rfl _ rfl 23 _ _ _ c7 Tryd.underlying23 rfl (sizeV _) ?_)
    | (go_at_call 16
       (with_reducible refine (cm _).mono ?_)
       rintro e w8 ⟨rfl, bl8⟩
       have a8 := a7.later bl8
       have b8 := b7.later bl8
       have c8 := c7.later bl8
       have d8 := d7.later bl8
       have p8 := p7.later bl8
       have q8 := q7.later bl8
       have k8 := Keeps.next k7 bl8
       clear cm a7 b7 c7 d7 p7 q7))
  go_upto_region 13 with (fail)
  obtain ⟨ac1, ac2⟩ := cells_gv a8
  obtain ⟨bc1, bc2⟩ := cells_gv b8
  obtain ⟨cc1, cc2⟩ := cells_gv c8
  obtain ⟨pc1, pc2⟩ := cells_gv p8
  obtain ⟨qc1, qc2⟩ := cells_gv q8
  have Sof : ∀ w', Keeps w8 w' → (w'.cell? ⟨w1.heap.size, 0, none⟩ = some (.int .i64 A.1) ∧ w'.cell? ⟨w1.heap.size, 1, none⟩ = some (.int .i64 A.2) ∧ w'.cell? ⟨w2.heap.size, 0, none⟩ = some (.int .i64 B.1) ∧ w'.cell? ⟨w2.heap.size, 1, none⟩ = some (.int .i64 B.2) ∧ w'.cell? ⟨w3.heap.size, 0, none⟩ = some (.int .i64 C.1) ∧ w'.cell? ⟨w3.heap.size, 1, none⟩ = some (.int .i64 C.2) ∧ w'.cell? ⟨w5.heap.size, 0, none⟩ = some (.int .i64 P.1) ∧ w'.cell? ⟨w5.heap.size, 1, none⟩ = some (.int .i64 P.2) ∧ w'.cell? ⟨w6.heap.size, 0, none⟩ = some (.int .i64 P.1) ∧ w'.cell? ⟨w6.heap.size, 1, none⟩ = some (.int .i64 P.2)) :=
    fun w' h => ⟨cell_keep (w := w8) ac1 h, cell_keep (w := w8) ac2 h, cell_keep (w := w8) bc1 h, cell_keep (w := w8) bc2 h, cell_keep (w := w8) cc1 h, cell_keep (w := w8) cc2 h, cell_keep (w := w8) pc1 h, cell_keep (w := w8) pc2 h, cell_keep (w := w8) qc1 h, cell_keep (w := w8) qc2 h⟩
  have SOf := Lib.hid Sof
  have kk : Keeps w8 w8 := Below.refl _ _
  clear Sof ac1 ac2 bc1 bc2 cc1 cc2 pc1 pc2 qc1 qc2
  go_cut [4] (fun v4 wr => v4 = .bool true ∧ Keeps w8 wr)
  case first =>
    go_region_held3 (fun w' => w'.cell? ⟨w1.heap.size, 0, none⟩ = some (.int .i64 A.1) ∧ w'.cell? ⟨w1.heap.size, 1, none⟩ = some (.int .i64 A.2) ∧ w'.cell? ⟨w2.heap.size, 0, none⟩ = some (.int .i64 B.1) ∧ w'.cell? ⟨w2.heap.size, 1, none⟩ = some (.int .i64 B.2) ∧ w'.cell? ⟨w3.heap.size, 0, none⟩ = some (.int .i64 C.1) ∧ w'.cell? ⟨w3.heap.size, 1, none⟩ = some (.int .i64 C.2) ∧ w'.cell? ⟨w5.heap.size, 0, none⟩ = some (.int .i64 P.1) ∧ w'.cell? ⟨w5.heap.size, 1, none⟩ = some (.int .i64 P.2) ∧ w'.cell? ⟨w6.heap.size, 0, none⟩ = some (.int .i64 P.1) ∧ w'.cell? ⟨w6.heap.size, 1, none⟩ = some (.int .i64 P.2))
      (first | exact SOf.out _ (Keeps.dr kk) | exact SOf.out _ kk | fail)
      (first
        | (go_at_call 17; refine (pl _).mono ?_; rintro e w9 ⟨rfl, b9⟩; first | (have kk := Keeps.next (Keeps.dr kk) b9) | (have kk := Keeps.next kk b9))
        | (go_at_call 11; refine (aw _).mono ?_; rintro e w10 ⟨rfl, b10⟩; first | (have kk := Keeps.next (Keeps.dr kk) b10) | (have kk := Keeps.next kk b10)))
    all_goals
      go_wp2_with fail
      go_meet
      exact ⟨rfl, kk⟩
  case rest =>
    obtain ⟨rfl, hk⟩ := hcut
    go_wp2_with fail
    go_ret
    exact ⟨rfl, Keeps.next k8 hk⟩
theorem law_units (a b : Int) (w : World) (_ha : (Lit.int .i64 a).wf = true) (_hb : (Lit.int .i64 b).wf = true) : Calls Tryd.prog 6 #[.int .i64 a, .int .i64 b] w fun e w' => e = .returned (.bool true) ∧ Keeps w w' := by
  by_cases he : (modN a 23 - 11) % 2 = 0
  · exact units_even a b w he
  · exact units_odd a b w he
end Go.Proofs.YtahkoihlpkaohaaDoor
