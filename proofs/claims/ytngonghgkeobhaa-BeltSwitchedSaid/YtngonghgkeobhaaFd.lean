/- The law Switched. -/
import Derived.Test.YtngonghgkeobhaaFc
namespace Go.Proofs.Ytngonghgkeobhaa
open Go.RowKit Go.Shelf
set_option linter.unusedVariables false
set_option linter.unusedSimpArgs false

theorem Switch_T (d : Nat) (v : Value) (l : List Ed) (S : Nat) (hg : graphB d l = true) (w : World) (hv : RdE w v l) :
    Calls Try.prog 19 #[.int .i64 d, v, .string (TX S d)] w fun e w' => ∃ A c, e = .returned (.tuple #[.slice A l.length c, .int .i64 0]) ∧ RdE w' (.slice A l.length c) (swL S l) ∧ Keeps w w' := by
  have hd := (graphB_n hg).2
  have hE := graphB_edges hg
  have h41 := hE.1
  have := Switch_yes d v l (TX S d) hg (sideB_TX S d) w hv
  have e : swL (rdS (TX S d).data.toList d) l = swL S l := by
    unfold swL
    apply List.map_congr_left
    intro x hx
    have := graphB_below hg d rfl x hx
    unfold swE
    rw [rdTX_eq S d (by omega) _ (by omega), rdTX_eq S d (by omega) _ (by omega)]
  rw [TX_size, e] at this
  refine this.mono ?_
  rintro e w' ⟨u, rfl, hown, hb⟩
  have hr := own_edges' hown (swL_len S l) (by unfold maxLen; omega)
  obtain ⟨A, c, rfl, hm, hcs⟩ := id hr
  rw [swL_len] at hr
  exact ⟨A, c, by rw [swL_len], hr, hb⟩
set_option maxHeartbeats 8000000 in
set_option maxRecDepth 100000 in
theorem law_switched (n : Int) (v1 : Value) (l0 : List Int) (x y : Int) (w : World) (hn : (Lit.int .i64 n).wf = true) (hv : RdI w v1 l0) (hf : fits l0) (hcap : Cap v1) (hx : (Lit.int .i64 x).wf = true) (hy : (Lit.int .i64 y).wf = true) :
    Calls Try.prog 5 #[.int .i64 n, v1, .int .i64 x, .int .i64 y] w fun e w' => e = .returned (.bool true) ∧ Keeps w w' := by
  have hta := tame_c n v1 l0 40 (-50) (by omega) (by omega) (by omega) hn w hv hf
  have hd := tmD_in n
  generalize tmD n = d at *
  have hsx := fun X => side_c x d hd.1 hd.2 hx X
  have hsy := fun X => side_c y d hd.1 hd.2 hy X
  have htt := fun X => turned_c (sdN x d) (sdN y d) d hd.2 X
  obtain ⟨S, hS⟩ : ∃ S, sdN x d = S := ⟨_, rfl⟩
  obtain ⟨T, hTe⟩ : ∃ T, sdN y d = T := ⟨_, rfl⟩
  rw [hS] at hsx htt
  rw [hTe] at hsy htt
  clear hS hTe
  clear hn hx hv hf hcap hy
  go_enter Try.func5, Try.ntmps5
  go_upto_region 2 with (go_at_call 9; refine hta.mono ?_; rintro e w1 ⟨l, A, c, rfl, hv1, hc1, hg, hlm, hlw, hb1⟩)
  have hg2 := graphB_sw _ T l hg
  have hE := graphB_edges hg
  have hE2 := graphB_edges hg2
  have hsw := fun X hX => Switch_T d (.slice A l.length c) l T hg X hX
  have hsw2 := fun A c X hX => Switch_T d (.slice A (swL T l).length c) (swL T l) T hg2 X hX
  rw [sw_sw, swL_len] at hsw2
  have hrg := fun v X hX => rgraph_T d v (swL T l) hg2 X hX
  have hvo := fun v X hX => Value_T d v (swL T l) S hg2 X hX
  have hvb := fun X hX => Value_T d (.slice A l.length c) l (S ^^^ T) hg X hX
  have hvc := fun X hX => Value_T d (.slice A l.length c) l T hg X hX
  have hbe := fun X hX => Best_T d hd.1 (.slice A l.length c) l hg X hX
  have hbo := fun v X hX => Best_T d hd.1 v (swL T l) hg2 X hX
  have hsm := fun v v' X h h' => same_c v v' l (by omega) X h h'
  have e1 := valL_sw S T l
  have e2 := best_sw (d - 1) (by omega) l T (by rw [show ((d - 1 : Nat) : Int) + 1 = (d : Int) by omega]; exact hg)
  have i1 := val_in (S ^^^ T) l hE
  have i2 := val_in T l hE
  have i3 := val_in S _ hE2
  have a1 := (best_att (d - 1) (by omega) l hE).1
  have i4 := val_in (bestL (d - 1) l).1 l hE
  rw [← a1] at i4
  rw [e1] at hvo i3
  rw [e2] at hbo
  generalize hVb : valL (S ^^^ T) l = VB at *
  generalize hVc : valL T l = VC at *
  generalize hBb : (bestL (d - 1) l).2 = BB at *
  generalize hTB : TX (bestL (d - 1) l).1 d = TB at *
  generalize hTO : TX (bestL (d - 1) (swL T l)).1 d = TBO at *
  generalize hTT : TX (S ^^^ T) d = TST at *
  generalize hTS : TX S d = TS at *
  generalize hTT2 : TX T d = TT at *
  generalize swL T l = L at *
  have hlI : (l.length : Int) ≤ 40 := by omega
  clear hE hE2 e1 e2 a1 hVb hVc hBb hTB hTO hTT hTS hTT2 hg hg2 hlw
  go_upto_region 12 with (first
    | (go_at_call 11; with_reducible refine (hsx _).mono ?_; rintro e w' ⟨rfl, hb'⟩; have hv1 := hv1.below hb'; have hb1 := Keeps.next hb1 hb'; try have hvO := hvO.below hb'; try have hvP := hvP.below hb')
    | (go_at_call 11; with_reducible refine (hsy _).mono ?_; rintro e w' ⟨rfl, hb'⟩; have hv1 := hv1.below hb'; have hb1 := Keeps.next hb1 hb'; try have hvO := hvO.below hb'; try have hvP := hvP.below hb')
    | (go_at_call 19; with_reducible refine (hsw _ hv1).mono ?_; rintro e w' ⟨Ao, co, rfl, hvO, hb'⟩; have hv1 := hv1.below hb'; have hb1 := Keeps.next hb1 hb')
    | (go_at_call 19; with_reducible refine (hsw2 _ _ _ hvO).mono ?_; rintro e w' ⟨Ap, cp, rfl, hvP, hb'⟩; have hv1 := hv1.below hb'; have hb1 := Keeps.next hb1 hb'; have hvO := hvO.below hb')
    | (go_at_call 20; with_reducible refine (hrg _ _ hvO).mono ?_; rintro e w' ⟨rfl, m3, rfl⟩; have hv1 := hv1.below (below_drewN (n := m3) (Below.refl _ _)); have hb1 := below_drewN (n := m3) hb1; try have hvO := hvO.below (below_drewN (n := m3) (Below.refl _ _)))
    | (go_at_call 14; with_reducible refine (htt _).mono ?_; rintro e w' ⟨rfl, hb'⟩; have hv1 := hv1.below hb'; have hb1 := Keeps.next hb1 hb'; try have hvO := hvO.below hb'; try have hvP := hvP.below hb')
    | (go_at_call 12; with_reducible refine (hvo _ _ hvO).mono ?_; rintro e w' ⟨rfl, hb'⟩; have hv1 := hv1.below hb'; have hb1 := Keeps.next hb1 hb'; try have hvO := hvO.below hb'; try have hvP := hvP.below hb')
    | (go_at_call 12; with_reducible refine (hvb _ hv1).mono ?_; rintro e w' ⟨rfl, hb'⟩; have hv1 := hv1.below hb'; have hb1 := Keeps.next hb1 hb'; try have hvO := hvO.below hb'; try have hvP := hvP.below hb')
    | (go_at_call 12; with_reducible refine (hvc _ hv1).mono ?_; rintro e w' ⟨rfl, hb'⟩; have hv1 := hv1.below hb'; have hb1 := Keeps.next hb1 hb'; try have hvO := hvO.below hb'; try have hvP := hvP.below hb')
    | (go_at_call 13; with_reducible refine (hbe _ hv1).mono ?_; rintro e w' ⟨rfl, hb'⟩; have hv1 := hv1.below hb'; have hb1 := Keeps.next hb1 hb'; try have hvO := hvO.below hb'; try have hvP := hvP.below hb')
    | (go_at_call 13; with_reducible refine (hbo _ _ hvO).mono ?_; rintro e w' ⟨rfl, hb'⟩; have hv1 := hv1.below hb'; have hb1 := Keeps.next hb1 hb'; try have hvO := hvO.below hb'; try have hvP := hvP.below hb'))
  go_wp2_with (first
    | (go_at_call 21; refine (hsm _ _ _ hvP hv1).mono ?_; rintro e w9 ⟨rfl, hb9⟩; have hb1 := Keeps.next hb1 hb9)
    | (go_at_call 10; refine (awake_c _).mono ?_; rintro e w10 ⟨rfl, hb12⟩))
  go_ret
  exact ⟨rfl, Keeps.next hb1 hb12⟩
end Go.Proofs.Ytngonghgkeobhaa
