/- The law Opposite. -/
import Derived.Test.YtngonghgkeobhaaFa
namespace Go.Proofs.Ytngonghgkeobhaa
open Go.RowKit Go.Shelf
set_option linter.unusedVariables false
set_option linter.unusedSimpArgs false

set_option maxHeartbeats 8000000 in
set_option maxRecDepth 100000 in
theorem law_opposite (n : Int) (v1 : Value) (l0 : List Int) (x : Int) (w : World) (hn : (Lit.int .i64 n).wf = true) (hv : RdI w v1 l0) (hf : fits l0) (hcap : Cap v1) (hx : (Lit.int .i64 x).wf = true) :
    Calls Try.prog 4 #[.int .i64 n, v1, .int .i64 x] w fun e w' => e = .returned (.bool true) ∧ Keeps w w' := by
  have hta := tame_c n v1 l0 40 (-50) (by omega) (by omega) (by omega) hn w hv hf
  have hd := tmD_in n
  generalize tmD n = d at *
  have hsi := fun X => side_c x d hd.1 hd.2 hx X
  have hs1 := fun X => side_c (-1) d hd.1 hd.2 (by decide) X
  generalize sdN x d = S at *
  have ht0 := fun Z X => turned_c Z (sdN (-1) d) d hd.2 X
  have ht1 := ht0 S
  rw [opp_TX S d hd.2] at ht1
  clear hn hx hv hf hcap
  go_enter Try.func4, Try.ntmps4
  go_upto_region 2 with (go_at_call 9; refine hta.mono ?_; rintro e w1 ⟨l, A, c, rfl, hv1, hc1, hg, hlm, hlw, hb1⟩)
  have hE := graphB_edges hg
  have hT := edgesT_of hg
  have hbl := graphB_below hg d rfl
  have hva := fun X hX => Value_T d (.slice A l.length c) l S hg X hX
  have hvo := fun X hX => Value_T d (.slice A l.length c) l (opp S) hg X hX
  have hga := fun X hX => Gains_T d (.slice A l.length c) l S hg X hX
  have hgo := fun X hX => Gains_T d (.slice A l.length c) l (opp S) hg X hX
  have hcl := fun X hX => Climb_T d (.slice A l.length c) l S hg X hX
  have hco := fun X hX => Climb_T d (.slice A l.length c) l (opp S) hg X hX
  have ho : ∀ u, u < d → hs (opp S) u = !hs S u := fun u hu => hs_opp S u (by omega)
  obtain ⟨o1, o2⟩ := clmb_opp d hd.2 l hbl hT S
  rw [o1, o2] at hco
  rw [valL_opp S l hT] at hvo
  rw [show (List.range d).map (dgn l (opp S)) = (List.range d).map (dgn l S) from List.map_congr_left fun i hi => dgn_not S (opp S) d i hd.2 (by have := List.mem_range.1 hi; omega) l hbl ho] at hgo
  have ht2 := ht0 (clmb l S).1
  rw [opp_TX _ d hd.2] at ht2
  have hd1 := fun X => rside_T (clmb l S).1 d hd.2 X
  have hd2 := fun X => rside_T (opp (clmb l S).1) d hd.2 X
  generalize (List.range d).map (dgn l S) = R at *
  generalize valL S l = V at *
  generalize TX (opp (clmb l S).1) d = TOC at *
  generalize TX (clmb l S).1 d = TC at *
  generalize TX (opp S) d = TO at *
  generalize TX (sdN (-1) d) d = T1 at *
  generalize TX S d = TS at *
  generalize (clmb l S).2 = K at *
  clear o1 o2 ho hE hT hbl hg hlw ht0
  go_upto_region 10 with (first
    | (go_at_call 11; with_reducible refine (hsi _).mono ?_; rintro e w' ⟨rfl, hb'⟩; have hv1 := hv1.below hb'; have hb1 := Keeps.next hb1 hb')
    | (go_at_call 11; with_reducible refine (hs1 _).mono ?_; rintro e w' ⟨rfl, hb'⟩; have hv1 := hv1.below hb'; have hb1 := Keeps.next hb1 hb')
    | (go_at_call 14; with_reducible refine (ht1 _).mono ?_; rintro e w' ⟨rfl, hb'⟩; have hv1 := hv1.below hb'; have hb1 := Keeps.next hb1 hb')
    | (go_at_call 12; with_reducible refine (hva _ hv1).mono ?_; rintro e w' ⟨rfl, hb'⟩; have hv1 := hv1.below hb'; have hb1 := Keeps.next hb1 hb')
    | (go_at_call 12; with_reducible refine (hvo _ hv1).mono ?_; rintro e w' ⟨rfl, hb'⟩; have hv1 := hv1.below hb'; have hb1 := Keeps.next hb1 hb')
    | (go_at_call 15; with_reducible refine (hga _ hv1).mono ?_; rintro e w' ⟨bp, cp, rfl, hrp, hb'⟩; have hv1 := hv1.below hb'; have hb1 := Keeps.next hb1 hb')
    | (go_at_call 15; with_reducible refine (hgo _ hv1).mono ?_; rintro e w' ⟨bq, cq, rfl, hrq, hb'⟩; have hv1 := hv1.below hb'; have hb1 := Keeps.next hb1 hb'; have hrp := hrp.below hb')
    | (go_at_call 16; with_reducible refine (hcl _ hv1).mono ?_; rintro e w' ⟨rfl, hb'⟩; have hv1 := hv1.below hb'; have hb1 := Keeps.next hb1 hb'; have hrp := hrp.below hb'; have hrq := hrq.below hb')
    | (go_at_call 16; with_reducible refine (hco _ hv1).mono ?_; rintro e w' ⟨rfl, hb'⟩; have hv1 := hv1.below hb'; have hb1 := Keeps.next hb1 hb'; have hrp := hrp.below hb'; have hrq := hrq.below hb'))
  go_wp2_with (first
    | (go_at_call 17; refine (ints_c _ _ R R _ hrp hrq).mono ?_; rintro e w9 ⟨rfl, m9, rfl⟩; rw [decide_eq_true rfl])
    | (go_at_call 18; with_reducible refine (hd1 _).mono ?_; rintro e w5 ⟨rfl, m3, rfl⟩)
    | (go_at_call 18; with_reducible refine (hd2 _).mono ?_; rintro e w5 ⟨rfl, m4, rfl⟩)
    | (go_at_call 11; with_reducible refine (hs1 _).mono ?_; rintro e w' ⟨rfl, hb'⟩; have hb1 := Keeps.next (below_drewN hb1) hb')
    | (go_at_call 14; with_reducible refine (ht2 _).mono ?_; rintro e w' ⟨rfl, hb'⟩; have hb1 := Keeps.next hb1 hb')
    | (go_at_call 10; refine (awake_c _).mono ?_; rintro e w10 ⟨rfl, hb12⟩))
  go_ret
  exact ⟨rfl, Keeps.next hb1 hb12⟩
end Go.Proofs.Ytngonghgkeobhaa
