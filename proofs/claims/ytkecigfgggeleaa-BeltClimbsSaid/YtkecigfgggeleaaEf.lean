/- The law Climbs. -/
import Derived.Test.YtkecigfgggeleaaEb
import Derived.Test.YtkecigfgggeleaaDi
namespace Go.Proofs.Ytkecigfgggeleaa
open Go.RowKit Go.Shelf
set_option linter.unusedVariables false
set_option linter.unusedSimpArgs false

theorem side_size {d : Nat} {s : ByteArray} (h : sideB d s = true) : s.size = d ∧ s.data.toList.all okC = true := by
  unfold sideB at h
  simp only [Bool.and_eq_true, decide_eq_true_eq] at h
  exact ⟨by omega, h.2⟩
set_option maxHeartbeats 4000000 in
set_option maxRecDepth 100000 in
theorem law_climbs (n : Int) (v1 : Value) (l0 : List Ed) (s0 : ByteArray) (w : World) (hn : (Lit.int .i64 n).wf = true) (hv : RdE w v1 l0) (hcap : Cap v1) (hs : s0.size ≤ maxLen) :
    Calls Try.prog 5 #[.int .i64 n, v1, .string s0] w fun e w' => e = .returned (.bool true) ∧ Keeps w w' := by
  have hed := edges_c v1 l0 w hv hcap
  have hbr := fun X => brief_c s0 hs X
  have hs13 := brief_size s0
  generalize briefS s0 = s at *
  have hl41 : (l0.take 41).length ≤ 41 := by rw [List.length_take]; omega
  generalize l0.take 41 = l at *
  have hgr := fun v X hX => rgraph_c n v l hl41 X hX
  have hsi := fun X => rside_c n s hs13 X
  by_cases hb : (graphB n l && sideB n s) = true
  · obtain ⟨hg, hsd⟩ := Bool.and_eq_true_iff.1 hb
    obtain ⟨n1, n12⟩ := graphB_n hg
    obtain ⟨d, rfl⟩ := Int.eq_ofNat_of_zero_le (show 0 ≤ n by omega)
    have hE := graphB_edges hg
    have hT := edgesT_of hg
    obtain ⟨hz, hok⟩ := side_size hsd
    have hbl := graphB_below hg d rfl
    have hcl := fun v X hX => Climb_yes d v l s hg hsd X hX
    have hS := rdS_lt s.data.toList d
    have hsT := side_TX s d (by omega) hz hok
    rw [hz] at hcl
    have hrc := fun v X hX => rclimb_c v l (rdS s.data.toList d) d hS (by omega) hE hbl hT X hX
    rw [← hsT] at hrc
    rw [hg] at hgr
    rw [hsd] at hsi
    change ∀ v X, RdE X v l → Calls _ _ _ X (fun e w' => e = .returned (.tuple #[.string (TX (clmb l (rdS s.data.toList d)).1 d), .int .i64 (clmb l (rdS s.data.toList d)).2, .int .i64 0]) ∧ Keeps X w') at hcl
    generalize (clmb l (rdS s.data.toList d)).2 = K at *
    generalize TX (clmb l (rdS s.data.toList d)).1 d = T at *
    clear hb hg hsd hE hz hok hsT hbl hcap hn hv hs hl41 hs13 hT hS
    go_enter Try.func5, Try.ntmps5
    go_upto_region 6 with (first
      | (go_at_call 9; refine hed.mono ?_; rintro e w1 ⟨A, c, rfl, hv1, hb1⟩)
      | (go_at_call 10; refine (hbr _).mono ?_; rintro e w2 ⟨rfl, rfl⟩)
      | (go_at_call 23; refine (hcl _ _ hv1).mono ?_; rintro e w3 ⟨rfl, hb3⟩; have hv3 := hv1.below hb3; have hk3 := hb1.next hb3)
      | (go_at_call 12; refine (hgr _ _ hv3).mono ?_; rintro e w5 ⟨rfl, m5, rfl⟩)
      | (go_at_call 13; refine (hsi _).mono ?_; rintro e w6 ⟨rfl, m6, rfl⟩)
      | (go_at_call 24; refine (hrc _ _ (hv3.below (below_drewN (Below.refl _ _)))).mono ?_; rintro e w7 ⟨rfl, hb7⟩; have hk7 := Keeps.next (below_drewN hk3) hb7))
    go_wp2_with (first
      | (go_at_call 14; refine (awake_c _).mono ?_; rintro e w10 ⟨rfl, hb10⟩; have hk10 := hk7.next hb10))
    go_ret
    exact ⟨rfl, hk10⟩
  · have hbf : (graphB n l && sideB n s) = false := by simpa using hb
    have hcl := fun v X hX => Climb_no n v l s hbf X hX
    clear hb hcap hn hv hs
    cases hg : graphB n l with
    | false =>
      rw [hg] at hgr
      clear hg hbf
      go_enter Try.func5, Try.ntmps5
      go_wp2_with (first
        | (go_at_call 9; refine hed.mono ?_; rintro e w1 ⟨A, c, rfl, hv1, hb1⟩)
        | (go_at_call 10; refine (hbr _).mono ?_; rintro e w2 ⟨rfl, rfl⟩)
        | (go_at_call 23; refine (hcl _ _ hv1).mono ?_; rintro e w3 ⟨rfl, hb3⟩; have hv3 := hv1.below hb3; have hk3 := hb1.next hb3)
        | (go_at_call 12; refine (hgr _ _ hv3).mono ?_; rintro e w5 ⟨rfl, m5, rfl⟩)
        | (go_at_call 14; refine (awake_c _).mono ?_; rintro e w10 ⟨rfl, hb10⟩; have hk10 := Keeps.next (below_drewN hk3) hb10))
      go_ret
      exact ⟨rfl, hk10⟩
    | true =>
      rw [hg] at hgr hbf
      rw [Bool.true_and] at hbf
      rw [hbf] at hsi
      clear hg hbf
      go_enter Try.func5, Try.ntmps5
      go_wp2_with (first
        | (go_at_call 9; refine hed.mono ?_; rintro e w1 ⟨A, c, rfl, hv1, hb1⟩)
        | (go_at_call 10; refine (hbr _).mono ?_; rintro e w2 ⟨rfl, rfl⟩)
        | (go_at_call 23; refine (hcl _ _ hv1).mono ?_; rintro e w3 ⟨rfl, hb3⟩; have hv3 := hv1.below hb3; have hk3 := hb1.next hb3)
        | (go_at_call 12; refine (hgr _ _ hv3).mono ?_; rintro e w5 ⟨rfl, m5, rfl⟩)
        | (go_at_call 13; refine (hsi _).mono ?_; rintro e w6 ⟨rfl, m6, rfl⟩)
        | (go_at_call 14; refine (awake_c _).mono ?_; rintro e w10 ⟨rfl, hb10⟩; have hk10 := Keeps.next (below_drewN hk3) hb10))
      go_ret
      exact ⟨rfl, hk10⟩
end Go.Proofs.Ytkecigfgggeleaa
