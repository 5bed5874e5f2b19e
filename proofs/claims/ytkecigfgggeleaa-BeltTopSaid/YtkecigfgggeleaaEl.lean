/- The law Top. -/
import Derived.Test.YtkecigfgggeleaaEk
namespace Go.Proofs.Ytkecigfgggeleaa
open Go.RowKit Go.Shelf
set_option linter.unusedVariables false
set_option linter.unusedSimpArgs false

set_option maxHeartbeats 8000000 in
set_option maxRecDepth 100000 in
theorem law_top (n : Int) (v1 : Value) (l0 : List Int) (x : Int) (w : World) (hn : (Lit.int .i64 n).wf = true) (hv : RdI w v1 l0) (hf : fits l0) (hcap : Cap v1) (hx : (Lit.int .i64 x).wf = true) :
    Calls Try.prog 7 #[.int .i64 n, v1, .int .i64 x] w fun e w' => e = .returned (.bool true) ∧ Keeps w w' := by
  have hta := tame_c n v1 l0 40 (-50) (by omega) (by omega) (by omega) hn w hv hf
  have hd := tmD_in n
  generalize tmD n = d at *
  have hsi := fun X => side_c x d hd.1 hd.2 hx X
  generalize sdN x d = S at *
  clear hn hx hv hf hcap
  go_enter Try.func7, Try.ntmps7
  go_upto_region 2 with (go_at_call 17; refine hta.mono ?_; rintro e w1 ⟨l, A, c, rfl, hv1, hc1, hg, hlm, hlw, hb1⟩)
  have hE := graphB_edges hg
  have hT := edgesT_of hg
  have hbl := graphB_below hg d rfl
  obtain ⟨s1, s2, s3, s4⟩ := clmb_spec d hd.2 l hE hbl hT S
  have hcl := fun X hX => Climb_T d (.slice A l.length c) l S hg X hX
  have hva := fun X hX => Value_T d (.slice A l.length c) l S hg X hX
  have hgaa := fun S X hX => Gains_T d (.slice A l.length c) l S hg X hX
  have hvaa := fun S X hX => Value_T d (.slice A l.length c) l S hg X hX
  have hclc := fun S X hX => Climb_T d (.slice A l.length c) l S hg X hX
  have hrs := fun S X => rside_T S d hd.2 X
  have i1 := val_in2 S l hE
  have i2 := val_in2 (clmb l S).1 l hE
  obtain ⟨C, K, hCK⟩ : ∃ C K, clmb l S = (C, K) := ⟨_, _, rfl⟩
  rw [hCK] at s1 s2 s3 s4 hcl i2
  simp only at s1 s2 s3 s4 hcl i2
  have hga := hgaa C
  have hvc := hvaa C
  have hcc := hclc C
  rw [s4] at hcc
  simp only at hcc
  have hsr := hrs C
  have hTT : TX C d = TX C d := rfl
  clear hgaa hvaa hclc hrs s4 hCK hTT
  obtain ⟨V, hV⟩ : ∃ V, valL S l = V := ⟨_, rfl⟩
  obtain ⟨V2, hV2⟩ : ∃ V2, valL C l = V2 := ⟨_, rfl⟩
  have Hk0 := Lib.hid (show K = 0 → V2 = V from fun h => by rw [← hV2, s3 h, hV])
  simp only [hV] at hva i1 s2
  simp only [hV2] at hvc i2 s2
  have Hs1 := Lib.hid s1
  have Hdi := Lib.hid (dgn_in l hE C)
  have hK : K ≤ 4000 := by omega
  have HvE := Lib.hid hv1
  obtain ⟨R, hR⟩ : ∃ R, (List.range d).map (dgn l C) = R := ⟨_, rfl⟩
  have hRl : R.length = d := by rw [← hR, List.length_map, List.length_range]
  have HR := Lib.hid (show ∀ k, k < d → nth R k = dgn l C k from fun k h => by rw [← hR]; exact dgn_range l C d k h)
  rw [hR] at hga
  clear s1 s3 hV hV2 hE hT hbl hg hlw hR
  generalize TX C d = TC at *
  generalize TX S d = TS at *
  have hKV : V + (K : Int) ≤ V2 := by omega
  have hcs : (K = 0 ∧ V2 = V) ∨ 0 < K := by
    rcases Nat.eq_zero_or_pos K with h | h
    · exact .inl ⟨h, Hk0.out h⟩
    · exact .inr h
  clear Hk0
  rcases hcs with ⟨rfl, rfl⟩ | hK0
  all_goals
    go_upto_region 11 with (first
      | (go_at_call 18; refine (hsi _).mono ?_; rintro e w' ⟨rfl, hb'⟩; have hv1 := hv1.below hb'; have hb1 := Keeps.next hb1 hb'; try have hrg := hrg.below hb')
      | (go_at_call 23; with_reducible refine (hcl _ hv1).mono ?_; rintro e w' ⟨rfl, hb'⟩; have hv1 := hv1.below hb'; have hb1 := Keeps.next hb1 hb')
      | (go_at_call 23; with_reducible refine (hcc _ hv1).mono ?_; rintro e w' ⟨rfl, hb'⟩; have hv1 := hv1.below hb'; have hb1 := Keeps.next hb1 hb'; try have hrg := hrg.below hb')
      | (go_at_call 21; with_reducible refine (hva _ hv1).mono ?_; rintro e w' ⟨rfl, hb'⟩; have hv1 := hv1.below hb'; have hb1 := Keeps.next hb1 hb'; try have hrg := hrg.below hb')
      | (go_at_call 21; with_reducible refine (hvc _ hv1).mono ?_; rintro e w' ⟨rfl, hb'⟩; have hv1 := hv1.below hb'; have hb1 := Keeps.next hb1 hb'; try have hrg := hrg.below hb')
      | (go_at_call 22; with_reducible refine (hga _ hv1).mono ?_; rintro e w' ⟨bp, cp, rfl, hrg, hb'⟩; have hv1 := hv1.below hb'; have hb1 := Keeps.next hb1 hb')
      | (go_at_call 13; refine (hsr _).mono ?_; rintro e w' ⟨rfl, m3, rfl⟩; have hv1 := hv1.below (below_drewN (n := m3) (Below.refl _ _)); have hb1 := below_drewN (n := m3) hb1))
    have Hgr := Lib.hid (fun k (hk : k < d) => rdI_cell hrg k (by rw [hRl]; exact hk))
    clear hrg hv1 hcc hva hvc hcl hga hsr hsi hta
    go_wp2_with fail
    go_loopw [20] (fun i wr => ∃ k : Nat, k ≤ d ∧ i = .int .i64 k ∧ Keeps w' wr) (fun i _ => d - (intOf i).toNat)
    case atStart => exact ⟨0, Nat.zero_le _, rfl, by first | exact Below.refl _ _ | exact below_drewN (Below.refl _ _)⟩
    case round =>
      obtain ⟨k, hk, rfl, hb9⟩ := hrel
      by_cases hkd : k < d
      · have hcell := cell_keep (Hgr.out k hkd) hb9
        rw [Nat.zero_add, HR.out k hkd] at hcell
        have hle := Hs1.out k hkd
        have hdi := Hdi.out k
        have hkI : (k : Int) < (d : Int) := by omega
        generalize dgn l C k = D at *
        have hD0 : ¬ (0 < D) := by omega
        go_wp2_with fail
        go_roundw
        case rel => exact ⟨k + 1, by omega, by go_num, hb9⟩
        case measure => simp [intOf]; omega
      · obtain rfl : k = d := by omega
        go_wp2_with (go_at_call 14; refine (awake_c _).mono ?_; rintro e w10 ⟨rfl, hb11⟩)
        go_ret
        exact ⟨rfl, (Keeps.next hb1 hb9).next hb11⟩
end Go.Proofs.Ytkecigfgggeleaa
