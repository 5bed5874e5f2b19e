/- The law Values. -/
import Derived.Test.YteoahejkknehaaaDg
namespace Go.Proofs.Yteoahejkknehaaa
open Go.RowKit Go.Shelf
set_option linter.unusedVariables false
set_option linter.unusedSimpArgs false

theorem graphB_below {n : Int} {l : List Ed} (h : graphB n l = true) (m : Nat) (hm : (m : Int) = n) : below m l := by
  intro x hx
  obtain ⟨k, hk, rfl⟩ := List.getElem_of_mem hx
  have h1 := (by unfold graphB at h; simp only [Bool.and_eq_true, decide_eq_true_eq] at h; exact h.2.2 : goodK n l l.length = true)
  have h2 : goodK n l (k + 1) = true := by
    cases hg : goodK n l (k + 1) with
    | true => rfl
    | false => rw [goodK_fall n l (k + 1) hg _ (by omega)] at h1; cases h1
  have h3 : edgeB n l[k] = true := by
    have : (goodK n l k && match l[k]? with | some x => edgeB n x && !dupK l x.1 x.2.1 k | none => true) = true := h2
    rw [List.getElem?_eq_getElem hk] at this
    simp only [Bool.and_eq_true] at this
    exact this.2.1
  simp only [edgeB, Bool.and_eq_true, decide_eq_true_eq] at h3
  omega
theorem gain_eq (n : Int) (l : List Ed) (hg : graphB n l = true) (S d : Nat) (hd : d ≤ 12) : (gnL S l).take d = (List.range d).map (dgn l S) := by
  have hlen := gnL_len S l
  apply nth_ext'
  · rw [List.length_take, List.length_map, List.length_range]; omega
  · intro k hk
    rw [List.length_take] at hk
    have e := val_flp S k (by omega) l (edgesT_of hg)
    have h1 : nth ((gnL S l).take d) k = nth (gnL S l) k := by unfold nth; rw [List.getElem?_take, if_pos (by omega)]
    have h2 : nth ((List.range d).map (dgn l S)) k = dgn l S k := by unfold nth; simp [show k < d by omega]
    rw [h1, h2, dgn]; omega
set_option maxHeartbeats 4000000 in
set_option maxRecDepth 100000 in
theorem law_values (n : Int) (v1 : Value) (l0 : List Ed) (s0 : ByteArray) (w : World) (hn : (Lit.int .i64 n).wf = true) (hv : RdE w v1 l0) (hcap : Cap v1) (hs : s0.size ≤ maxLen) :
    Calls Try.prog 3 #[.int .i64 n, v1, .string s0] w fun e w' => e = .returned (.bool true) ∧ Keeps w w' := by
  have hed := edges_c v1 l0 w hv hcap
  have hbr := fun X => brief_c s0 hs X
  have hs13 := brief_size s0
  generalize briefS s0 = s at *
  have hl41 : (l0.take 41).length ≤ 41 := by rw [List.length_take]; omega
  generalize l0.take 41 = l at *
  have hgr := fun v X hX => rgraph_c n v l hl41 X hX
  have hsi := fun X => rside_c n s hs13 X
  by_cases hb : (graphB n l && sideB n s) = true
  · obtain ⟨hg, hsd⟩ := Bool.and_eq_true_iff.1 hb
    obtain ⟨n1, n12⟩ := graphB_n hg
    obtain ⟨d, rfl⟩ := Int.eq_ofNat_of_zero_le (show 0 ≤ n by omega)
    have hE := graphB_edges hg
    have hsz : s.size = d ∧ s.data.toList.all okC = true := by
      unfold sideB at hsd
      simp only [Bool.and_eq_true, decide_eq_true_eq] at hsd
      exact ⟨by omega, hsd.2⟩
    have hbl := graphB_below hg s.size (by omega)
    have hva := fun v X hX => Value_yes d v l s hg hsd X hX
    have hga := fun v X hX => Gains_yes d v l s hg hsd X hX
    have hrv := fun v X hX => rvalue_c v l s hE hbl (by omega) hsz.2 X hX
    have hrg := fun v X hX => rgains_c v l s hE hbl (by omega) hsz.2 X hX
    rw [hsz.1] at hrg hrv
    have hge := gain_eq d l hg (rdS s.data.toList d) d (by omega)
    rw [hsz.1] at hva hga
    rw [hge] at hga
    rw [hg] at hgr
    rw [hsd] at hsi
    generalize valL (rdS s.data.toList d) l = V at *
    generalize (List.range d).map (dgn l (rdS s.data.toList d)) = gs at *
    clear hb hg hsd hE hsz hbl hge hcap hn hv hs hl41 hs13
    go_enter Try.func3, Try.ntmps3
    go_upto_region 6 with (first
      | (go_at_call 8; refine hed.mono ?_; rintro e w1 ⟨A, c, rfl, hv1, hb1⟩)
      | (go_at_call 9; refine (hbr _).mono ?_; rintro e w2 ⟨rfl, rfl⟩)
      | (go_at_call 10; refine (hva _ _ hv1).mono ?_; rintro e w3 ⟨rfl, hb3⟩; have hv3 := hv1.below hb3; have hk3 := hb1.next hb3)
      | (go_at_call 11; refine (hga _ _ hv3).mono ?_; rintro e w4 ⟨b4, c4, rfl, hr4, hb4⟩; have hv4 := hv3.below hb4; have hk4 := hk3.next hb4)
      | (go_at_call 12; refine (hgr _ _ hv4).mono ?_; rintro e w5 ⟨rfl, m5, rfl⟩)
      | (go_at_call 13; refine (hsi _).mono ?_; rintro e w6 ⟨rfl, m6, rfl⟩))
    have k6 : Keeps w4 (w4.drewN (m5 + m6)) := below_drewN (Below.refl _ _)
    have hv6 := hv4.below k6
    have hr6 := hr4.below k6
    have hk6 := hk4.next k6
    generalize w4.drewN (m5 + m6) = w6 at *
    clear hed hbr hva hga hgr hsi hv1 hv3 hv4 hr4 k6
    go_wp2_with (first
      | (go_at_call 15; refine (hrv _ _ hv6).mono ?_; rintro e w7 ⟨rfl, m7, rfl⟩)
      | (go_at_call 17; refine (hrg _ _ (hv6.below (below_drewN (Below.refl _ _)))).mono ?_; rintro e w8 ⟨u8, rfl, hr8, hb8⟩; have hk8 := Keeps.next (below_drewN hk6) hb8; have hr9 := (hr6.below (below_drewN (Below.refl _ _))).below hb8)
      | (go_at_call 16; refine (ints_c _ _ gs gs _ hr9 hr8).mono ?_; rintro e w9 ⟨rfl, m9, rfl⟩; rw [decide_eq_true rfl])
      | (go_at_call 14; refine (awake_c _).mono ?_; rintro e w10 ⟨rfl, hb10⟩; have hk10 := Keeps.next (below_drewN hk8) hb10))
    go_ret
    exact ⟨rfl, hk10⟩
  · have hbf : (graphB n l && sideB n s) = false := by simpa using hb
    have hva := fun v X hX => Value_no n v l s hbf X hX
    have hga := fun v X hX => Gains_no n v l s hbf X hX
    clear hb hcap hn hv hs
    cases hg : graphB n l with
    | false =>
      rw [hg] at hgr
      clear hg hbf
      go_enter Try.func3, Try.ntmps3
      go_wp2_with (first
        | (go_at_call 8; refine hed.mono ?_; rintro e w1 ⟨A, c, rfl, hv1, hb1⟩)
        | (go_at_call 9; refine (hbr _).mono ?_; rintro e w2 ⟨rfl, rfl⟩)
        | (go_at_call 10; refine (hva _ _ hv1).mono ?_; rintro e w3 ⟨rfl, hb3⟩; have hv3 := hv1.below hb3; have hk3 := hb1.next hb3)
        | (go_at_call 11; refine (hga _ _ hv3).mono ?_; rintro e w4 ⟨rfl, hb4⟩; have hv4 := hv3.below hb4; have hk4 := hk3.next hb4)
        | (go_at_call 12; refine (hgr _ _ hv4).mono ?_; rintro e w5 ⟨rfl, m5, rfl⟩)
        | (go_at_call 14; refine (awake_c _).mono ?_; rintro e w10 ⟨rfl, hb10⟩; have hk10 := Keeps.next (below_drewN hk4) hb10))
      go_ret
      exact ⟨rfl, hk10⟩
    | true =>
      rw [hg] at hgr hbf
      rw [Bool.true_and] at hbf
      rw [hbf] at hsi
      clear hg hbf
      go_enter Try.func3, Try.ntmps3
      go_wp2_with (first
        | (go_at_call 8; refine hed.mono ?_; rintro e w1 ⟨A, c, rfl, hv1, hb1⟩)
        | (go_at_call 9; refine (hbr _).mono ?_; rintro e w2 ⟨rfl, rfl⟩)
        | (go_at_call 10; refine (hva _ _ hv1).mono ?_; rintro e w3 ⟨rfl, hb3⟩; have hv3 := hv1.below hb3; have hk3 := hb1.next hb3)
        | (go_at_call 11; refine (hga _ _ hv3).mono ?_; rintro e w4 ⟨rfl, hb4⟩; have hv4 := hv3.below hb4; have hk4 := hk3.next hb4)
        | (go_at_call 12; refine (hgr _ _ hv4).mono ?_; rintro e w5 ⟨rfl, m5, rfl⟩)
        | (go_at_call 13; refine (hsi _).mono ?_; rintro e w6 ⟨rfl, m6, rfl⟩)
        | (go_at_call 14; refine (awake_c _).mono ?_; rintro e w10 ⟨rfl, hb10⟩; have hk10 := Keeps.next (below_drewN hk4) hb10))
      go_ret
      exact ⟨rfl, hk10⟩
end Go.Proofs.Yteoahejkknehaaa
