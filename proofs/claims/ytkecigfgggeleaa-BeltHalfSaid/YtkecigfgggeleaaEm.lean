/- The law Half. -/
import Derived.Test.YtkecigfgggeleaaEk
namespace Go.Proofs.Ytkecigfgggeleaa
open Go.RowKit Go.Shelf
set_option linter.unusedVariables false
set_option linter.unusedSimpArgs false

theorem Best_T (d : Nat) (hd : 1 ≤ d) (v : Value) (l : List Ed) (hg : graphB d l = true) (w : World) (hv : RdE w v l) :
    Calls Try.prog 25 #[.int .i64 d, v] w fun e w' => e = .returned (.tuple #[.string (TX (bestL (d - 1) l).1 d), .int .i64 (bestL (d - 1) l).2, .int .i64 0]) ∧ Keeps w w' := by
  obtain ⟨k, rfl⟩ : ∃ k, d = k + 1 := ⟨d - 1, by omega⟩
  have := Best_yes k v l (by exact_mod_cast hg) w hv
  exact_mod_cast this
theorem wsL_bound (l : List Ed) (hE : edgesOk l) : ∀ z ∈ wsL l, -((50 : Nat) : Int) ≤ z ∧ z ≤ ((50 : Nat) : Int) := fun z hz => by
  obtain ⟨y, hy, rfl⟩ := List.mem_map.1 hz
  have := hE.2 y hy
  omega
theorem wsL_len (l : List Ed) : (wsL l).length = l.length := by simp [wsL]
theorem wsL_nth (l : List Ed) (k : Nat) (y : Ed) (h : l[k]? = some y) : nth (wsL l) k = y.2.2 := by unfold nth wsL; rw [List.getElem?_map, h]; rfl
theorem wsL_all (l : List Ed) : smT (wsL l) l.length = (wsL l).sum := by unfold smT; rw [← wsL_len l, List.take_length]
set_option maxHeartbeats 8000000 in
set_option maxRecDepth 100000 in
theorem law_half (n : Int) (v1 : Value) (l0 : List Int) (x : Int) (w : World) (hn : (Lit.int .i64 n).wf = true) (hv : RdI w v1 l0) (hf : fits l0) (hcap : Cap v1) (hx : (Lit.int .i64 x).wf = true) :
    Calls Try.prog 8 #[.int .i64 n, v1, .int .i64 x] w fun e w' => e = .returned (.bool true) ∧ Keeps w w' := by
  have hta := tame_c n v1 l0 40 0 (by omega) (by omega) (by omega) hn w hv hf
  have hd := tmD_in n
  generalize tmD n = d at *
  have hsi := fun X => side_c x d hd.1 hd.2 hx X
  generalize sdN x d = S at *
  clear hn hx hv hf hcap
  go_enter Try.func8, Try.ntmps8
  go_upto_region 2 with (go_at_call 17; refine hta.mono ?_; rintro e w1 ⟨l, A, c, rfl, hv1, hc1, hg, hlm, hlw, hb1⟩)
  have hE := graphB_edges hg
  have hT := edgesT_of hg
  have hbl := graphB_below hg d rfl
  have hcl := fun X hX => Climb_T d (.slice A l.length c) l S hg X hX
  have hbe := fun X hX => Best_T d hd.1 (.slice A l.length c) l hg X hX
  have h1 := clmb_half d hd.2 l hE hbl hT S
  have h2 := best_ge (d - 1) (by omega) l (by rw [show d - 1 + 1 = d by omega]; exact hbl) hT (clmb l S).1
  have h3 := (best_att (d - 1) (by omega) l hE).1
  have h4 := val_le_sum (bestL (d - 1) l).1 l hlw
  rw [← h3] at h4
  have i1 := val_in2 (clmb l S).1 l hE
  have hrs := fun X => rside_T (clmb l S).1 d hd.2 X
  have hrv := fun X hX => rvalue_T (.slice A l.length c) l (clmb l S).1 d hd.2 hE hbl X hX
  have h0 : 0 ≤ (wsL l).sum := by
    have := val_le_sum 0 l hlw
    rw [valL_zero] at this; exact this
  have i2 := smT_in (wsL l) 50 (wsL_bound l hE) l.length (by rw [wsL_len]; omega)
  rw [wsL_all] at i2
  have HWb := Lib.hid (smT_in (wsL l) 50 (wsL_bound l hE))
  have HWs := Lib.hid (fun k h => smT_succ (wsL l) k h)
  have HWl := Lib.hid (wsL_len l)
  have Hl := Lib.hid (wsL_nth l)
  have Hall := Lib.hid (wsL_all l)
  generalize (bestL (d - 1) l).2 = V at *
  generalize TX (bestL (d - 1) l).1 d = TB at *
  generalize valL (clmb l S).1 l = VC at *
  generalize TX (clmb l S).1 d = TC at *
  generalize (clmb l S).2 = K at *
  generalize TX S d = TS at *
  generalize (wsL l).sum = SUM at *
  obtain ⟨H, hH⟩ : ∃ H, (SUM + 1).tdiv 2 = H := ⟨_, rfl⟩
  have hH2 : 2 * H ≤ SUM + 1 ∧ SUM + 1 < 2 * H + 2 := by rw [← hH, Int.tdiv_eq_ediv_of_nonneg (by omega)]; omega
  have k1 : H ≤ VC := by omega
  have k2 : H ≤ V := by omega
  clear h1 h2 h3 hE hT hbl hg hlw
  go_upto_region 4 with (first
    | (go_at_call 18; refine (hsi _).mono ?_; rintro e w' ⟨rfl, hb'⟩; have hv1 := hv1.below hb'; have hb1 := Keeps.next hb1 hb')
    | (go_at_call 23; refine (hcl _ hv1).mono ?_; rintro e w' ⟨rfl, hb'⟩; have hv1 := hv1.below hb'; have hb1 := Keeps.next hb1 hb')
    | (go_at_call 25; refine (hbe _ hv1).mono ?_; rintro e w' ⟨rfl, hb'⟩; have hv1 := hv1.below hb'; have hb1 := Keeps.next hb1 hb'))
  clear hta hsi hcl hbe
  go_wp2_with fail
  have Hv3 := Lib.hid hv1
  clear hv1
  go_loopw [14, 15] (fun s i wr => ∃ q : Nat, q ≤ l.length ∧ i = .int .i64 q ∧ s = .int .i64 (smT (wsL l) q) ∧ Keeps w' wr) (fun _ i _ => l.length - (intOf i).toNat)
  case atStart => exact ⟨0, Nat.zero_le _, rfl, rfl, Below.refl _ _⟩
  case round =>
    obtain ⟨q, hq, rfl, rfl, hb10⟩ := hrel
    by_cases hql : q < l.length
    · obtain ⟨y, hy⟩ : ∃ y, l[q]? = some y := ⟨_, List.getElem?_eq_getElem hql⟩
      obtain ⟨_, _, he, _, hcs⟩ := id (Hv3.out.below hb10)
      cases he
      obtain ⟨bo, oo, rfl, c1, c2, c3⟩ := hcs q y hy
      have hqI : (q : Int) < (l.length : Int) := by omega
      have b3 := HWb.out q (by rw [HWl.out]; omega)
      have b4 := HWb.out (q + 1) (by rw [HWl.out]; omega)
      have Hsu := HWs.out q (by rw [HWl.out]; omega)
      rw [Hl.out q y hy] at Hsu
      rw [Hsu] at b4
      have Hs2 := Lib.hid Hsu
      clear Hsu hcs c1 c2
      generalize smT (wsL l) q = SQ at *
      generalize y.2.2 = WQ at *
      clear hy
      go_wp2_with fail
      go_roundw
      case rel => exact ⟨q + 1, by omega, by go_num, by rw [Hs2.out], hb10⟩
      case measure => simp [intOf]; omega
    · obtain rfl : q = l.length := by omega
      rw [Hall.out]
      have hb11 := Keeps.next hb1 hb10
      have hv2 := Hv3.out.below hb10
      go_wp2_with (first
        | (go_at_call 13; refine (hrs _).mono ?_; rintro e w5 ⟨rfl, m3, rfl⟩)
        | (go_at_call 28; refine (hrv _ (hv2.below (below_drewN (Below.refl _ _)))).mono ?_; rintro e w6 ⟨rfl, m4, rfl⟩)
        | (go_at_call 14; refine (awake_c _).mono ?_; rintro e w7 ⟨rfl, hb12⟩))
      go_ret
      exact ⟨rfl, Keeps.next (below_drewN hb11) hb12⟩
end Go.Proofs.Ytkecigfgggeleaa
