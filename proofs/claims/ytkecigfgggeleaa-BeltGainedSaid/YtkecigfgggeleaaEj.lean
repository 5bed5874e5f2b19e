/- The law Gained. -/
import Derived.Test.YtkecigfgggeleaaEi
import Derived.BigQuiet
namespace Go.Proofs.Ytkecigfgggeleaa
open Go.RowKit Go.Shelf
set_option linter.unusedVariables false
set_option linter.unusedSimpArgs false

theorem dgn_in (l : List Ed) (hE : edgesOk l) (S i : Nat) : -10000 ≤ dgn l S i ∧ dgn l S i ≤ 10000 := by
  have h1 := val_in S l hE
  have h2 := val_in (flp S i) l hE
  unfold dgn; omega
set_option maxHeartbeats 8000000 in
set_option maxRecDepth 100000 in
theorem law_gained (n : Int) (v1 : Value) (l0 : List Int) (x y : Int) (w : World) (hn : (Lit.int .i64 n).wf = true) (hv : RdI w v1 l0) (hf : fits l0) (hcap : Cap v1) (hx : (Lit.int .i64 x).wf = true) (hy : (Lit.int .i64 y).wf = true) :
    Calls Try.prog 4 #[.int .i64 n, v1, .int .i64 x, .int .i64 y] w fun e w' => e = .returned (.bool true) ∧ Keeps w w' := by
  have hta := tame_c n v1 l0 40 (-50) (by omega) (by omega) (by omega) hn w hv hf
  have hd := tmD_in n
  generalize tmD n = d at *
  have hsi := fun X => side_c x d hd.1 hd.2 hx X
  have hS := sdN_lt x d
  generalize sdN x d = S at *
  have hmo := fun X => mod_c y d hy (by omega) (by omega) X
  have hmi := modN_in y d (by omega)
  obtain ⟨i, hi⟩ := Int.eq_ofNat_of_zero_le hmi.1
  rw [hi] at hmo hmi
  have hid : i < d := by omega
  have hfl := fun X => rflip_T S d i hd.2 hid X
  have HB := Lib.hid (flp_flp S i (by omega))
  have HD := Lib.hid (fun l => show dgn l S i = valL (flp S i) l - valL S l from rfl)
  have HDb := Lib.hid (dgn_back S i (by omega))
  generalize flp S i = S2 at *
  clear hi hmi hn hx hy hv hf hcap
  go_enter Try.func4, Try.ntmps4
  go_upto_region 9 with (first
    | (go_at_call 17; refine hta.mono ?_; rintro e w1 ⟨l, A, c, rfl, hv1, hc1, hg, hlm, hlw, hb1⟩; have hva := fun S X hX => Value_T d (.slice A l.length c) l S hg X hX; have hga := fun X hX => Gains_T d (.slice A l.length c) l S hg X hX; have hga2 := fun X hX => Gains_T d (.slice A l.length c) l S2 hg X hX)
    | (go_at_call 18; refine (hsi _).mono ?_; rintro e w' ⟨rfl, hb'⟩; have hv2 := hv1.below hb'; have hb2 := Keeps.next hb1 hb')
    | (go_at_call 19; refine (hmo _).mono ?_; rintro e w' ⟨rfl, rfl⟩)
    | (go_at_call 20; refine (hfl _).mono ?_; rintro e w' ⟨rfl, m3, rfl⟩; have hv3 := hv2.below (below_drewN (n := m3) (Below.refl _ _)); have hb3 := below_drewN (n := m3) hb2)
    | (go_at_call 21; refine (hva _ _ hv3).mono ?_; rintro e w' ⟨rfl, hb'⟩; have hv3 := hv3.below hb'; have hb3 := Keeps.next hb3 hb')
    | (go_at_call 22; with_reducible refine (hga _ hv3).mono ?_; rintro e w' ⟨bp, cp, rfl, hrp, hb'⟩; have hv3 := hv3.below hb'; have hb3 := Keeps.next hb3 hb')
    | (go_at_call 22; with_reducible refine (hga2 _ hv3).mono ?_; rintro e w' ⟨bq, cq, rfl, hrq, hb'⟩; have hv3 := hv3.below hb'; have hb3 := Keeps.next hb3 hb'; have hrp := hrp.below hb'))
  have hE := graphB_edges hg
  have hT := edgesT_of hg
  have hbl := graphB_below hg d rfl
  have Hsum := Lib.hid (gains_sum S d hd.2 l hbl hT)
  have HDl := Lib.hid (HD.out l)
  have HDq := Lib.hid (HDb.out l hE)
  have v1i := val_in S l hE
  have v2i := val_in S2 l hE
  have Hdi := Lib.hid (dgn_in l hE S)
  have hrl : ((List.range d).map (dgn l S)).length = d := by rw [List.length_map, List.length_range]
  have hcp := fun k (hk : k < d) => rdI_cell hrp k (by rw [hrl]; exact hk)
  have hpi := hcp i hid
  have hqi := rdI_cell hrq i (by rw [List.length_map, List.length_range]; exact hid)
  rw [dgn_range l S d i hid, Nat.zero_add] at hpi
  rw [dgn_range l S2 d i hid, Nat.zero_add, HDq.out] at hqi
  have hDD := HDl.out
  have hDi := Hdi.out i
  generalize dgn l S i = D at *
  have Hcp := Lib.hid hcp
  obtain ⟨V, hV⟩ : ∃ V, valL S l = V := ⟨_, rfl⟩
  obtain ⟨V2, hV2⟩ : ∃ V2, valL S2 l = V2 := ⟨_, rfl⟩
  rw [hV] at v1i hDD Hsum
  rw [hV2] at v2i hDD
  rw [hV, hV2]
  clear hcp HDl HDq HD HDb HB hta hsi hmo hfl hva hga hga2 hV hV2 hrq
  have hDw : V2 - V = D := by omega
  clear hDD
  have hiI : (i : Int) < (d : Int) := by omega
  go_wp2_with fail
  go_quiet (fail)
  go_wp2_with fail
  obtain ⟨R, hR⟩ : ∃ R, (List.range d).map (dgn l S) = R := ⟨_, rfl⟩
  rw [hR] at hrl hrp Hsum
  have HR := Lib.hid hR
  have hRb : ∀ z ∈ R, -((10000 : Nat) : Int) ≤ z ∧ z ≤ ((10000 : Nat) : Int) := fun z hz => by
    rw [← hR] at hz
    obtain ⟨k, _, rfl⟩ := List.mem_map.1 hz
    exact Hdi.out k
  have hWb : ∀ z ∈ wsL l, -((50 : Nat) : Int) ≤ z ∧ z ≤ ((50 : Nat) : Int) := fun z hz => by
    obtain ⟨y, hy, rfl⟩ := List.mem_map.1 hz
    have := hE.2 y hy
    omega
  have hWl : (wsL l).length = l.length := by simp [wsL]
  have HRb := Lib.hid (smT_in R 10000 hRb)
  have HWb := Lib.hid (smT_in (wsL l) 50 hWb)
  have HRs := Lib.hid (fun k h => smT_succ R k h)
  have HWs := Lib.hid (fun k h => smT_succ (wsL l) k h)
  have HWl := Lib.hid hWl
  have Hgr := Lib.hid (fun k (hk : k < d) => rdI_cell hrp k (by rw [hrl]; exact hk))
  have Hrl := Lib.hid hrl
  have hE41 : l.length ≤ 40 := hlm
  have Hl := Lib.hid (show ∀ k (y : Ed), l[k]? = some y → nth (wsL l) k = y.2.2 from fun k y h => by unfold nth wsL; rw [List.getElem?_map, h]; rfl)
  have HhE := Lib.hid hE
  have Hv3 := Lib.hid hv3
  have HRS := Lib.hid (show smT R d = R.sum by unfold smT; rw [← hrl, List.take_length])
  have HWS := Lib.hid (show smT (wsL l) l.length = (wsL l).sum by unfold smT; rw [← hWl, List.take_length])
  clear hR hRb hWb hWl hrl hrp hE hT hbl hv3 hpi hqi hDi hDw hg hlw hv1 hv2 hlm
  go_loopw [21, 23] (fun s i wr => ∃ k : Nat, k ≤ d ∧ i = .int .i64 k ∧ s = .int .i64 (smT R k) ∧ Keeps w' wr) (fun _ i _ => d - (intOf i).toNat)
  case atStart => exact ⟨0, Nat.zero_le _, rfl, rfl, below_drewN (Below.refl _ _)⟩
  case round =>
    obtain ⟨k, hk, rfl, rfl, hb9⟩ := hrel
    by_cases hkd : k < d
    · have hcell := cell_keep (Hgr.out k hkd) hb9
      rw [Nat.zero_add] at hcell
      have hkI : (k : Int) < (d : Int) := by omega
      have b1 := HRb.out k (by rw [Hrl.out]; omega)
      have b2 := HRb.out (k + 1) (by rw [Hrl.out]; omega)
      have Hsu := HRs.out k (by rw [Hrl.out]; omega)
      rw [Hsu] at b2
      have Hs2 := Lib.hid Hsu
      clear Hsu
      generalize smT R k = SK at *
      generalize nth R k = RK at *
      go_wp2_with fail
      go_roundw
      case rel => exact ⟨k + 1, by omega, by go_num, by rw [Hs2.out], hb9⟩
      case measure => simp [intOf]; omega
    · obtain rfl : k = d := by omega
      have b1 := HRb.out k (by rw [Hrl.out]; omega)
      go_wp2_with fail
      generalize wr = w9 at *
      go_loopw [22, 24] (fun s i wr => ∃ q : Nat, q ≤ l.length ∧ i = .int .i64 q ∧ s = .int .i64 (smT (wsL l) q) ∧ Keeps w9 wr) (fun _ i _ => l.length - (intOf i).toNat)
      case atStart => exact ⟨0, Nat.zero_le _, rfl, rfl, Below.refl _ _⟩
      case round =>
        obtain ⟨q, hq, rfl, rfl, hb10⟩ := hrel
        by_cases hql : q < l.length
        · obtain ⟨y, hy⟩ : ∃ y, l[q]? = some y := ⟨_, List.getElem?_eq_getElem hql⟩
          obtain ⟨_, _, he, _, hcs⟩ := id (Hv3.out.below (hb9.next hb10))
          cases he
          obtain ⟨bo, oo, rfl, c1, c2, c3⟩ := hcs q y hy
          have hqI : (q : Int) < (l.length : Int) := by omega
          have b3 := HWb.out q (by rw [HWl.out]; omega)
          have b4 := HWb.out (q + 1) (by rw [HWl.out]; omega)
          have Hsu := HWs.out q (by rw [HWl.out]; omega)
          rw [Hl.out q y hy] at Hsu
          rw [Hsu] at b4
          have Hs2 := Lib.hid Hsu
          clear Hsu hcs c1 c2
          generalize smT (wsL l) q = SQ at *
          generalize y.2.2 = WQ at *
          clear hy
          go_wp2_with fail
          go_roundw
          case rel => exact ⟨q + 1, by omega, by go_num, by rw [Hs2.out], hb10⟩
          case measure => simp [intOf]; omega
        · obtain rfl : q = l.length := by omega
          have b3 := HWb.out l.length (by rw [HWl.out]; omega)
          have hfin : smT R k = 2 * smT (wsL l) l.length - 4 * V := by rw [HRS.out, HWS.out]; exact Hsum.out
          have Hb := Lib.hid (hb3.next (hb9.next hb10))
          generalize smT R k = SK at *
          generalize smT (wsL l) l.length = SQ at *
          have hfin2 : 2 * SQ - 4 * V = SK := by omega
          clear hfin
          go_wp2_with (go_at_call 14; refine (awake_c _).mono ?_; rintro e w10 ⟨rfl, hb11⟩)
          go_ret
          exact ⟨rfl, Hb.out.next hb11⟩
end Go.Proofs.Ytkecigfgggeleaa
