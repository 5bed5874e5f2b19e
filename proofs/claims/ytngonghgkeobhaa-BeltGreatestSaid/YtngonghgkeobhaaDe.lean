/- The reference's Graph. -/
import Derived.Test.YtngonghgkeobhaaDd
namespace Go.Proofs.Ytngonghgkeobhaa
open Go.RowKit Go.Shelf
set_option linter.unusedVariables false
set_option linter.unusedSimpArgs false

set_option maxHeartbeats 4000000 in
set_option maxRecDepth 100000 in
theorem rgraph_c (n : Int) (v : Value) (l : List Ed) (hl : l.length ≤ 41) (w : World) (hv : RdE w v l) :
    Calls Try.prog 20 #[.int .i64 n, v] w fun e w' => e = .returned (.bool (graphB n l)) ∧ ∃ m, w' = w.drewN m := by
  obtain ⟨A, c, rfl, hm, hcs⟩ := id hv
  by_cases h1 : n < 1
  · have d1 : decide (n < 1) = true := by simpa using h1
    have hg : graphB n l = false := by unfold graphB; rw [decide_eq_false (by omega), Bool.false_and]
    have HG := Lib.hid hg
    clear hg h1 hcs hv
    go_enter Try.func20, Try.ntmps20
    go_wp2_with fail
    go_ret
    exact ⟨ret_bool HG.out.symm, 0, rfl⟩
  have d1 : decide (n < 1) = false := by simpa using h1
  by_cases h2 : 12 < n
  · have d2 : decide (12 < n) = true := by simpa using h2
    have hg : graphB n l = false := by unfold graphB; rw [decide_eq_false (by omega), Bool.false_and]
    have HG := Lib.hid hg
    clear hg h1 h2 hcs hv
    go_enter Try.func20, Try.ntmps20
    go_wp2_with fail
    go_ret
    exact ⟨ret_bool HG.out.symm, 0, rfl⟩
  have d2 : decide (12 < n) = false := by simpa using h2
  by_cases h3 : (40 : Int) < l.length
  · have d3 : decide ((40 : Int) < l.length) = true := by simpa using h3
    have hg : graphB n l = false := by unfold graphB; rw [decide_eq_true (by omega), decide_eq_false (show ¬ l.length ≤ 40 by omega)]; rfl
    have HG := Lib.hid hg
    clear hg h1 h2 h3 hcs hv
    go_enter Try.func20, Try.ntmps20
    go_wp2_with fail
    go_ret
    exact ⟨ret_bool HG.out.symm, 0, rfl⟩
  have d3 : decide ((40 : Int) < l.length) = false := by simpa using h3
  have hgl : graphB n l = goodK n l l.length := by unfold graphB; rw [decide_eq_true (by omega), decide_eq_true (show l.length ≤ 40 by omega)]; rfl
  rw [hgl]
  clear hgl
  have hl40 : l.length ≤ 40 := by omega
  go_enter Try.func20, Try.ntmps20
  go_wp2_with fail
  go_loopw [5] (fun i wr => ∃ k : Nat, k ≤ l.length ∧ goodK n l k = true ∧ i = .int .i64 k ∧ ∃ m, wr = w.drewN m) (fun i _ => l.length - (intOf i).toNat)
  case atStart => exact ⟨0, Nat.zero_le _, rfl, rfl, 0, rfl⟩
  case round =>
    obtain ⟨k, hk, hgk, rfl, m0, rfl⟩ := hrel
    clear d1 d2 d3
    by_cases hlt : k < l.length
    · obtain ⟨x, hx⟩ : ∃ x, l[k]? = some x := ⟨_, List.getElem?_eq_getElem hlt⟩
      obtain ⟨b, off, rfl, c1, c2, c3⟩ := hcs k x hx
      have hgs : goodK n l (k + 1) = (edgeB n x && !dupK l x.1 x.2.1 k) := by
        show (goodK n l k && match l[k]? with | some x => edgeB n x && !dupK l x.1 x.2.1 k | none => true) = _
        rw [hgk, hx, Bool.true_and]
      have nogo : edgeB n x = false → goodK n l l.length = false := fun h => goodK_fall n l (k + 1) (by rw [hgs, h, Bool.false_and]) _ (by omega)
      have hkI : (k : Int) < (l.length : Int) := by omega
      have Hgs := Lib.hid hgs
      have Hx := Lib.hid hx
      clear hgs hx hgk
      by_cases a1 : x.1 < 0
      · have e1 : decide (x.1 < 0) = true := by simpa using a1
        have hgb := nogo (by simp [edgeB]; omega)
        have HG := Lib.hid hgb
        clear hgb nogo
        go_wp2_with fail
        go_quiet (fail)
        go_wp2_with fail
        go_ret
        exact ⟨ret_bool HG.out.symm, _, World.drewN_drewN _ _ _⟩
      have e1 : decide (x.1 < 0) = false := by simpa using a1
      by_cases a2 : x.2.1 ≤ x.1
      · have e2 : decide (x.2.1 ≤ x.1) = true := by simpa using a2
        have hgb := nogo (by simp [edgeB]; omega)
        have HG := Lib.hid hgb
        clear hgb nogo
        go_wp2_with fail
        go_quiet (fail)
        go_wp2_with fail
        go_ret
        exact ⟨ret_bool HG.out.symm, _, World.drewN_drewN _ _ _⟩
      have e2 : decide (x.2.1 ≤ x.1) = false := by simpa using a2
      by_cases a3 : n ≤ x.2.1
      · have e3 : decide (n ≤ x.2.1) = true := by simpa using a3
        have hgb := nogo (by simp [edgeB]; omega)
        have HG := Lib.hid hgb
        clear hgb nogo
        go_wp2_with fail
        go_quiet (fail)
        go_wp2_with fail
        go_ret
        exact ⟨ret_bool HG.out.symm, _, World.drewN_drewN _ _ _⟩
      have e3 : decide (n ≤ x.2.1) = false := by simpa using a3
      by_cases a4 : x.2.2 < -50
      · have e4 : decide (x.2.2 < -50) = true := by simpa using a4
        have hgb := nogo (by simp [edgeB]; omega)
        have HG := Lib.hid hgb
        clear hgb nogo
        go_wp2_with fail
        go_quiet (fail)
        go_wp2_with fail
        go_ret
        exact ⟨ret_bool HG.out.symm, _, World.drewN_drewN _ _ _⟩
      have e4 : decide (x.2.2 < -50) = false := by simpa using a4
      by_cases a5 : 50 < x.2.2
      · have e5 : decide (50 < x.2.2) = true := by simpa using a5
        have hgb := nogo (by simp [edgeB]; omega)
        have HG := Lib.hid hgb
        clear hgb nogo
        go_wp2_with fail
        go_quiet (fail)
        go_wp2_with fail
        go_ret
        exact ⟨ret_bool HG.out.symm, _, World.drewN_drewN _ _ _⟩
      have e5 : decide (50 < x.2.2) = false := by simpa using a5
      have hE : edgeB n x = true := by simp [edgeB]; omega
      have HE := Lib.hid hE
      clear hE nogo
      go_wp2_with fail
      go_quiet (fail)
      go_wp2_with fail
      obtain ⟨m1, hm1⟩ : ∃ m1, (w.drewN m0).drewN nq = w.drewN m1 := ⟨_, World.drewN_drewN _ _ _⟩
      rw [hm1]
      clear hm1 e1 e2 e3 e4 e5
      go_loopw [6] (fun j wr => ∃ q : Nat, q ≤ k ∧ dupK l x.1 x.2.1 q = false ∧ j = .int .i64 q ∧ ∃ m, wr = w.drewN m) (fun j _ => l.length - (intOf j).toNat)
      case atStart => exact ⟨0, Nat.zero_le _, rfl, rfl, m1, rfl⟩
      case round =>
        obtain ⟨q, hq, hdq, rfl, m2, rfl⟩ := hrel
        by_cases hqt : q < k
        · obtain ⟨y, hy⟩ : ∃ y, l[q]? = some y := ⟨_, List.getElem?_eq_getElem (by omega)⟩
          obtain ⟨b', off', hA, y1, y2, y3⟩ := hcs q y hy
          cases hA
          have hqI : (q : Int) < (k : Int) := by omega
          have hqI2 : (q : Int) < (l.length : Int) := by omega
          have hds : dupK l x.1 x.2.1 (q + 1) = (dupK l x.1 x.2.1 q || decide (y.1 = x.1 ∧ y.2.1 = x.2.1)) := by
            unfold dupK; rw [take_at l q y hy, List.any_append]; simp
          rw [hdq, Bool.false_or] at hds
          have Hds := Lib.hid hds
          clear hds hy hdq
          by_cases g1 : y.1 = x.1
          · have f1 : (y.1 == x.1) = true := by simp [g1]
            by_cases g2 : y.2.1 = x.2.1
            · have f2 : (y.2.1 == x.2.1) = true := by simp [g2]
              have hgb : goodK n l l.length = false := goodK_fall n l (k + 1) (by
                rw [Hgs.out]
                have : dupK l x.1 x.2.1 k = true := by
                  have h5 : dupK l x.1 x.2.1 (q + 1) = true := by rw [Hds.out]; simp [g1, g2]
                  unfold dupK at h5 ⊢
                  obtain ⟨z, hz, hz2⟩ := List.any_eq_true.1 h5
                  exact List.any_eq_true.2 ⟨z, (List.take_subset_take_left l (by omega)) hz, hz2⟩
                rw [this]; simp) _ (by omega)
              have HG := Lib.hid hgb
              clear hgb g1 g2
              go_wp2_with fail
              go_quiet (fail)
              go_wp2_with fail
              go_ret
              exact ⟨ret_bool HG.out.symm, _, World.drewN_drewN _ _ _⟩
            · have f2 : (y.2.1 == x.2.1) = false := by simp [g2]
              have hdf : dupK l x.1 x.2.1 (q + 1) = false := by rw [Hds.out]; simp [g2]
              have Hdf := Lib.hid hdf
              clear hdf g1 g2
              go_wp2_with fail
              go_quiet (fail)
              go_wp2_with fail
              go_roundw
              case rel => exact ⟨q + 1, by omega, Hdf.out, by go_num, _, rfl⟩
              case measure => simp [intOf]; omega
          · have f1 : (y.1 == x.1) = false := by simp [g1]
            have hdf : dupK l x.1 x.2.1 (q + 1) = false := by rw [Hds.out]; simp [g1]
            have Hdf := Lib.hid hdf
            clear hdf g1
            go_wp2_with fail
            go_quiet (fail)
            go_wp2_with fail
            go_roundw
            case rel => exact ⟨q + 1, by omega, Hdf.out, by go_num, _, rfl⟩
            case measure => simp [intOf]; omega
        · obtain rfl : q = k := by omega
          have hg1 : goodK n l (q + 1) = true := by rw [Hgs.out, HE.out, hdq]; rfl
          have Hg1 := Lib.hid hg1
          clear hg1 hdq
          go_wp2_with fail
          go_roundw
          case rel => exact ⟨q + 1, by omega, Hg1.out, by go_num, _, rfl⟩
          case measure => simp [intOf]; omega
    · obtain rfl : k = l.length := by omega
      have Hgk := Lib.hid hgk
      clear hgk hcs hv
      go_wp2_with fail
      go_ret
      exact ⟨ret_bool Hgk.out.symm, _, rfl⟩
end Go.Proofs.Ytngonghgkeobhaa
