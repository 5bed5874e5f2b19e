/- The reference's Table. -/
import Derived.Test.YtikedhkibdeheaaKa
import Derived.Test.YtikedhkibdeheaaGw
namespace Go.Proofs.Ytikedhkibdeheaa
open Go.RowKit
set_option linter.unusedVariables false

theorem not_take (l : List Int) (i : Nat) (x : Int) (h : ∀ j, j < i → nth l j ≠ x) : x ∉ l.take i := by
  intro hx
  obtain ⟨j, hj, e⟩ := List.mem_iff_getElem.1 hx
  rw [List.length_take] at hj
  refine h j (by omega) ?_
  rw [← e, List.getElem_take]
  simp [nth, List.getElem?_eq_getElem (show j < l.length by omega)]
theorem take_mem (l : List Int) (i j : Nat) (hj : j < i) (hi : i < l.length) : nth l j ∈ l.take i := by
  rw [List.mem_iff_getElem]
  refine ⟨j, by rw [List.length_take]; omega, ?_⟩
  rw [List.getElem_take]
  simp [nth, List.getElem?_eq_getElem (show j < l.length by omega)]

set_option maxHeartbeats 4000000 in
set_option maxRecDepth 100000 in
theorem rtable_1 (b0 off0 c0 : Nat) (t : List (List Int)) (d : Nat) (w : World) (hv : RdT w (.slice (some ⟨b0, off0, none⟩) t.length c0) t) (hL : t.length = 1 ∨ t.length = 2) (hd0 : (t[0]?.getD []).length = d) :
    Calls Try.prog 26 #[.slice (some ⟨b0, off0, none⟩) t.length c0] w fun e w' => e = .returned (.bool (windB t)) ∧ ∃ m, w' = w.drewN m := by
  obtain ⟨_, _, hv', hm, hcs⟩ := id hv
  cases hv'
  obtain ⟨b1, off1, u0, hA0, hcell00, l0, hl0, hr0⟩ := hcs 0 (by omega)
  cases hA0
  obtain ⟨A0, k0, rfl, hm0, hc0⟩ := id hr0
  have hld : l0.length = d := by rw [hl0] at hd0; exact hd0
  have hL0 : lettersB t.length = true := by simp [lettersB]; omega
  have H0 := Lib.hid hd0
  have HL0 := Lib.hid hL0
  rw [hld, Nat.add_zero] at hcell00
  have t1 : decide ((t.length : Int) < 1) = false := by simp; omega
  have t2 : decide ((2 : Int) < t.length) = false := by simp; omega
  have t3 : 1 ≤ t.length := by omega
  have t4 : t.length ≤ 2 := by omega
  have t5 : 0 < t.length := by omega
  have hdm : d ≤ maxLen := by rw [← hld]; exact hm0
  unfold maxLen at hdm
  clear hL hd0 hL0 hr0 hc0 hm0 hld hl0 hv
  by_cases hS : 1 ≤ d ∧ d ≤ 5
  · obtain ⟨d1, d5⟩ := hS
    have HS := Lib.hid (show sheetsB d = true by simp [sheetsB]; omega)
    have e1 : decide ((d : Int) < 1) = false := by simp; omega
    have e2 : decide ((5 : Int) < d) = false := by simp; omega
    go_enter Try.func26, Try.ntmps26
    go_wp2_with fail
    go_loopw [4] (fun i wr => ∃ k : Nat, k ≤ t.length ∧ i = .int .i64 k ∧ (t.take k).all (colB d) = true ∧ ∃ m, wr = w.drewN m) (fun i _ => t.length - (intOf i).toNat)
    case atStart => exact ⟨0, Nat.zero_le _, rfl, rfl, 0, rfl⟩
    case round =>
      obtain ⟨k, hk, rfl, hall, m, rfl⟩ := hrel
      have Hall := Lib.hid hall
      clear hall
      by_cases hlt : k < t.length
      · obtain ⟨b2, off2, u2, hA2, hcell2, l, hlk, hrl⟩ := hcs k hlt
        cases hA2
        obtain ⟨A2, c2, rfl, hm2, hc2⟩ := id hrl
        have Hlk := Lib.hid hlk
        unfold maxLen at hm2
        clear hcs hlk hrl
        by_cases hln : l.length = d
        · have hne : ((l.length : Int) != (d : Int)) = false := by simp [hln]
          have Hln := Lib.hid hln
          have hdl : d ≤ l.length := by omega
          have hdl2 : l.length ≤ d := by omega
          clear hln
          go_wp2_with fail
          go_loopw [5] (fun i wr => ∃ q : Nat, q ≤ d ∧ i = .int .i64 q ∧ (l.take q).all (hasB d) = true ∧ (l.take q).Nodup ∧ ∃ m, wr = w.drewN m) (fun i _ => d - (intOf i).toNat)
          case atStart => exact ⟨0, Nat.zero_le _, rfl, rfl, by simp, m, rfl⟩
          case round =>
            obtain ⟨q, hq, rfl, hal, hnd, m2, rfl⟩ := hrel
            have Hal := Lib.hid hal
            have Hnd := Lib.hid hnd
            clear hal hnd
            by_cases hql : q < d
            · obtain ⟨b3, off3, u3, rfl, hcell3, rfl⟩ := hc2 q (by omega)
              have hql2 : q < l.length := by omega
              by_cases hh : hasB d (nth l q) = true
              · obtain ⟨x0, x1⟩ := (hasB_iff _ _).1 hh
                have Hh := Lib.hid hh
                clear hh
                have y1 : decide (nth l q < 0) = false := by simp; omega
                have y2 : decide ((d : Int) ≤ nth l q) = false := by simp; omega
                go_wp2_with fail
                go_loopw [6] (fun i wr => ∃ j : Nat, j ≤ q ∧ i = .int .i64 j ∧ (∀ r, r < j → nth l r ≠ nth l q) ∧ ∃ m, wr = w.drewN m) (fun i _ => q - (intOf i).toNat)
                case atStart => exact ⟨0, Nat.zero_le _, rfl, fun r hr => by omega, m2, rfl⟩
                case round =>
                  obtain ⟨j, hj, rfl, hne3, m3, rfl⟩ := hrel
                  have Hne3 := Lib.hid hne3
                  clear hne3
                  by_cases hjl : j < q
                  · obtain ⟨b4, off4, u4, hA4, hcell4, rfl⟩ := hc2 j (by omega)
                    cases hA4
                    have hjl2 : j < l.length := by omega
                    clear hc2
                    by_cases hx : nth l j = nth l q
                    · have hxb : (nth l j == nth l q) = true := by simp [hx]
                      have Hf := Lib.hid (show windB t = false from windB_col t k l Hlk.out (by rw [H0.out]; exact colB_twice _ _ q hql2 (by rw [← hx]; exact take_mem l q j hjl hql2)))
                      clear hx
                      go_wp2_with fail
                      go_quiet (fail)
                      go_wp2_with fail
                      go_ret
                      exact ⟨ret_bool Hf.out.symm, m3 + nq, World.drewN_drewN _ _ _⟩
                    · have hxb : (nth l j == nth l q) = false := by simpa using hx
                      have Hx := Lib.hid hx
                      clear hx
                      go_wp2_with fail
                      go_quiet (fail)
                      go_wp2_with fail
                      go_roundw
                      case rel => exact ⟨j + 1, by omega, by go_num, fun r hr => (by
                        by_cases h : r < j
                        · exact Hne3.out r h
                        · rw [show r = j by omega]; exact Hx.out), m3 + nq, by first | rfl | exact World.drewN_drewN _ _ _⟩
                      case measure => simp [intOf]; omega
                  · have Hjq := Lib.hid (show j = q by omega)
                    clear hc2
                    go_wp2_with fail
                    go_roundw
                    case rel => exact ⟨q + 1, by omega, by go_num, all_nth _ _ q hql2 Hal.out Hh.out, nodup_nth _ q hql2 Hnd.out (not_take l q _ (fun r hr => Hne3.out r (by rw [Hjq.out]; exact hr))), m3, rfl⟩
                    case measure => simp [intOf]; omega
              · have hh' : hasB d (nth l q) = false := by simpa using hh
                have Hf := Lib.hid (show windB t = false from windB_col t k l Hlk.out (by rw [H0.out]; exact colB_has _ _ q hql2 hh'))
                have hcase : nth l q < 0 ∨ (0 ≤ nth l q ∧ (d : Int) ≤ nth l q) := by
                  by_cases hneg : nth l q < 0
                  · exact .inl hneg
                  · refine .inr ⟨by omega, ?_⟩
                    by_cases h2 : nth l q < d
                    · exact absurd ((hasB_iff _ _).2 ⟨by omega, h2⟩) hh
                    · omega
                clear hh hh' hc2
                rcases hcase with hn | ⟨hn1, hn2⟩
                · go_wp2_with fail
                  go_ret
                  exact ⟨ret_bool Hf.out.symm, m2, rfl⟩
                · go_wp2_with fail
                  go_ret
                  exact ⟨ret_bool Hf.out.symm, m2, rfl⟩
            · have Hqd := Lib.hid (show q = d by omega)
              clear hc2
              go_wp2_with fail
              go_roundw
              case rel => exact ⟨k + 1, by omega, by go_num, take_all t k l Hlk.out Hall.out (colB_yes _ _ (by rw [Hln.out]) (by have := Hal.out; rwa [List.take_of_length_le (by rw [Hqd.out]; exact hdl2)] at this) (by have := Hnd.out; rwa [List.take_of_length_le (by rw [Hqd.out]; exact hdl2)] at this)), m2, rfl⟩
              case measure => simp [intOf]; omega
        · have hne : ((l.length : Int) != (d : Int)) = true := by simp; omega
          have Hf := Lib.hid (show windB t = false from windB_col t k l Hlk.out (by rw [H0.out]; simp [colB]; intro h; omega))
          clear hln hc2
          go_wp2_with fail
          go_ret
          exact ⟨ret_bool Hf.out.symm, m, rfl⟩
      · have Hkl := Lib.hid (show k = t.length by omega)
        clear hcs
        go_wp2_with fail
        go_ret
        exact ⟨ret_bool (windB_yes t d HL0.out (by rw [H0.out]) HS.out (by have := Hall.out; rwa [List.take_of_length_le (by rw [Hkl.out]; exact Nat.le_refl _)] at this)).symm, m, rfl⟩
  · have Hf := Lib.hid (show windB t = false by simp [windB, H0.out, sheetsB]; intro _ _ h; omega)
    have hne : ((d : Int) != (d : Int)) = false := by simp
    have hcase : (d : Int) < 1 ∨ (1 ≤ (d : Int) ∧ (5 : Int) < d) := by omega
    clear hS hcs
    rcases hcase with hn | ⟨hn1, hn2⟩
    all_goals
      go_enter Try.func26, Try.ntmps26
      go_wp2_with fail
      go_loopw [4] (fun i wr => i = .int .i64 0 ∧ wr = w) (fun i _ => 0)
      case atStart => exact ⟨rfl, rfl⟩
      case round =>
        obtain ⟨rfl, rfl⟩ := hrel
        go_wp2_with fail
        go_ret
        exact ⟨ret_bool Hf.out.symm, 0, rfl⟩

set_option maxHeartbeats 1000000 in
theorem rtable_c (v : Value) (t : List (List Int)) (w : World) (hv : RdT w v t) :
    Calls Try.prog 26 #[v] w fun e w' => e = .returned (.bool (windB t)) ∧ ∃ m, w' = w.drewN m := by
  obtain ⟨A, c, rfl, hm, hcs⟩ := id hv
  by_cases hL : t.length = 1 ∨ t.length = 2
  · obtain ⟨b, off, u, rfl, _⟩ := hcs 0 (by omega)
    exact rtable_1 b off c t _ w hv hL rfl
  · have Hf := Lib.hid (show windB t = false by simp [windB, lettersB]; intro h; omega)
    unfold maxLen at hm
    have hcase : (t.length : Int) < 1 ∨ (1 ≤ (t.length : Int) ∧ (2 : Int) < t.length) := by omega
    clear hL hcs hv
    rcases hcase with hn | ⟨hn1, hn2⟩
    all_goals
      go_enter Try.func26, Try.ntmps26
      go_wp2_with fail
      go_ret
      exact ⟨ret_bool Hf.out.symm, 0, rfl⟩
end Go.Proofs.Ytikedhkibdeheaa
