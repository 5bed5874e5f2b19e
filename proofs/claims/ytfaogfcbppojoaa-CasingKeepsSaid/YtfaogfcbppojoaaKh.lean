/- The walk of the reference's Keeps. -/
import Derived.Test.YtfaogfcbppojoaaKg
import Derived.Test.YtfaogfcbppojoaaKf
namespace Go.Proofs.Ytfaogfcbppojoaa
open Go.RowKit
set_option linter.unusedVariables false

set_option maxHeartbeats 2000000 in
set_option maxRecDepth 100000 in
theorem rkeeps_c (g : Int) (vr : Value) (rs : List ByteArray) (hG : groupB g rs = true) (v : Value) (T : List (List Int)) (hB : windB T = true) (w : World) (hr : RdS w vr rs) (hv : RdT w v T) :
    Calls Try.prog 22 #[.agg #[.int .i64 g, vr], v] w fun e w' => e = .returned (.bool (kpB g rs T)) ∧ Keeps w w' := by
  have hn1 := windW_nth1 T hB
  have h12 := (windB_parts T hB).1
  have h5 := (windB_parts T hB).2.2.1
  obtain ⟨bu, ou, cu, Au, cu0, rfl, hcu⟩ := rdT_head hB hv
  obtain ⟨A, c, rfl, hm, _⟩ := id hr
  unfold maxLen at hm
  have hgr := At.new w 30 #[.int .i64 g, .slice A rs.length c]
  have hk0 : Keeps w (w.alloc (.cells #[.int .i64 g, .slice A rs.length c] 30)) := Keeps.alloc (Below.refl _ w) _
  have hrX := hr.below hk0
  have hvX := hv.below hk0
  have hcX := cell_keep hcu hk0
  have hg0 := hgr.cell 0
  have hg1 := hgr.cell 1
  have hT0 : 0 < T.length := by omega
  have hTl : T.length ≤ 2 := by omega
  by_cases hng : (T.length : Int) = g
  · have hb1 : ((T.length : Int) != g) = false := by simp [hng]
    have hall := fun r (hr : r ∈ rs) => (show wordB g r.data.toList = true by
      simp only [groupB, Bool.and_eq_true, decide_eq_true_eq] at hG
      exact List.all_eq_true.1 hG.2.2 r hr)
    rw [← hng] at hall
    have Hkp := Lib.hid (show kpB g rs T = keepsB (windW T) rs by simp [kpB, hng])
    have Hall := Lib.hid hall
    have Hn1 := Lib.hid hn1
    clear hng hcu hv hr hall hn1 h12
    go_enter Try.func22, Try.ntmps22
    go_wp2_with fail
    generalize w.alloc (.cells #[.int .i64 g, .slice A rs.length c] 30) = X at *
    clear hg0
    go_loopw [5] (fun i wr => ∃ k : Nat, k ≤ rs.length ∧ i = .int .i64 k ∧ (rs.take k).all (krB (windW T) (shN T)) = true ∧ wr = X) (fun i _ => rs.length - (intOf i).toNat)
    case atStart => exact ⟨0, Nat.zero_le _, rfl, rfl, rfl⟩
    case round =>
      obtain ⟨k, hk, rfl, hal, e⟩ := hrel
      obtain rfl := e.symm
      have Hal := Lib.hid hal
      clear hal
      by_cases hlt : k < rs.length
      · obtain ⟨_, _, hv', _, hcs⟩ := id hrX
        cases hv'
        obtain ⟨b, off, u, rfl, hcell, r, hrk, rfl⟩ := hcs k hlt
        have Hrk := Lib.hid hrk
        have hwr := Hall.out r (List.mem_of_getElem? hrk)
        have hrok : r.data.toList.all (okL T.length) = true := by simp only [wordB, Bool.and_eq_true] at hwr; exact hwr.2
        have hrm : r.size ≤ maxLen := by
          simp only [wordB, Bool.and_eq_true, decide_eq_true_eq] at hwr
          have := hwr.1; simp at this; unfold maxLen; omega
        have hsd := fun s hs => rsend_c _ T hB X hvX s hs r hrm hrok
        clear hcs hrk hwr hrX
        go_wp2_with fail
        go_loopw [6] (fun i wr => ∃ j : Nat, j ≤ shN T ∧ i = .int .i64 j ∧ (List.range j).all (fun s : Nat => decide (snd (windW T) (s : Int) r.data.toList = s)) = true ∧ wr = X) (fun i _ => shN T - (intOf i).toNat)
        case atStart => exact ⟨0, Nat.zero_le _, rfl, rfl, rfl⟩
        case round =>
          obtain ⟨j, hj, rfl, hal2, e⟩ := hrel
          obtain rfl := e.symm
          have Hal2 := Lib.hid hal2
          clear hal2
          by_cases hjl : j < shN T
          · have hsj := (hsd j ⟨by omega, by omega⟩).mono (R' := fun e w' => e = .returned (.int .i64 (snd (windW T) j r.data.toList)) ∧ X = w') (fun _ _ h => ⟨h.1, h.2.symm⟩)
            clear hsd
            by_cases hsn : snd (windW T) (j : Int) r.data.toList = j
            · have hne : (snd (windW T) (j : Int) r.data.toList != (j : Int)) = false := by simp [hsn]
              have Hsn := Lib.hid hsn
              clear hsn
              go_wp2_with (go_at_call 20; refine hsj.mono ?_; rintro e w1 ⟨rfl, rfl⟩)
              go_roundw
              case rel => exact ⟨j + 1, by omega, by go_num, range_snoc j Hal2.out (by simpa using Hsn.out), by trivial⟩
              case measure => simp [intOf]; omega
            · have hne : (snd (windW T) (j : Int) r.data.toList != (j : Int)) = true := by simpa using hsn
              have Hf := Lib.hid (keepsB_no (windW T) rs k r Hrk.out (krB_no _ _ r j (by rw [Hn1.out]; omega) hsn))
              clear hsn
              go_wp2_with (go_at_call 20; refine hsj.mono ?_; rintro e w1 ⟨rfl, rfl⟩)
              go_ret
              exact ⟨ret_bool (by rw [Hkp.out, Hf.out]), hk0⟩
          · have Hj := Lib.hid (show j = shN T by omega)
            clear hsd
            go_wp2_with fail
            go_roundw
            case rel => exact ⟨k + 1, by omega, by go_num, take_all rs k r Hrk.out Hal.out (by have := Hal2.out; rw [Hj.out] at this; exact this), by trivial⟩
            case measure => simp [intOf]; omega
      · have Hk := Lib.hid (show k = rs.length by omega)
        go_wp2_with fail
        go_ret
        exact ⟨ret_bool (by
          have := Hal.out
          rw [Hk.out, List.take_length] at this
          rw [Hkp.out, keepsB, Hn1.out]
          exact this.symm), hk0⟩
  · have hb1 : ((T.length : Int) != g) = true := by simpa using hng
    have Hkp := Lib.hid (show kpB g rs T = false by simp [kpB, hng])
    clear hng hcu hv hr hn1 h12
    go_enter Try.func22, Try.ntmps22
    go_wp2_with fail
    go_ret
    exact ⟨ret_bool Hkp.out.symm, hk0⟩
end Go.Proofs.Ytfaogfcbppojoaa
