/- The reference's Group. -/
import Derived.Test.YtfaogfcbppojoaaJb
namespace Go.Proofs.Ytfaogfcbppojoaa
open Go.RowKit

theorem redB_eq (g : Int) (s : ByteArray) (hg : g = 1 ∨ g = 2) : redB g s = wordB g s.data.toList := by
  rcases hg with rfl | rfl <;> simp [redB, lettersB]
set_option maxHeartbeats 2000000 in
theorem rgroup_yes (g : Int) (hg : g = 1 ∨ g = 2) (A : Option Addr) (c : Nat) (rules : List ByteArray) (hz : szOk rules) (w : World) (hv : RdS w (.slice A rules.length c) rules) (h6 : rules.length ≤ 6) :
    Calls Try.prog 14 #[.agg #[.int .i64 g, .slice A rules.length c]] w fun e w' => e = .returned (.bool (groupB g rules)) ∧ Keeps w w' := by
  obtain ⟨_, _, hv', hm, hcs⟩ := id hv
  cases hv'
  have h6' : decide ((6 : Int) < rules.length) = false := by simp; omega
  have g1 : decide (g < 1) = false := by simp; omega
  have g2 : decide (2 < g) = false := by simp; omega
  have hg1 : 1 ≤ g := by omega
  have hg2 : g ≤ 2 := by omega
  clear hm
  have Hg := Lib.hid hg
  clear hg
  go_enter Try.func14, Try.ntmps14
  go_wp2_with fail
  go_loopw [3] (fun i wr => ∃ k : Nat, k ≤ rules.length ∧ i = .int .i64 k ∧ At wr w.heap.size 30 #[.int .i64 g, .slice A rules.length c] ∧ ((rules.take k).all fun r => wordB g r.data.toList) = true ∧ Below w.heap.size w wr) (fun i _ => rules.length - (intOf i).toNat)
  case atStart => exact ⟨0, Nat.zero_le _, rfl, At.new _ _ _, rfl, Keeps.alloc (Below.refl _ _) _⟩
  case round =>
    obtain ⟨k, hk, rfl, hbw, hall, hb⟩ := hrel
    have hc0 : wr.cell? ⟨w.heap.size, 0, none⟩ = some (.int .i64 g) := hbw.cell 0
    have hc1 : wr.cell? ⟨w.heap.size, 1, none⟩ = some (.slice A rules.length c) := hbw.cell 1
    by_cases hlt : k < rules.length
    · obtain ⟨b, off, u, rfl, hcell0, r, hrk, rfl⟩ := hcs k hlt
      have hcell := cell_keep hcell0 hb
      have Hrk := Lib.hid hrk
      have Hall := Lib.hid hall
      have hrz := hz r (List.mem_of_getElem? hrk)
      have hwc := fun x => rword_c g r hrz x
      have hre := redB_eq g r Hg.out
      clear hcs hcell0 hrk hall
      by_cases hwd : wordB g r.data.toList = true
      · rw [hre, hwd] at hwc
        clear hre
        go_wp2_with fail
        go_quiet ((go_at_call 9; exact Calls.quiet_of_same (hwc _)))
        go_wp2_with fail
        go_roundw
        case rel => exact ⟨k + 1, by omega, by go_num, hbw, take_all rules k r Hrk.out Hall.out hwd, below_drewN hb⟩
        case measure => simp [intOf]; omega
      · have hwd' : wordB g r.data.toList = false := by simpa using hwd
        have Hf := Lib.hid (groupB_no g rules k r Hrk.out hwd')
        rw [hre, hwd'] at hwc
        clear hre
        go_wp2_with fail
        go_quiet ((go_at_call 9; exact Calls.quiet_of_same (hwc _)))
        go_wp2_with fail
        go_ret
        exact ⟨ret_bool Hf.out.symm, below_drewN hb⟩
    · have Hall := Lib.hid hall
      clear hall
      go_wp2_with fail
      go_ret
      exact ⟨ret_bool (groupB_yes g rules (by rcases Hg.out with rfl | rfl <;> rfl) h6 (by have := Hall.out; rwa [List.take_of_length_le (by omega)] at this)).symm, hb⟩
set_option maxHeartbeats 1000000 in
theorem rgroup_c (g : Int) (v : Value) (rules : List ByteArray) (hz : szOk rules) (w : World) (hv : RdS w v rules) :
    Calls Try.prog 14 #[.agg #[.int .i64 g, v]] w fun e w' => e = .returned (.bool (groupB g rules)) ∧ Keeps w w' := by
  obtain ⟨A, c, rfl, hm, _⟩ := id hv
  unfold maxLen at hm
  by_cases hg : g = 1 ∨ g = 2
  · by_cases h6 : rules.length ≤ 6
    · exact rgroup_yes g hg A c rules hz w hv h6
    · have h6' : decide ((6 : Int) < rules.length) = true := by simp; omega
      have g1 : decide (g < 1) = false := by simp; omega
      have g2 : decide (2 < g) = false := by simp; omega
      have hg1 : 1 ≤ g := by omega
      have hg2 : g ≤ 2 := by omega
      have Hf := Lib.hid (show groupB g rules = false by simp [groupB, h6])
      clear hg
      go_enter Try.func14, Try.ntmps14
      go_wp2_with fail
      go_ret
      exact ⟨ret_bool Hf.out.symm, Keeps.alloc (Below.refl _ _) _⟩
  · have Hf := Lib.hid (show groupB g rules = false by simp [groupB, lettersB, hg])
    by_cases hg1 : g < 1
    · clear hg
      go_enter Try.func14, Try.ntmps14
      go_wp2_with fail
      go_ret
      exact ⟨ret_bool Hf.out.symm, Keeps.alloc (Below.refl _ _) _⟩
    · have hg2 : 2 < g := by omega
      have hg3 : 1 ≤ g := by omega
      clear hg hg1
      go_enter Try.func14, Try.ntmps14
      go_wp2_with fail
      go_ret
      exact ⟨ret_bool Hf.out.symm, Keeps.alloc (Below.refl _ _) _⟩
end Go.Proofs.Ytfaogfcbppojoaa
