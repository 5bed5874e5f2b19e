/- The walk of isGroup. -/
import Derived.Test.YtikedhkibdeheaaCb
import Derived.Test.YtikedhkibdeheaaCa
namespace Go.Proofs.Ytikedhkibdeheaa
open Go.RowKit

set_option maxHeartbeats 2000000 in
theorem isGroup_yes (g : Int) (A : Option Addr) (c : Nat) (rules : List ByteArray) (hz : szOk rules) (w : World) (hv : RdS w (.slice A rules.length c) rules) (hL : lettersB g = true) (h6 : rules.length ≤ 6) :
    Calls Try.prog 35 #[.agg #[.int .i64 g, .slice A rules.length c]] w fun e w' => e = .returned (.bool (groupB g rules)) ∧ Keeps w w' := by
  have hg : g = 1 ∨ g = 2 := by simpa [lettersB] using hL
  obtain ⟨_, _, hv, hm, hcs⟩ := id hv
  cases hv
  have h6' : decide ((6 : Int) < rules.length) = false := by simp; omega
  clear hm
  go_enter Try.func35, Try.ntmps35
  go_wp2_with (go_at_call 60; refine (isLetters_c _ _).mono ?_; rintro e w1 ⟨rfl, rfl⟩)
  go_loopw [18] (fun i wr => ∃ k : Nat, k ≤ rules.length ∧ i = .int .i64 k ∧ At wr w.heap.size 25 #[.int .i64 g, .slice A rules.length c] ∧ ((rules.take k).all fun r => wordB g r.data.toList) = true ∧ Below w.heap.size w wr) (fun i _ => rules.length - (intOf i).toNat)
  case atStart => exact ⟨0, Nat.zero_le _, rfl, At.new _ _ _, rfl, Keeps.alloc (Below.refl _ _) _⟩
  case round =>
    obtain ⟨k, hk, rfl, hbw, hall, hb⟩ := hrel
    by_cases hlt : k < rules.length
    · obtain ⟨b, off, u, rfl, hcell0, r, hrk, rfl⟩ := hcs k hlt
      have hcell := cell_keep hcell0 hb
      have hc0 : wr.cell? ⟨w.heap.size, 0, none⟩ = some (.int .i64 g) := hbw.cell 0
      have Hrk := Lib.hid hrk
      have Hall := Lib.hid hall
      have hrz := hz r (List.mem_of_getElem? hrk)
      clear hcs hcell0 hrk hall
      by_cases hwd : wordB g r.data.toList = true
      · go_wp2_with (go_at_call 58; refine (isWord_c g hg r _ hrz).mono ?_; rintro e w1 ⟨rfl, hb1⟩)
        go_roundw
        case rel => exact ⟨k + 1, by omega, by go_num, hbw.later hb1, take_all rules k r Hrk.out Hall.out hwd, Keeps.next hb hb1⟩
        case measure => simp [intOf]; omega
      · have hwd' : wordB g r.data.toList = false := by simpa using hwd
        have Hf := Lib.hid (groupB_no g rules k r Hrk.out hwd')
        go_wp2_with (go_at_call 58; refine (isWord_c g hg r _ hrz).mono ?_; rintro e w1 ⟨rfl, hb1⟩)
        go_ret
        exact ⟨ret_bool Hf.out.symm, Keeps.next hb hb1⟩
    · have Hall := Lib.hid hall
      clear hall
      go_wp2_with fail
      go_ret
      exact ⟨ret_bool (groupB_yes g rules hL h6 (by have := Hall.out; rwa [List.take_of_length_le (by omega)] at this)).symm, hb⟩

set_option maxHeartbeats 1000000 in
theorem isGroup_c (g : Int) (v : Value) (rules : List ByteArray) (hz : szOk rules) (w : World) (hv : RdS w v rules) :
    Calls Try.prog 35 #[.agg #[.int .i64 g, v]] w fun e w' => e = .returned (.bool (groupB g rules)) ∧ Keeps w w' := by
  obtain ⟨A, c, rfl, hm, _⟩ := id hv
  unfold maxLen at hm
  by_cases hL : lettersB g = true
  · by_cases h6 : rules.length ≤ 6
    · exact isGroup_yes g A c rules hz w hv hL h6
    · have h6' : decide ((6 : Int) < rules.length) = true := by simp; omega
      have Hf := Lib.hid (show groupB g rules = false by simp [groupB, h6])
      go_enter Try.func35, Try.ntmps35
      go_wp2_with (go_at_call 60; refine (isLetters_c _ _).mono ?_; rintro e w1 ⟨rfl, rfl⟩)
      go_ret
      exact ⟨ret_bool Hf.out.symm, Keeps.alloc (Below.refl _ _) _⟩
  · have hL' : lettersB g = false := by simpa using hL
    have Hf := Lib.hid (show groupB g rules = false by simp [groupB, hL'])
    go_enter Try.func35, Try.ntmps35
    go_wp2_with (go_at_call 60; refine (isLetters_c _ _).mono ?_; rintro e w1 ⟨rfl, rfl⟩)
    go_ret
    exact ⟨ret_bool Hf.out.symm, Keeps.alloc (Below.refl _ _) _⟩
end Go.Proofs.Ytikedhkibdeheaa
