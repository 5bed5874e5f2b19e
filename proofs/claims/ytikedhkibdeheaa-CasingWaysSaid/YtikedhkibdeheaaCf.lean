/- The walk of keeps. -/
import Derived.Test.YtikedhkibdeheaaCe
import Derived.Test.YtikedhkibdeheaaCa
namespace Go.Proofs.Ytikedhkibdeheaa
open Go.RowKit

set_option maxHeartbeats 2000000 in
set_option maxRecDepth 100000 in
theorem keeps_c (W : List Int) (hW : wok W) (hd : 0 ≤ nth W 1 ∧ nth W 1 ≤ 5) (v : Value) (rules : List ByteArray) (hr : wordsOk rules) (w : World) (hv : RdS w v rules) :
    Calls Try.prog 63 #[.agg (ic W), v] w fun e w' => e = .returned (.bool (keepsB W rules)) ∧ Keeps w w' := by
  obtain ⟨A, c, rfl, hm, hcs⟩ := id hv
  unfold maxLen at hm
  obtain ⟨hd0, hd5⟩ := hd
  go_enter Try.func63, Try.ntmps63
  go_wp2_with fail
  go_loopw [10] (fun i wr => ∃ k : Nat, k ≤ rules.length ∧ i = .int .i64 k ∧ At wr w.heap.size 78 (ic W) ∧ (rules.take k).all (krB W (nth W 1).toNat) = true ∧ Below w.heap.size w wr) (fun i _ => rules.length - (intOf i).toNat)
  case atStart => exact ⟨0, Nat.zero_le _, rfl, At.new _ _ _, rfl, Keeps.alloc (Below.refl _ _) _⟩
  case round =>
    obtain ⟨k, hk, rfl, hbw, hall, hb⟩ := hrel
    by_cases hlt : k < rules.length
    · obtain ⟨b, off, u, rfl, hcell0, r, hrk, rfl⟩ := hcs k hlt
      have hcell := cell_keep hcell0 hb
      have hc1 := hbw.int 1 (by rw [hW.1]; omega)
      have hr1 := hr r (List.mem_of_getElem? hrk)
      have Hrk := Lib.hid hrk
      have Hall := Lib.hid hall
      have Hr1 := Lib.hid hr1
      obtain ⟨wo, hwo⟩ : ∃ wo : World, wo = wr := ⟨_, rfl⟩
      subst hwo
      clear hcs hcell0 hrk hall hr1
      go_wp2_with fail
      go_loopw [16] (fun i wr => ∃ j : Nat, (j : Int) ≤ nth W 1 ∧ i = .int .i64 j ∧ At wr w.heap.size 78 (ic W) ∧ (List.range j).all (fun s : Nat => decide (snd W (s : Int) r.data.toList = s)) = true ∧ Below w.heap.size w wr) (fun i _ => (nth W 1).toNat - (intOf i).toNat)
      case atStart => exact ⟨0, by simpa using hd0, rfl, hbw, rfl, hb⟩
      case round =>
        obtain ⟨j, hj, rfl, hbw2, hall2, hb2⟩ := hrel
        have Hall2 := Lib.hid hall2
        clear hall2
        by_cases hjl : (j : Int) < nth W 1
        · by_cases hsn : snd W (j : Int) r.data.toList = j
          · have hne : (snd W (j : Int) r.data.toList != (j : Int)) = false := by simp [hsn]
            have Hsn := Lib.hid hsn
            clear hsn
            go_wp2_with (first | (refine wpList_load_row rfl 78 _ rfl w.heap.size rfl 78 (ic W) (0, 0) _ hbw2 Try.underlying78 rfl (sizeW W hW.1) ?_) | (go_at_call 59; refine (send_c W hW j ⟨by omega, by omega⟩ r Hr1.out.1 Hr1.out.2 _).mono ?_; rintro e w1 ⟨rfl, hb3⟩))
            go_roundw
            case rel => exact ⟨j + 1, by omega, by go_num, hbw2.later hb3, range_snoc j Hall2.out (by simpa using Hsn.out), Keeps.next hb2 hb3⟩
            case measure => simp [intOf]; omega
          · have hne : (snd W (j : Int) r.data.toList != (j : Int)) = true := by simpa using hsn
            have Hf := Lib.hid (keepsB_no W rules k r Hrk.out (krB_no W _ r j (by omega) hsn))
            clear hsn
            go_wp2_with (first | (refine wpList_load_row rfl 78 _ rfl w.heap.size rfl 78 (ic W) (0, 0) _ hbw2 Try.underlying78 rfl (sizeW W hW.1) ?_) | (go_at_call 59; refine (send_c W hW j ⟨by omega, by omega⟩ r Hr1.out.1 Hr1.out.2 _).mono ?_; rintro e w1 ⟨rfl, hb3⟩))
            go_ret
            exact ⟨ret_bool Hf.out.symm, Keeps.next hb2 hb3⟩
        · go_wp2_with fail
          go_roundw
          case rel =>
            have hjd : j = (nth W 1).toNat := by omega
            have hr3 : krB W (nth W 1).toNat r = true := by rw [← hjd]; exact Hall2.out
            exact ⟨k + 1, by omega, by go_num, hbw2, take_all rules k r Hrk.out Hall.out hr3, hb2⟩
          case measure => simp [intOf]; omega
    · go_wp2_with fail
      go_ret
      exact ⟨ret_bool (by rw [List.take_of_length_le (by omega)] at hall; exact hall.symm), hb⟩
end Go.Proofs.Ytikedhkibdeheaa
