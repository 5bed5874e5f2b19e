/- The walks of isStandard, isConnected. -/
import Derived.Test.YtikedhkibdeheaaCh
import Derived.Test.YtikedhkibdeheaaCc
import Derived.Test.YtikedhkibdeheaaCa
namespace Go.Proofs.Ytikedhkibdeheaa
open Go.RowKit

set_option maxHeartbeats 2000000 in
set_option maxRecDepth 100000 in
theorem isStandard_c (W : List Int) (hW : wok W) (hg : nth W 0 = 1 ∨ nth W 0 = 2) (w : World) :
    Calls Try.prog 48 #[.agg (ic W)] w fun e w' => e = .returned (.bool (stdB W)) ∧ Keeps w w' := by
  have hc0 := cell_ic_new w 78 W 0 (by rw [hW.1]; omega)
  have hbw0 := At.new w 78 (ic W)
  have hL5 := numOk_length (numS_ok W hW (nth W 0) hg 0 (by omega))
  go_enter Try.func48, Try.ntmps48
  go_wp2_with (first | (refine wpList_load_row rfl 78 _ rfl w.heap.size rfl 78 (ic W) (0, 0) _ hbw0 Try.underlying78 rfl (sizeW W hW.1) ?_) | (go_at_call 70; refine (number_c W hW (nth W 0) hg 0 (by omega) _).mono ?_; rintro e w1 ⟨v, rfl, hown, hb1⟩; obtain ⟨g0, cap0, rfl, hbg0, _, _, _, hcs⟩ := own_form hown (numS_ok W hW (nth W 0) hg 0 (by omega)).1; clear hc0))
  have Hno := Lib.hid (stdB_no W)
  have Hst := Lib.hid (show stdB W = (((List.range (numS (sg W) (2 * nth W 0).toNat 0).length).all fun k : Nat => decide (sh (numS (sg W) (2 * nth W 0).toNat 0) k = k)) && decide (((numS (sg W) (2 * nth W 0).toNat 0).length : Int) = nth W 1)) from rfl)
  have hcf := fun k hk => fc_at (numS (sg W) (2 * nth W 0).toNat 0) k hk
  clear hbg0 hown
  generalize numS (sg W) (2 * nth W 0).toNat 0 = L at *
  have hbw1 := (At.later hbw0 hb1).int 1 (by rw [hW.1]; omega)
  have hbk : Keeps w w1 := Keeps.next (Keeps.alloc (Below.refl _ _) _) hb1
  have hcs1 : ∀ k, k < L.length → w1.cell? ⟨g0, k * 3, none⟩ = some (.int .i64 (sh L k)) ∧ w1.cell? ⟨g0, k * 3 + 1, none⟩ = some (.int .i64 (fr L k)) ∧ w1.cell? ⟨g0, k * 3 + 2, none⟩ = some (.int .i64 (lt L k)) := fun k hk => ⟨hcs _ _ (hcf k hk).1, hcs _ _ (hcf k hk).2.1, hcs _ _ (hcf k hk).2.2⟩
  clear hbw0 hcf hcs hb1
  go_loopw [13] (fun i wr => ∃ k : Nat, k ≤ L.length ∧ i = .int .i64 k ∧ ((List.range k).all fun k : Nat => decide (sh L k = k)) = true ∧ Below w1.heap.size w1 wr) (fun i _ => L.length - (intOf i).toNat)
  case atStart => exact ⟨0, Nat.zero_le _, rfl, rfl, Below.refl _ _⟩
  case round =>
    obtain ⟨k, hk, rfl, hall, hb⟩ := hrel
    have Hall := Lib.hid hall
    clear hall
    by_cases hlt : k < L.length
    · have hx0 := cell_keep (hcs1 k hlt).1 hb
      have hx1 := cell_keep (hcs1 k hlt).2.1 hb
      have hx2 := cell_keep (hcs1 k hlt).2.2 hb
      clear hcs1
      by_cases hs : sh L k = k
      · have hne : (sh L k != (k : Int)) = false := by simp [hs]
        have Hs := Lib.hid hs
        clear hs
        go_wp2_with fail
        go_roundw
        case rel => exact ⟨k + 1, by omega, by go_num, range_snoc k Hall.out (by simpa using Hs.out), Keeps.alloc hb _⟩
        case measure => simp [intOf]; omega
      · have hne : (sh L k != (k : Int)) = true := by simpa using hs
        have Hf := Lib.hid (Hno.out k hlt hs)
        clear hs
        go_wp2_with fail
        go_ret
        exact ⟨ret_bool Hf.out.symm, Keeps.next hbk (Keeps.alloc hb _)⟩
    · have hy1 := cell_keep hbw1 hb
      have hkl : k = L.length := by omega
      have Hkl := Lib.hid hkl
      clear hkl hcs1
      go_wp2_with fail
      go_ret
      exact ⟨ret_bool (by rw [Hst.out, ← Hkl.out, Hall.out]; rw [Bool.eq_iff_iff]; simp), Keeps.next hbk hb⟩
end Go.Proofs.Ytikedhkibdeheaa
