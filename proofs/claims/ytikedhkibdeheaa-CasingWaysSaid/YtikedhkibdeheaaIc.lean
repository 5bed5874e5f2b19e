/- The reference's Reduce. -/
import Derived.Test.YtikedhkibdeheaaIb
import Derived.Lib.SmallJoins
namespace Go.Proofs.Ytikedhkibdeheaa
open Go.RowKit

set_option maxHeartbeats 4000000 in
set_option maxRecDepth 100000 in
theorem rreduce_c (s : ByteArray) (hok : s.data.toList.all (okL 2) = true) (hz : s.size ≤ 1000) (w : World) :
    Calls Try.prog 55 #[.string s] w fun e w' => e = .returned (.string ⟨(red s.data.toList).toArray⟩) ∧ Keeps w w' := by
  obtain ⟨i0, hi, hz0, hz1, hz2⟩ := info_parts infoB
  go_enter Try.func55, Try.ntmps55
  go_wp2_with fail
  go_loopw [3, 4] (fun u i wj => ∃ j : Nat, j ≤ s.size ∧ i = .int .i64 j ∧ wj.ownsRow w.heap.size 5 1 u (red (s.data.toList.take j)).length (bytes (red (s.data.toList.take j))) ∧ Keeps w wj) (fun _ i _ => s.size - (intOf i).toNat)
  case atStart => exact ⟨0, Nat.zero_le _, rfl, World.ownsRow_nil _ _ _ _, Below.refl _ _⟩
  case round =>
    obtain ⟨j, hj, rfl, hownj, hbj⟩ := hrel
    by_cases hjl : j < s.size
    · have hc : okL 2 s[j] = true := List.all_eq_true.1 hok _ (Array.mem_toList_iff.2 (Array.getElem_mem (xs := s.data) (i := j) hjl))
      have Hred := Lib.hid (show red (s.data.toList.take (j + 1)) = redStep (red (s.data.toList.take j)) s[j] by rw [take_snoc s j hjl, red_snoc])
      have hKl : (red (s.data.toList.take j)).length ≤ 100000 := by
        have h1 := red_le (s.data.toList.take j)
        have h2 : (s.data.toList.take j).length ≤ j := List.length_take_le _ _
        omega
      have hws := hbj.size
      generalize red (s.data.toList.take j) = K at *
      have hjs : j < s.size := hjl
      rcases List.eq_nil_or_concat K with rfl | ⟨K, x, rfl⟩
      · have hd : decide ((0 : Int) < 0) = false := by decide
        rcases Joins.ownsRow_forms hownj with ⟨rfl, _⟩ | ⟨g, cap, rfl⟩
        all_goals
          go_wp2_with fail
          go_quiet (fail)
          go_wp2_with (at_builtin; refine wpList_append_own _ rfl _ _ 63 rfl w.heap.size 5 i0 _ 1 1 Try.underlying63 hi hz0 hz1 hz2 rfl (by decide) _ _ _ rfl ((show World.ownsRow (wr.drewN nq) _ _ _ _ _ _ from hownj).alloc _) _ 1 1 [.int .u8 s[j].toNat] rfl rfl (new_cells _ _ _ _ (by simp)) (by simp [Value.oneCell']) (by unfold maxLen; simp) (by simp) (by simp; omega) ?_; intro v' w4 hown4 hgrow4 _)
          go_roundw
          case rel => exact ⟨j + 1, by omega, by go_num, by rw [Hred.out, redStep_nil]; exact hown4, (Keeps.alloc (below_drewN hbj) _).grown hgrow4 (by simp; omega) (own_base hownj)⟩
          case measure => simp [intOf]; omega
      · have hown2 := conc_own hownj
        clear hownj
        obtain ⟨g, cap, rfl, hg1, hg2, hg3, hg4, hcells⟩ := own_form hown2 (by omega)
        have hcx : wr.cell? ⟨g, K.length, none⟩ = some (.int .u8 x.toNat) := hcells _ _ (by rw [List.getElem?_append_right (Nat.le_of_eq (bytes_length K)), bytes_length, Nat.sub_self]; rfl)
        have hK2 : K.length ≤ 99999 := by simp at hKl; omega
        have hK3 : K.length < K.length + 1 := by omega
        have hd : decide ((0 : Int) < (K.length : Int) + 1) = true := by rw [decide_eq_true_iff]; omega
        have hw1 : IntKind.i64.wrap ((K.length : Int) + 1 - 1) = K.length := by rw [show (K.length : Int) + 1 - 1 = K.length by omega]; exact IntWalk.i64_in _ (by omega)
        have hopp := fun x => rinverse_c s[j] hc x
        by_cases hx : x = opp s[j]
        · have he : ((x.toNat : Int) == ((opp s[j]).toNat : Int)) = true := by rw [hx]; simp
          go_wp2_with fail
          go_quiet ((go_at_call 34; exact Calls.quiet_of_same (hopp _)))
          go_wp2_with fail
          go_roundw
          case rel => exact ⟨j + 1, by omega, by go_num, by rw [Hred.out, List.concat_eq_append, redStep_cut _ _ _ hx]; exact own_cut hown2, below_drewN hbj⟩
          case measure => simp [intOf]; omega
        · have he : ((x.toNat : Int) == ((opp s[j]).toNat : Int)) = false := by
            rw [beq_eq_false_iff_ne]; intro h; exact hx (UInt8.toNat_inj.1 (by omega))
          go_wp2_with fail
          go_quiet ((go_at_call 34; exact Calls.quiet_of_same (hopp _)))
          go_wp2_with (at_builtin; refine wpList_append_own _ rfl _ _ 63 rfl w.heap.size 5 i0 _ 1 1 Try.underlying63 hi hz0 hz1 hz2 rfl (by decide) _ _ _ rfl ((show World.ownsRow (wr.drewN nq) _ _ _ _ _ _ from hown2).alloc _) _ 1 1 [.int .u8 s[j].toNat] rfl rfl (new_cells _ _ _ _ (by simp)) (by simp [Value.oneCell']) (by unfold maxLen; omega) (by omega) (by simp; omega) ?_; intro v' w4 hown4 hgrow4 _)
          go_roundw
          case rel => exact ⟨j + 1, by omega, by go_num, by rw [Hred.out, List.concat_eq_append, redStep_more _ _ _ hx, List.length_append, bytes_append, List.length_append, bytes_append]; exact hown4, (Keeps.alloc (below_drewN hbj) _).grown hgrow4 (by simp; omega) (own_base hown2)⟩
          case measure => simp [intOf]; omega
    · have hje : j = s.size := by omega
      subst hje
      rw [List.take_of_length_le (by simp)] at hownj
      have hst := str_own hownj
      go_wp2_with fail
      go_ret
      exact ⟨rfl, hbj⟩
end Go.Proofs.Ytikedhkibdeheaa
