/- The walks of Word, times, matrixOf, slices.Max of four numbers. -/
import Derived.Test.YteffkcnlipdgaaaDoorAi
namespace Go.Proofs.YteffkcnlipdgaaaDoor
open Go.RowKit
set_option linter.unusedVariables false
set_option linter.unusedSimpArgs false

set_option maxHeartbeats 1000000 in
theorem Word_no (s : ByteArray) (hs : s.size ≤ maxLen) (h : pathB s = false) (w : World) :
    Calls Tryd.prog 28 #[.string s] w fun e w' => e = .returned (.tuple #[.string ⟨#[]⟩, .int .i64 2]) ∧ Keeps w w' := by
  have cP := fun W => isPath_c s hs W
  rw [h] at cP
  clear h
  go_enter Tryd.func28, Tryd.ntmps28
  go_wp2_with (go_at_call 30; refine (cP _).mono ?_; rintro e w1 ⟨rfl, h1⟩)
  go_ret2
  exact ⟨rfl, h1⟩
set_option maxHeartbeats 1000000 in
theorem Word_full (s : ByteArray) (h : pathB s = true) (hl : 40 < (wrd s.data.toList).length) (w : World) :
    Calls Tryd.prog 28 #[.string s] w fun e w' => e = .returned (.tuple #[.string ⟨#[]⟩, .int .i64 5]) ∧ Keeps w w' := by
  have h60 : s.size ≤ 60 := by unfold pathB at h; rw [Bool.and_eq_true] at h; exact of_decide_eq_true h.1
  have cP := fun W => isPath_c s (by unfold maxLen; omega) W
  rw [h] at cP
  have cG := fun W => grown_c s h60 W
  rw [decide_eq_false (show ¬ (wrd s.data.toList).length ≤ 40 by omega)] at cG
  clear h hl h60
  go_enter Tryd.func28, Tryd.ntmps28
  go_wp2_with (first
    | (go_at_call 30; refine (cP _).mono ?_; rintro e w1 ⟨rfl, h1⟩)
    | (go_at_call 43; refine (cG _).mono ?_; rintro e w2 ⟨wd, rfl, h2, h3⟩; clear h2))
  go_ret2
  exact ⟨rfl, Keeps.next h1 h3⟩
set_option maxHeartbeats 1000000 in
theorem Word_yes (s : ByteArray) (h : pathB s = true) (hl : (wrd s.data.toList).length ≤ 40) (w : World) :
    Calls Tryd.prog 28 #[.string s] w fun e w' => e = .returned (.tuple #[.string ⟨(wrd s.data.toList).toArray⟩, .int .i64 0]) ∧ Keeps w w' := by
  have h60 : s.size ≤ 60 := by unfold pathB at h; rw [Bool.and_eq_true] at h; exact of_decide_eq_true h.1
  have cP := fun W => isPath_c s (by unfold maxLen; omega) W
  rw [h] at cP
  have cG : ∀ W, Calls Tryd.prog 43 #[.string s, .string ⟨#[97]⟩, .string ⟨#[98]⟩, .int .i64 40] W fun e w' => e = .returned (.tuple #[.string ⟨(wrd s.data.toList).toArray⟩, .bool true]) ∧ Keeps W w' := by
    intro W
    refine Calls.mono (grown_c s h60 W) ?_
    rintro e w' ⟨wd, rfl, h2, h3⟩
    exact ⟨by rw [decide_eq_true hl, h2 hl], h3⟩
  clear h hl h60
  generalize wrd s.data.toList = L at *
  go_enter Tryd.func28, Tryd.ntmps28
  go_wp2_with (first
    | (go_at_call 30; refine (cP _).mono ?_; rintro e w1 ⟨rfl, h1⟩)
    | (go_at_call 43; refine (cG _).mono ?_; rintro e w2 ⟨rfl, h3⟩))
  go_ret2
  exact ⟨rfl, Keeps.next h1 h3⟩
/-- Matrices. -/
abbrev Mx := Int × Int × Int × Int
def mv (m : Mx) : Array Value := #[.int .i64 m.1, .int .i64 m.2.1, .int .i64 m.2.2.1, .int .i64 m.2.2.2]
theorem sizeM (m : Mx) : (Tryd.prog.info? 65).map (·.size) = some (mv m).size := by show _ = some 4; kernel_rfl
theorem sizeM4 (m : Mx) : (Tryd.prog.info? 45).map (·.size) = some (mv m).size := by show _ = some 4; kernel_rfl
theorem oneM (m : Mx) : (mv m).all (·.oneCell') = true := by simp [mv, Value.oneCell']
theorem row_mv {w : World} {g : Nat} {t : TypeId} {m : Mx} (a : At w g t (mv m)) : w.cell? ⟨g, 0, none⟩ = some (.int .i64 m.1) ∧ w.cell? ⟨g, 1, none⟩ = some (.int .i64 m.2.1) ∧ w.cell? ⟨g, 2, none⟩ = some (.int .i64 m.2.2.1) ∧ w.cell? ⟨g, 3, none⟩ = some (.int .i64 m.2.2.2) :=
  ⟨(a.cell 0).trans rfl, (a.cell 1).trans rfl, (a.cell 2).trans rfl, (a.cell 3).trans rfl⟩
def mxOf (c : UInt8) : Mx := if (c == 97) = true then (2, 1, 1, 1) else (5, 2, 2, 1)
def mul (m n : Mx) : Mx := (m.1 * n.1 + m.2.1 * n.2.2.1, m.1 * n.2.1 + m.2.1 * n.2.2.2, m.2.2.1 * n.1 + m.2.2.2 * n.2.2.1, m.2.2.1 * n.2.1 + m.2.2.2 * n.2.2.2)
def bdM (m : Mx) : Prop := (0 ≤ m.1 ∧ m.1 ≤ 1152921504606846976) ∧ (0 ≤ m.2.1 ∧ m.2.1 ≤ 1152921504606846976) ∧ (0 ≤ m.2.2.1 ∧ m.2.2.1 ≤ 1152921504606846976) ∧ (0 ≤ m.2.2.2 ∧ m.2.2.2 ≤ 1152921504606846976)
set_option maxHeartbeats 1000000 in
theorem matrixOf_c (c : UInt8) (w : World) : Calls Tryd.prog 40 #[.int .u8 c.toNat] w fun e w' => e = .returned (.agg (mv (mxOf c))) ∧ Keeps w w' := by
  have hX := At.new w 65 (mv (0, 0, 0, 0))
  have hk : Keeps w (w.alloc (.cells (mv (0, 0, 0, 0)) 65)) := Keeps.alloc (Below.refl _ _) _
  have hbyte : (c == 97) = (((c.toNat : Nat) : Int) == 97) := by
    rw [Bool.eq_iff_iff, beq_iff_eq, beq_iff_eq]
    constructor
    · intro h; rw [h]; rfl
    · intro h; apply UInt8.toNat_inj.1; have e : UInt8.toNat 97 = 97 := rfl; omega
  unfold mxOf
  cases hB : (((c.toNat : Nat) : Int) == 97)
  · rw [hbyte, hB, if_neg (by simp)]
    clear hbyte
    go_enter Tryd.func40, Tryd.ntmps40
    go_wp2_with (refine wpList_store_row rfl 65 _ _ rfl w.heap.size (mv (5, 2, 2, 1)) rfl rfl 65 (mv (0, 0, 0, 0)) hX (sizeM _) rfl (oneM _) ?_)
    have h3 := hX.row (mv (5, 2, 2, 1))
    refine bodyPost_ret (results_cell_row Tryd.results40 _ _ w.heap.size _ _ _ _ rfl h3 Tryd.underlying65 rfl (sizeM _)) rfl ⟨rfl, below_row hk (by omega) _⟩
  · rw [hbyte, hB, if_pos rfl]
    clear hbyte
    go_enter Tryd.func40, Tryd.ntmps40
    go_wp2_with (refine wpList_store_row rfl 65 _ _ rfl w.heap.size (mv (2, 1, 1, 1)) rfl rfl 65 (mv (0, 0, 0, 0)) hX (sizeM _) rfl (oneM _) ?_)
    have h3 := hX.row (mv (2, 1, 1, 1))
    refine bodyPost_ret (results_cell_row Tryd.results40 _ _ w.heap.size _ _ _ _ rfl h3 Tryd.underlying65 rfl (sizeM _)) rfl ⟨rfl, below_row hk (by omega) _⟩
end Go.Proofs.YteffkcnlipdgaaaDoor
