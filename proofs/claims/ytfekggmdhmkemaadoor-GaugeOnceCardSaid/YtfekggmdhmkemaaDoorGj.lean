/- The walk of digits.text. -/
import Derived.Test.YtfekggmdhmkemaaDoorGi
import Derived.Laws.Concat
namespace Go.Proofs.YtfekggmdhmkemaaDoor
open Go.RowKit
set_option linter.unusedVariables false
set_option linter.unusedSimpArgs false

def okD (c : UInt8) : Prop := c = 48 ∨ c = 49 ∨ c = 50 ∨ c = 51
theorem conv_one (c : UInt8) (h : okD c) (w : World) : (convert 5 9 (.int .u8 (c.toNat : Int))).run Tryd.prog w = .ok (.string ⟨[c].toArray⟩) w := by
  rcases h with rfl | rfl | rfl | rfl <;> kernel_rfl
/-- The text of a row of digits. -/
def befL (l : List UInt8) : List UInt8 := Lib.trimLeftB (l.take 39) 48 ++ [l[39]?.getD 0]
def aftL (l : List UInt8) : List UInt8 := Lib.trimRightB (l.drop 40) 48
def txtL (l : List UInt8) : List UInt8 := if aftL l = [] then befL l else befL l ++ 46 :: aftL l
theorem trimLeft_le (l : List UInt8) (c : UInt8) : (Lib.trimLeftB l c).length ≤ l.length := by
  unfold Lib.trimLeftB; exact (List.dropWhile_sublist _).length_le
theorem trimRight_le (l : List UInt8) (c : UInt8) : (Lib.trimRightB l c).length ≤ l.length := by
  unfold Lib.trimRightB; rw [List.length_reverse]; have := (List.dropWhile_sublist (· == c) (l := l.reverse)).length_le; simpa using this
theorem conv_row {w : World} {g : Nat} {t : TypeId} {l : List UInt8} (h : At w g t (dB l)) (o n cap : Nat) (hn : o + n ≤ l.length) :
    (convert 56 9 (.slice (some ⟨g, o, none⟩) n cap)).run Tryd.prog w = .ok (.string ⟨((l.drop o).take n).toArray⟩) w := by
  have hl : ((l.drop o).take n).length = n := by simp; omega
  have := run_convert_bytes_back (P := Tryd.prog) w 56 9 5 ⟨g, o, none⟩ cap ((l.drop o).take n) Tryd.underlying56 Tryd.underlying5 Tryd.underlying9 (fun j hj => by
    rw [hl] at hj
    rw [show (⟨g, o, none⟩ : Addr).add j = ⟨g, o + j, none⟩ from by unfold Addr.add; split <;> simp_all, h.cell]
    simp [dB, bytes, List.getElem?_eq_getElem (show o + j < l.length by omega)])
  rwa [hl] at this
set_option maxHeartbeats 2000000 in
set_option maxRecDepth 100000 in
theorem text_c (l : List UInt8) (hl : l.length = 80) (h39 : okD (l[39]?.getD 0)) (w : World) :
    Calls Tryd.prog 43 #[.agg (dB l)] w fun e w' => e = .returned (.string ⟨(txtL l).toArray⟩) ∧ Keeps w w' := by
  have hX := At.new w 44 (dB l)
  have hk : Keeps w (w.alloc (.cells (dB l) 44)) := Keeps.alloc (Below.refl _ _) _
  have p0 : ∀ x, Calls Tryd.prog 40 #[.int .i64 0] x fun e w' => e = .returned (.int .i64 39) ∧ x = w' := fun x => place_c 0 (by decide) (by decide) x
  have p1 : ∀ x, Calls Tryd.prog 40 #[.int .i64 (-1)] x fun e w' => e = .returned (.int .i64 40) ∧ x = w' := fun x => place_c (-1) (by decide) (by decide) x
  have s1 := slice_high w.heap.size 39 (by decide) (by decide)
  have s2 := slice_low w.heap.size 40 (by decide)
  rw [show ((39 : Nat) : Int) = 39 from rfl] at s1
  rw [show ((40 : Nat) : Int) = 40 from rfl] at s2
  have c1 := conv_row hX 0 39 80 (by omega)
  have c2 := conv_row hX 40 40 40 (by omega)
  rw [List.drop_zero] at c1
  rw [List.take_of_length_le (by simp; omega)] at c2
  have t1 : ∀ x, Calls Tryd.prog 50 #[.string ⟨(l.take 39).toArray⟩, .string ⟨#[48]⟩] x fun e w' => e = .returned (.string ⟨(Lib.trimLeftB (l.take 39) 48).toArray⟩) ∧ w' = x := fun x => Tryd.strings_TrimLeft_one ⟨(l.take 39).toArray⟩ 48 (by decide) x
  have t2 : ∀ x, Calls Tryd.prog 58 #[.string ⟨(l.drop 40).toArray⟩, .string ⟨#[48]⟩] x fun e w' => e = .returned (.string ⟨(aftL l).toArray⟩) ∧ w' = x := fun x => Tryd.strings_TrimRight_one ⟨(l.drop 40).toArray⟩ 48 (by decide) x (by show (l.drop 40).toArray.size ≤ _; simp; omega)
  have hb1 : (Lib.trimLeftB (l.take 39) 48).length ≤ 39 := by have := trimLeft_le (l.take 39) 48; simp at this; omega
  have hb2 : (aftL l).length ≤ 40 := by have := trimRight_le (l.drop 40) 48; simp at this; unfold aftL; omega
  have ce : (w.alloc (.cells (dB l) 44)).cell? ⟨w.heap.size, 39, none⟩ = some (.int .u8 ((l[39]?.getD 0).toNat : Int)) := by
    rw [hX.cell]; simp [dB, bytes, List.getElem?_eq_getElem (show 39 < l.length by omega)]
  have co := conv_one (l[39]?.getD 0) h39 (w.alloc (.cells (dB l) 44))
  have a1 := run_string_add_lists (P := Tryd.prog) (w := w.alloc (.cells (dB l) 44)) (Lib.trimLeftB (l.take 39) 48) [l[39]?.getD 0] (by omega) (by simp)
  have a2 := run_string_add_lists (P := Tryd.prog) (w := w.alloc (.cells (dB l) 44)) (befL l) [46] (by simp [befL]; omega) (by simp)
  have a3 := run_string_add_lists (P := Tryd.prog) (w := w.alloc (.cells (dB l) 44)) (befL l ++ [46]) (aftL l) (by simp [befL]; omega) (by omega)
  rw [show Lib.trimLeftB (l.take 39) 48 ++ [l[39]?.getD 0] = befL l from rfl] at a1
  unfold txtL
  generalize hXe : (w.alloc (.cells (dB l) 44)) = X at *
  have HX := Lib.hid hXe
  clear hXe
  clear hX hb1 hb2 h39 hl
  by_cases h0 : aftL l = []
  · rw [if_pos h0]
    have hz : (aftL l).isEmpty = true := by rw [h0]; rfl
    have hz2 : (!(aftL l).isEmpty) = false := by rw [hz]; rfl
    clear h0 a2 a3
    generalize aftL l = A at *
    generalize befL l = B at *
    generalize Lib.trimLeftB (l.take 39) 48 = T at *
    go_enter Tryd.func43, Tryd.ntmps43
    go_upto_region 1 with (fail)
    rw [HX.out]
    go_wp2_with (first
      | (go_at_call 40; (with_reducible refine (p0 _).mono ?_); rintro e w' ⟨rfl, rfl⟩)
      | (go_at_call 40; (with_reducible refine (p1 _).mono ?_); rintro e w' ⟨rfl, rfl⟩)
      | (go_at_call 50; refine (t1 _).mono ?_; rintro e w' ⟨rfl, rfl⟩)
      | (go_at_call 58; refine (t2 _).mono ?_; rintro e w' ⟨rfl, rfl⟩))
    go_ret
    exact ⟨rfl, hk⟩
  · rw [if_neg h0]
    have hz : (aftL l).isEmpty = false := by simpa using h0
    have hz2 : (!(aftL l).isEmpty) = true := by rw [hz]; rfl
    clear h0
    generalize aftL l = A at *
    generalize befL l = B at *
    generalize Lib.trimLeftB (l.take 39) 48 = T at *
    go_enter Tryd.func43, Tryd.ntmps43
    go_upto_region 1 with (fail)
    rw [HX.out]
    go_wp2_with (first
      | (go_at_call 40; (with_reducible refine (p0 _).mono ?_); rintro e w' ⟨rfl, rfl⟩)
      | (go_at_call 40; (with_reducible refine (p1 _).mono ?_); rintro e w' ⟨rfl, rfl⟩)
      | (go_at_call 50; refine (t1 _).mono ?_; rintro e w' ⟨rfl, rfl⟩)
      | (go_at_call 58; refine (t2 _).mono ?_; rintro e w' ⟨rfl, rfl⟩))
    go_ret
    exact ⟨rfl, hk⟩
end Go.Proofs.YtfekggmdhmkemaaDoor
