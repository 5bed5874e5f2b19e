/- The walks of the reader: run, point, end; of read for texts that are right. -/
import Derived.Test.YtfekggmdhmkemaaDoorGi
import Derived.Test.YtfekggmdhmkemaaDoorGj
import Derived.Defers
import Derived.Recover
import Derived.Laws.Pointers
namespace Go.Proofs.YtfekggmdhmkemaaDoor
open Go.RowKit
set_option linter.unusedVariables false
set_option linter.unusedSimpArgs false

theorem okD_set (c : UInt8) : ([48, 49, 50, 51] : List UInt8).contains c = true ↔ okD c := by
  simp [okD]
theorem drop_digits (F R : List UInt8) (hF : ∀ c ∈ F, okD c) (hR : ∀ c, R.head? = some c → ¬ okD c) : Lib.trimLeftS (F ++ R) [48, 49, 50, 51] = R := by
  unfold Lib.trimLeftS
  induction F with
  | nil =>
    cases R with
    | nil => rfl
    | cons c R =>
      have := hR c rfl
      rw [List.nil_append, List.dropWhile_cons, if_neg]
      rw [okD_set]; exact this
  | cons c F ih =>
    rw [List.cons_append, List.dropWhile_cons, if_pos ((okD_set c).2 (hF c (by simp)))]
    exact ih (fun d hd => hF d (by simp [hd]))
theorem zero256 : ∀ w, (zeroValue (Tryd.lays161_ren.t 116)).run Tryd.prog w = .ok (.agg (Array.replicate 256 (.bool false))) w := fun w => by kernel_rfl
theorem size256 : (Tryd.prog.info? (Tryd.lays161_ren.t 116)).map (·.size) = some 256 := by kernel_rfl
theorem trimD (s : ByteArray) (h0 : 0 < s.size) (w : World) : Calls Tryd.prog 50 #[.string s, .string ⟨#[48, 49, 50, 51]⟩] w fun e w' => e = .returned (.string ⟨(Lib.trimLeftS s.data.toList [48, 49, 50, 51]).toArray⟩) ∧ Keeps w w' :=
  (Any.strings_TrimLeft_set Tryd.lays161 zero256 size256 s ⟨#[48, 49, 50, 51]⟩ w (by decide) h0 (by decide) (fun j b hj => by
    have : b ∈ ([48, 49, 50, 51] : List UInt8) := List.mem_of_getElem? hj
    simp at this
    rcases this with rfl | rfl | rfl | rfl <;> decide)).mono fun e w' ⟨h1, h2⟩ => ⟨h1, by rw [h2]; exact Keeps.alloc (Keeps.alloc (Below.refl _ _) _) _⟩
set_option maxHeartbeats 2000000 in
theorem run_yes (g : Nat) (F R : List UInt8) (hF : ∀ c ∈ F, okD c) (hR : ∀ c, R.head? = some c → ¬ okD c) (h1 : 1 ≤ F.length) (h40 : F.length ≤ 40) (hRl : R.length ≤ 1000) (w : World) (ha : At w g 60 #[.string ⟨(F ++ R).toArray⟩]) :
    Calls Tryd.prog 34 #[.pointer (some ⟨g, 0, none⟩)] w fun e w' => e = .returned (.string ⟨F.toArray⟩) ∧ At w' g 60 #[.string ⟨R.toArray⟩] ∧ Holds (fun r => r ≠ g) w w' := by
  have htr := fun x => trimD ⟨(F ++ R).toArray⟩ (by show 0 < (F ++ R).toArray.size; simp; omega) x
  rw [show Lib.trimLeftS (⟨(F ++ R).toArray⟩ : ByteArray).data.toList [48, 49, 50, 51] = R from by show Lib.trimLeftS (F ++ R).toArray.toList _ = R; rw [List.toList_toArray]; exact drop_digits F R hF hR] at htr
  have hex : (⟨(F ++ R).toArray⟩ : ByteArray).extract 0 F.length = ⟨F.toArray⟩ := by
    apply ByteArray.ext
    rw [ByteArray.data_extract]
    simp
  have hS : (⟨(F ++ R).toArray⟩ : ByteArray).size = F.length + R.length := by show (F ++ R).toArray.size = _; simp
  have hFs : (⟨F.toArray⟩ : ByteArray).size = F.length := rfl
  have hRs : (⟨R.toArray⟩ : ByteArray).size = R.length := rfl
  generalize (⟨(F ++ R).toArray⟩ : ByteArray) = S at *
  generalize (⟨F.toArray⟩ : ByteArray) = FF at *
  generalize (⟨R.toArray⟩ : ByteArray) = RR at *
  have ca := ha.cell 0
  simp only [List.getElem?_toArray, List.getElem?_cons_zero] at ca
  generalize F.length = n at *
  generalize R.length = m at *
  have d1 : IntKind.i64.wrap ((S.size : Int) - (RR.size : Int)) = n := by rw [hS, hRs]; rw [IntWalk.i64_in _ (by omega)]; omega
  clear hF hR
  have hnS : n ≤ S.size := by omega
  have hS2 : S.size ≤ 2000 := by omega
  have hR2 : RR.size ≤ 2000 := by omega
  have d2 : decide (FF.size < 1) = false := by rw [decide_eq_false_iff_not]; omega
  have d3 : decide (40 < FF.size) = false := by rw [decide_eq_false_iff_not]; omega
  have d4 : decide ((FF.size : Int) < 1) = false := by rw [decide_eq_false_iff_not]; omega
  have d5 : decide ((40 : Int) < FF.size) = false := by rw [decide_eq_false_iff_not]; omega
  have HS := Lib.hid hS
  have HF := Lib.hid hFs
  have HR := Lib.hid hRs
  clear hS hFs hRs
  go_enter Tryd.func34, Tryd.ntmps34
  go_upto_region 2 with (go_at_call 50; refine (htr _).mono ?_; rintro e w1 ⟨rfl, hb1⟩)
  have ha1 := ha.later hb1
  have ca1 := ha1.cell 0
  simp only [List.getElem?_toArray, List.getElem?_cons_zero] at ca1
  have fa1 := ha1.frozen 0
  have hh1 : Holds (fun r => r ≠ g) w w1 := Holds.of_keeps hb1 _
  clear ca htr
  go_quiet (fail)
  go_wp2_with fail
  go_ret
  exact ⟨rfl, (ha1.drewN _).set 0 _, (hh1.drewN _).set _ (by simp) _⟩
set_option maxHeartbeats 1000000 in
theorem point_c (g : Nat) (R : List UInt8) (w : World) (ha : At w g 60 #[.string ⟨R.toArray⟩]) :
    Calls Tryd.prog 35 #[.pointer (some ⟨g, 0, none⟩)] w fun e w' => e = .returned (.bool (Lib.hasPrefix R [46])) ∧ At w' g 60 #[.string ⟨(Lib.trimPrefix R [46]).toArray⟩] ∧ Holds (fun r => r ≠ g) w w' := by
  have hcp : ∀ x, Calls Tryd.prog 51 #[.string ⟨R.toArray⟩, .string ⟨#[46]⟩] x fun e w' => e = .returned (.tuple #[.string ⟨(Lib.trimPrefix R [46]).toArray⟩, .bool (Lib.hasPrefix R [46])]) ∧ w' = x := fun x => by
    have := Tryd.strings_CutPrefix ⟨R.toArray⟩ ⟨#[46]⟩ x
    simpa using this
  have ca := ha.cell 0
  simp only [List.getElem?_toArray, List.getElem?_cons_zero] at ca
  have fa := ha.frozen 0
  generalize (⟨R.toArray⟩ : ByteArray) = RR at *
  generalize (⟨(Lib.trimPrefix R [46]).toArray⟩ : ByteArray) = TT at *
  generalize Lib.hasPrefix R [46] = bb at *
  go_enter Tryd.func35, Tryd.ntmps35
  go_wp2_with (go_at_call 51; refine (hcp _).mono ?_; rintro e w' ⟨rfl, rfl⟩)
  go_ret
  exact ⟨rfl, ha.set 0 _, (Holds.refl _ _).set _ (by simp) _⟩
theorem end_c (g : Nat) (w : World) (ha : At w g 60 #[.string ⟨#[]⟩]) :
    Calls Tryd.prog 36 #[.pointer (some ⟨g, 0, none⟩)] w fun e w' => e = .returned (.tuple #[]) ∧ w = w' := by
  have ca := ha.cell 0
  simp only [List.getElem?_toArray, List.getElem?_cons_zero] at ca
  go_enter Tryd.func36, Tryd.ntmps36
  go_wp2_with fail
  go_end0
  exact ⟨rfl, rfl⟩
theorem catch_idle (p q : Addr) (w : World) :
    CallsD Tryd.prog 33 #[.pointer (some p), .pointer (some q)] .returning w fun e u' w' => e = .returned (.tuple #[]) ∧ u' = .returning ∧ w = w' := by
  refine callsD_of_wpS Tryd.func33 rfl fun c₀ cs hu => ?_
  apply wpS_seq
  apply wpS_region
  simp [wpOpsS, go_sem, recoverD, hu, Tryd.ntmps33, Exit.thenS]
  refine wpS_cond (t := false) (by simp [Act.eval, Array.replicate]) ?_
  simp only [Bool.false_eq_true, if_false]
  refine wpS_of_wp (wp_skip ?_)
  cases c₀
  simp_all [bodyPostS, results, Tryd.results33]
end Go.Proofs.YtfekggmdhmkemaaDoor
