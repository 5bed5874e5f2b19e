/- The walks of the reader where the text is wrong: run and end panic, read recovers; read with a point. -/
import Derived.Test.YtfekggmdhmkemaaDoorGl
namespace Go.Proofs.YtfekggmdhmkemaaDoor
open Go.RowKit
set_option linter.unusedVariables false
set_option linter.unusedSimpArgs false

/-- What is panicked with. -/
def pnc : List PanicEntry := [{ v := .iface 25 (.int .i64 4), recovered := false }]
theorem trimA (s : ByteArray) (w : World) : Calls Tryd.prog 50 #[.string s, .string ⟨#[48, 49, 50, 51]⟩] w fun e w' => e = .returned (.string ⟨(Lib.trimLeftS s.data.toList [48, 49, 50, 51]).toArray⟩) ∧ Keeps w w' := by
  by_cases h : s.size = 0
  · have hs : s = ⟨#[]⟩ := by
      apply ByteArray.ext
      exact Array.eq_empty_of_size_eq_zero h
    subst hs
    exact (Any.strings_TrimLeft_empty Tryd.lays161 ⟨#[]⟩ ⟨#[48, 49, 50, 51]⟩ w (.inl rfl)).mono fun e w' ⟨h1, h2⟩ => ⟨h1, by rw [h2]; exact Below.refl _ _⟩
  · exact trimD s (by omega) w
set_option maxHeartbeats 2000000 in
theorem run_no (g : Nat) (F R : List UInt8) (hF : ∀ c ∈ F, okD c) (hR : ∀ c, R.head? = some c → ¬ okD c) (hbad : F.length < 1 ∨ 40 < F.length) (hFl : F.length ≤ 1000) (hRl : R.length ≤ 1000) (w : World) (ha : At w g 60 #[.string ⟨(F ++ R).toArray⟩]) :
    Calls Tryd.prog 34 #[.pointer (some ⟨g, 0, none⟩)] w fun e w' => e = .panicked pnc ∧ Keeps w w' := by
  have htr := fun x => trimA ⟨(F ++ R).toArray⟩ x
  rw [show Lib.trimLeftS (⟨(F ++ R).toArray⟩ : ByteArray).data.toList [48, 49, 50, 51] = R from by show Lib.trimLeftS (F ++ R).toArray.toList _ = R; rw [List.toList_toArray]; exact drop_digits F R hF hR] at htr
  have hex : (⟨(F ++ R).toArray⟩ : ByteArray).extract 0 F.length = ⟨F.toArray⟩ := by
    apply ByteArray.ext
    rw [ByteArray.data_extract]
    simp
  have hS : (⟨(F ++ R).toArray⟩ : ByteArray).size = F.length + R.length := by show (F ++ R).toArray.size = _; simp
  have hFs : (⟨F.toArray⟩ : ByteArray).size = F.length := rfl
  have hRs : (⟨R.toArray⟩ : ByteArray).size = R.length := rfl
  generalize (⟨(F ++ R).toArray⟩ : ByteArray) = S at *
  generalize (⟨F.toArray⟩ : ByteArray) = FF at *
  generalize (⟨R.toArray⟩ : ByteArray) = RR at *
  have ca := ha.cell 0
  simp only [List.getElem?_toArray, List.getElem?_cons_zero] at ca
  generalize F.length = n at *
  generalize R.length = m at *
  have d1 : IntKind.i64.wrap ((S.size : Int) - (RR.size : Int)) = n := by rw [hS, hRs]; rw [IntWalk.i64_in _ (by omega)]; omega
  clear hF hR
  have hnS : n ≤ S.size := by omega
  have hS2 : S.size ≤ 2000 := by omega
  have hR2 : RR.size ≤ 2000 := by omega
  have HS := Lib.hid hS
  have HF := Lib.hid hFs
  have HR := Lib.hid hRs
  have hd : decide (FF.size < 1) = true ∨ (decide (FF.size < 1) = false ∧ decide (40 < FF.size) = true) := by
    simp only [decide_eq_true_eq, decide_eq_false_iff_not]; omega
  have hd2 : (decide ((FF.size : Int) < 1) = decide (FF.size < 1)) ∧ (decide ((40 : Int) < FF.size) = decide (40 < FF.size)) := by
    constructor <;> rw [Bool.eq_iff_iff] <;> simp only [decide_eq_true_eq] <;> omega
  clear hS hFs hRs hbad
  go_enter Tryd.func34, Tryd.ntmps34
  go_upto_region 2 with (go_at_call 50; refine (htr _).mono ?_; rintro e w1 ⟨rfl, hb1⟩)
  have ha1 := ha.later hb1
  have ca1 := ha1.cell 0
  simp only [List.getElem?_toArray, List.getElem?_cons_zero] at ca1
  clear ca htr
  go_quiet (fail)
  rcases hd with e1 | ⟨e1, e2⟩
  · have e3 := hd2.1.trans e1
    clear hd2
    go_wp2_with fail
    exact ⟨rfl, rfl, below_drewN hb1⟩
  · have e3 := hd2.1.trans e1
    have e4 := hd2.2.trans e2
    clear hd2
    go_wp2_with fail
    exact ⟨rfl, rfl, below_drewN hb1⟩
theorem end_no (g : Nat) (R : List UInt8) (hR : R ≠ []) (w : World) (ha : At w g 60 #[.string ⟨R.toArray⟩]) :
    Calls Tryd.prog 36 #[.pointer (some ⟨g, 0, none⟩)] w fun e w' => e = .panicked pnc ∧ w = w' := by
  have ca := ha.cell 0
  simp only [List.getElem?_toArray, List.getElem?_cons_zero] at ca
  have hne : R.toArray.toList = R := List.toList_toArray
  cases R with
  | nil => exact absurd rfl hR
  | cons c R =>
    go_enter Tryd.func36, Tryd.ntmps36
    go_wp2_with fail
    exact ⟨rfl, rfl, rfl⟩
set_option maxHeartbeats 1000000 in
set_option maxRecDepth 100000 in
theorem catch_panic (g h : Nat) (v : Value) (l : List UInt8) (hl : l.length = 80) (x : Value) (w : World) (hg : At w g 44 (dB l)) (hh : At w h 25 #[x]) (hne : g ≠ h) :
    CallsD Tryd.prog 33 #[.pointer (some ⟨g, 0, none⟩), .pointer (some ⟨h, 0, none⟩)] (.panicking [{ v := .iface 25 v, recovered := false }]) w fun e u' w' =>
      e = .returned (.tuple #[]) ∧ u' = .panicking [{ v := .iface 25 v, recovered := true }] ∧ w' = (w.setRow g (dB (List.replicate 80 0))).setCell ⟨h, 0, none⟩ (.int .i64 4) := by
  refine callsD_of_wpS Tryd.func33 rfl fun c₀ cs hu => ?_
  apply wpS_seq
  apply wpS_region
  simp [wpOpsS, go_sem, recoverD, hu, Tryd.ntmps33, Exit.thenS]
  refine wpS_cond (t := true) (by simp [Act.eval, Array.replicate]) ?_
  simp only [if_true]
  simp only [List.replicate, Array.replicate_succ, Array.replicate_zero, List.push_toArray, List.append_toArray, List.nil_append, List.cons_append, List.setIfInBounds_toArray, List.set_cons_succ, List.set_cons_zero]
  refine wpS_of_wp ?_
  have hz : Tryd.zeroCells44 = dB (List.replicate 80 0) := by kernel_rfl
  have z1 : (Tryd.prog.info? 44).map (·.size) = some (Tryd.zeroCells44).size := by rw [hz]; exact sizeD _ rfl
  have z2 : (dB l).size = (Tryd.zeroCells44).size := by rw [hz, dB_size, dB_size, hl]; rfl
  have z3 : (Tryd.zeroCells44).all (·.oneCell') = true := by rw [hz]; exact oneD _
  have h2 := hh.rowfar (Ne.symm hne) Tryd.zeroCells44
  have c2 := h2.cell 0
  have f2 := h2.frozen 0
  simp only [List.getElem?_toArray, List.getElem?_cons_zero] at c2
  have HZ := Lib.hid hz
  clear hz hl
  go_wp2_with (refine wpList_store_row rfl 44 _ _ rfl g Tryd.zeroCells44 rfl rfl 44 (dB l) hg z1 z2 z3 ?_)
  cases c₀
  simp only at hu
  subst hu
  simp [bodyPostS, results, Tryd.results33, Sem.run_pure]
  rw [HZ.out]
  rfl
end Go.Proofs.YtfekggmdhmkemaaDoor
