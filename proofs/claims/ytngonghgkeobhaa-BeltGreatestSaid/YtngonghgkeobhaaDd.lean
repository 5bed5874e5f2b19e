/- The reference's Flip. -/
import Derived.Test.YtngonghgkeobhaaDc
namespace Go.Proofs.Ytngonghgkeobhaa
open Go.RowKit Go.Shelf
set_option linter.unusedVariables false
set_option linter.unusedSimpArgs false

set_option maxHeartbeats 2000000 in
set_option maxRecDepth 100000 in
theorem rflip_c (s : ByteArray) (i : Nat) (hi : i < s.size) (h12 : s.size ≤ 12) (w : World) :
    Calls Try.prog 37 #[.string s, .int .i64 i] w fun e w' => e = .returned (.string (s.extract 0 i ++ (if s[i] = 48 then ⟨#[49]⟩ else ⟨#[48]⟩) ++ s.extract (i + 1) s.size)) ∧ ∃ m, w' = w.drewN m := by
  have hiI : (i : Int) < (s.size : Int) := by omega
  have hw : IntKind.i64.wrap ((i : Int) + 1) = ((i + 1 : Nat) : Int) := by rw [IntWalk.i64_in _ (by omega)]; omega
  have h1 : ((i + 1 : Nat) : Int) ≤ (s.size : Int) := by omega
  have hiL : (i : Int) ≤ (s.size : Int) := by omega
  have hcases : (s[i] = 48 ∧ ((s[i].toNat : Int) == 48) = true) ∨ (s[i] ≠ 48 ∧ ((s[i].toNat : Int) == 48) = false) := by
    by_cases h0 : s[i] = 48
    · exact .inl ⟨h0, by rw [h0]; rfl⟩
    · refine .inr ⟨h0, ?_⟩
      rw [beq_eq_false_iff_ne]
      intro e
      exact h0 (UInt8.toNat_inj.1 (by simpa using (by exact_mod_cast e : s[i].toNat = 48)))
  rcases hcases with ⟨h0, q0⟩ | ⟨h0, q0⟩
  · rw [if_pos h0]
    obtain ⟨C, hC⟩ : ∃ C : ByteArray, (⟨#[49]⟩ : ByteArray) = C := ⟨_, rfl⟩
    have hCs : C.size = 1 := by rw [← hC]; rfl
    go_enter Try.func37, Try.ntmps37
    go_upto_region 4 with fail
    rw [hC]
    have HC := Lib.hid hC
    clear hC h0 q0
    have ex1 : (s.extract 0 i).size = i := by rw [ByteArray.size_extract]; omega
    have ex2 : (s.extract 0 i ++ C).size = i + 1 := by rw [ByteArray.size_append, ex1, hCs]
    have ex3 : (s.extract (i + 1) s.size).size = s.size - (i + 1) := by rw [ByteArray.size_extract]; omega
    refine region_any_inv (G := Unit) (f := ?f1) (fun _ => [.string s, .int .i64 i, .string (s.extract 0 i), .string C, .string (s.extract 0 i ++ C), .string s, .int .i64 i, .int .i64 ((i + 1 : Nat) : Int), .string (s.extract (i + 1) s.size), .string (s.extract 0 i ++ C ++ s.extract (i + 1) s.size), .string (s.extract 0 i ++ C ++ s.extract (i + 1) s.size)])
        (fun _ L w' => ∃ m, w' = w.drewN m) () (fun _ => ?hf1) (by kernel_rfl) (by kernel_rfl) ⟨1, rfl⟩ ?steps1 ?fin1
    case hf1 =>
      simp only [fill, List.toList_toArray, List.zip_cons_cons, List.zip_nil_left, List.zip_nil_right, List.foldl_cons, List.foldl_nil, Act.put, List.setIfInBounds_toArray, List.set_cons_succ, List.set_cons_zero]
      exact rfl
    case steps1 =>
      refine StepsU.cons rfl (fun G L w' hL hr hc hF => ?_) ?_
      · obtain ⟨m, rfl⟩ := hF
        refine StepU.go rfl (fun K hK => ?_)
        go_simp
        exact hK () _ ⟨m, rfl⟩
      refine StepsU.cons rfl (fun G L w' hL hr hc hF => ?_) ?_
      · obtain ⟨m, rfl⟩ := hF
        refine StepU.go rfl (fun K hK => ?_)
        go_simp
        exact hK () _ ⟨m, rfl⟩
      refine StepsU.cons rfl (fun G L w' hL hr hc hF => ?_) ?_
      · obtain ⟨m, rfl⟩ := hF
        refine StepU.go rfl (fun K hK => ?_)
        go_simp
        exact hK () _ ⟨m, rfl⟩
      refine StepsU.cons rfl (fun G L w' hL hr hc hF => ?_) ?_
      · obtain ⟨m, rfl⟩ := hF
        refine StepU.go rfl (fun K hK => ?_)
        go_simp
        exact hK () _ ⟨m, rfl⟩
      refine StepsU.cons rfl (fun G L w' hL hr hc hF => ?_) ?_
      · obtain ⟨m, rfl⟩ := hF
        refine StepU.go rfl (fun K hK => ?_)
        go_simp
        rw [if_neg (by omega)]
        exact hK () _ ⟨m, rfl⟩
      refine StepsU.cons rfl (fun G L w' hL hr hc hF => ?_) ?_
      · obtain ⟨m, rfl⟩ := hF
        refine StepU.go rfl (fun K hK => ?_)
        go_simp
        exact hK () _ ⟨m, rfl⟩
      refine StepsU.cons rfl (fun G L w' hL hr hc hF => ?_) ?_
      · obtain ⟨m, rfl⟩ := hF
        refine StepU.go rfl (fun K hK => ?_)
        go_simp
        exact hK () _ ⟨m, rfl⟩
      refine StepsU.cons rfl (fun G L w' hL hr hc hF => ?_) ?_
      · obtain ⟨m, rfl⟩ := hF
        refine StepU.go rfl (fun K hK => ?_)
        go_simp
        exact hK () _ ⟨m, rfl⟩
      refine StepsU.cons rfl (fun G L w' hL hr hc hF => ?_) ?_
      · obtain ⟨m, rfl⟩ := hF
        refine StepU.go rfl (fun K hK => ?_)
        go_simp
        rw [if_pos (by omega)]
        exact hK () _ ⟨m, rfl⟩
      refine StepsU.cons rfl (fun G L w' hL hr hc hF => ?_) ?_
      · obtain ⟨m, rfl⟩ := hF
        refine StepU.go rfl (fun K hK => ?_)
        go_simp
        rw [if_neg (by omega)]
        exact hK () _ ⟨m, rfl⟩
      refine StepsU.cons rfl (fun G L w' hL hr hc hF => ?_) ?_
      · obtain ⟨m, rfl⟩ := hF
        refine StepU.go rfl (fun K hK => ?_)
        go_simp
        exact hK () _ ⟨m, rfl⟩
      exact StepsU.nil (by simp)
    case fin1 =>
    intro u L w8 hall ⟨m8, hm8⟩
    subst hm8
    go_wp2_with fail
    go_ret
    exact ⟨by rw [HC.out]; rfl, _, rfl⟩

  · rw [if_neg h0]
    obtain ⟨C, hC⟩ : ∃ C : ByteArray, (⟨#[48]⟩ : ByteArray) = C := ⟨_, rfl⟩
    have hCs : C.size = 1 := by rw [← hC]; rfl
    go_enter Try.func37, Try.ntmps37
    go_upto_region 4 with fail
    rw [hC]
    have HC := Lib.hid hC
    clear hC h0 q0
    have ex1 : (s.extract 0 i).size = i := by rw [ByteArray.size_extract]; omega
    have ex2 : (s.extract 0 i ++ C).size = i + 1 := by rw [ByteArray.size_append, ex1, hCs]
    have ex3 : (s.extract (i + 1) s.size).size = s.size - (i + 1) := by rw [ByteArray.size_extract]; omega
    refine region_any_inv (G := Unit) (f := ?f) (fun _ => [.string s, .int .i64 i, .string (s.extract 0 i), .string C, .string (s.extract 0 i ++ C), .string s, .int .i64 i, .int .i64 ((i + 1 : Nat) : Int), .string (s.extract (i + 1) s.size), .string (s.extract 0 i ++ C ++ s.extract (i + 1) s.size), .string (s.extract 0 i ++ C ++ s.extract (i + 1) s.size)])
        (fun _ L w' => ∃ m, w' = w.drewN m) () (fun _ => ?hf) (by kernel_rfl) (by kernel_rfl) ⟨1, rfl⟩ ?steps ?fin
    case hf =>
      simp only [fill, List.toList_toArray, List.zip_cons_cons, List.zip_nil_left, List.zip_nil_right, List.foldl_cons, List.foldl_nil, Act.put, List.setIfInBounds_toArray, List.set_cons_succ, List.set_cons_zero]
      exact rfl
    case steps =>
      refine StepsU.cons rfl (fun G L w' hL hr hc hF => ?_) ?_
      · obtain ⟨m, rfl⟩ := hF
        refine StepU.go rfl (fun K hK => ?_)
        go_simp
        exact hK () _ ⟨m, rfl⟩
      refine StepsU.cons rfl (fun G L w' hL hr hc hF => ?_) ?_
      · obtain ⟨m, rfl⟩ := hF
        refine StepU.go rfl (fun K hK => ?_)
        go_simp
        exact hK () _ ⟨m, rfl⟩
      refine StepsU.cons rfl (fun G L w' hL hr hc hF => ?_) ?_
      · obtain ⟨m, rfl⟩ := hF
        refine StepU.go rfl (fun K hK => ?_)
        go_simp
        exact hK () _ ⟨m, rfl⟩
      refine StepsU.cons rfl (fun G L w' hL hr hc hF => ?_) ?_
      · obtain ⟨m, rfl⟩ := hF
        refine StepU.go rfl (fun K hK => ?_)
        go_simp
        exact hK () _ ⟨m, rfl⟩
      refine StepsU.cons rfl (fun G L w' hL hr hc hF => ?_) ?_
      · obtain ⟨m, rfl⟩ := hF
        refine StepU.go rfl (fun K hK => ?_)
        go_simp
        rw [if_neg (by omega)]
        exact hK () _ ⟨m, rfl⟩
      refine StepsU.cons rfl (fun G L w' hL hr hc hF => ?_) ?_
      · obtain ⟨m, rfl⟩ := hF
        refine StepU.go rfl (fun K hK => ?_)
        go_simp
        exact hK () _ ⟨m, rfl⟩
      refine StepsU.cons rfl (fun G L w' hL hr hc hF => ?_) ?_
      · obtain ⟨m, rfl⟩ := hF
        refine StepU.go rfl (fun K hK => ?_)
        go_simp
        exact hK () _ ⟨m, rfl⟩
      refine StepsU.cons rfl (fun G L w' hL hr hc hF => ?_) ?_
      · obtain ⟨m, rfl⟩ := hF
        refine StepU.go rfl (fun K hK => ?_)
        go_simp
        exact hK () _ ⟨m, rfl⟩
      refine StepsU.cons rfl (fun G L w' hL hr hc hF => ?_) ?_
      · obtain ⟨m, rfl⟩ := hF
        refine StepU.go rfl (fun K hK => ?_)
        go_simp
        rw [if_pos (by omega)]
        exact hK () _ ⟨m, rfl⟩
      refine StepsU.cons rfl (fun G L w' hL hr hc hF => ?_) ?_
      · obtain ⟨m, rfl⟩ := hF
        refine StepU.go rfl (fun K hK => ?_)
        go_simp
        rw [if_neg (by omega)]
        exact hK () _ ⟨m, rfl⟩
      refine StepsU.cons rfl (fun G L w' hL hr hc hF => ?_) ?_
      · obtain ⟨m, rfl⟩ := hF
        refine StepU.go rfl (fun K hK => ?_)
        go_simp
        exact hK () _ ⟨m, rfl⟩
      exact StepsU.nil (by simp)
    case fin =>
    intro u L w8 hall ⟨m8, hm8⟩
    subst hm8
    go_wp2_with fail
    go_ret
    exact ⟨by rw [HC.out]; rfl, _, rfl⟩

end Go.Proofs.Ytngonghgkeobhaa
