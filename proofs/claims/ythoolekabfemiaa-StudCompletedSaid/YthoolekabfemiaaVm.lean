/- The law Completed. -/
import Derived.Test.YthoolekabfemiaaVl
import Derived.Test.YthoolekabfemiaaUa
namespace Go.Proofs.Ythoolekabfemiaa
open Go.RowKit Go.Shelf
set_option linter.unusedVariables false
set_option linter.unusedSimpArgs false

theorem keeps_dr {a w : World} (h : Keeps a w) : Keeps a w.drew := below_drewN (n := 1) h
set_option maxHeartbeats 4000000 in
set_option maxRecDepth 100000 in
theorem law_completed (n : Int) (v0 : Value) (l : List Int) (k j : Int) (w : World) (hn : (Lit.int .i64 n).wf = true) (hv : RdI w v0 l) (hf : fits l) (hcap : Cap v0) (hk : (Lit.int .i64 k).wf = true) (hj : (Lit.int .i64 j).wf = true) :
    Calls Try.prog 4 #[.int .i64 n, v0, .int .i64 k, .int .i64 j] w fun e w' => e = .returned (.bool true) ∧ Keeps w w' := by
  have hta := tame_c n v0 l 7 (by omega) (by omega) hn w hv hf
  clear hn hv hf hcap
  go_enter Try.func4, Try.ntmps4
  go_wp2_with (go_at_call 17; refine hta.mono ?_; rintro e w1 ⟨bL, cL, L, rfl, hLc, hl1, ho, hp7, hb1⟩)
  clear hta
  obtain ⟨ho1, ho2, ho3, -⟩ := ordB_parts L ho
  have hrw : rowsB L.length L = true := by unfold ordB at ho; rw [Bool.and_eq_true] at ho; exact ho.2
  have hm1 := fun X => mod_c k ((L.length : Int) + 1) hk (by omega) (by omega) X
  obtain ⟨a0, a1⟩ := modN_in k ((L.length : Int) + 1) (by omega)
  generalize modN k ((L.length : Int) + 1) = mk at *
  obtain ⟨q, rfl⟩ := Int.eq_ofNat_of_zero_le a0
  have hqn : q ≤ L.length := by omega
  have hqc : q ≤ cL := by omega
  have hqI : (q : Int) ≤ cL := by omega
  have htl : (L.take q).length = q := by rw [List.length_take]; omega
  have hrq := rowsB_take L.length L q hrw
  have hl1q := RdI_take hl1 hqn
  refine (hm1 _).mono ?_
  rintro e w2 ⟨rfl, rfl⟩
  have Htl := Lib.hid htl
  have Hrq := Lib.hid hrq
  have Hrw := Lib.hid hrw
  have Hho := Lib.hid ho
  clear hm1 hk a0 a1 ho3 htl hrq hrw ho
  cases hF : (clrs (L.take q) L.length)[0]? with
  | none =>
    have hN := clrs_none L q hqn Hrw.out hF
    have hc1 := complete_none L.length ho1 hp7 (some ⟨bL, 0, none⟩) cL q (L.take q) Htl.out hqn Hrq.out hqc hF w1 hl1q
    have hc2 := fun X hx => complete_none L.length ho1 hp7 (some ⟨bL, 0, none⟩) cL L.length L rfl (Nat.le_refl _) Hrw.out hLc hN X hx
    clear hF hN
    go_wp2_with fail
    refine hc1.mono ?_
    rintro e w2 ⟨rfl, hb2⟩
    have hl2 := RdI.below hl1 hb2
    have hk2 := Keeps.next hb1 hb2
    clear hc1
    go_wp2_with (first
      | (go_at_call 19; refine (hc2 _ hl2).mono ?_; rintro e w3 ⟨rfl, hb3⟩; have hk3 := Keeps.next hk2 hb3)
      | (go_at_call 13; refine (awake_c _).mono ?_; rintro e w4 ⟨rfl, hb4⟩))
    go_ret
    exact ⟨rfl, Keeps.next hk3 hb4⟩
  | some x =>
    obtain ⟨x1, x2, x3, x4⟩ := clrs_some (L.take q) x L.length (by rw [Htl.out]; exact hqn) Hrq.out hF
    have hc1 := complete_some L.length ho1 hp7 (some ⟨bL, 0, none⟩) cL q (L.take q) Htl.out hqn Hrq.out hqc x hF w1 hl1q
    rw [Htl.out] at x1 x4
    have X1 := Lib.hid x1
    have X2 := Lib.hid x2
    have X3 := Lib.hid x3
    have X4 := Lib.hid x4
    clear hF x1 x2 x3 x4
    go_wp2_with fail
    refine hc1.mono ?_
    rintro e w2 ⟨b, cc, rfl, hxl, hxc, hx2, hb2⟩
    have hl2 := RdI.below hl1 hb2
    have hk2 := Keeps.next hb1 hb2
    have Hxl := Lib.hid hxl
    clear hc1 hxl
    have hxl := Hxl.out
    have hox : ordB x = true := by
      have h := X2.out
      unfold ordB
      rw [hxl, h, Bool.and_true]
      exact decide_eq_true ⟨ho1, ho2⟩
    have hO : ∀ X, Keeps w2 X → Calls Try.prog 12 #[.slice (some ⟨b, 0, none⟩) L.length cc] X fun e w' => e = .returned (.bool true) ∧ Keeps X w' := by
      intro X h
      have := rorder_c (.slice (some ⟨b, 0, none⟩) L.length cc) x X (hx2.below h)
      rw [hox] at this
      exact this
    have hx3 : RdI w2 (.slice (some ⟨b, 0, none⟩) x.length cc) x := by rw [hxl]; exact hx2
    have hI : ∀ X, Keeps w2 X → Calls Try.prog 16 #[.slice (some ⟨b, 0, none⟩) q cc, .slice (some ⟨bL, 0, none⟩) q cL] X fun e w' => e = .returned (.bool true) ∧ Keeps X w' := by
      intro X h
      have := ints_c _ _ (x.take q) (L.take q) X (RdI_take (hx3.below h) (by rw [hxl]; exact hqn)) (RdI_take (hl2.below h) hqn)
      rw [decide_eq_true X1.out] at this
      refine this.mono ?_
      rintro e w' ⟨h1, m, rfl⟩
      exact ⟨h1, below_drewN (Below.refl _ _)⟩
    have hK : ∀ X, Keeps w2 X → Calls Try.prog 20 #[.slice (some ⟨b, 0, none⟩) L.length cc] X fun e w' => e = .returned (.bool true) ∧ Keeps X w' := by
      intro X h
      have := risclear_c (some ⟨b, 0, none⟩) cc x hox X (hx3.below h)
      rw [hxl, X3.out] at this
      exact this
    have hqcc : q ≤ cc := by omega
    have hqccI : (q : Int) ≤ cc := by omega
    clear hxl
    go_wp2_with fail
    refine region_any_inv (G := Unit) (f := ?f) (fun _ => [.slice (some ⟨b, 0, none⟩) L.length cc, .bool true, .bool false, .bool false, .slice (some ⟨b, 0, none⟩) L.length cc, .int .i64 L.length, .slice (some ⟨bL, 0, none⟩) L.length cL, .int .i64 L.length, .bool false, .bool false, .bool false, .slice (some ⟨b, 0, none⟩) L.length cc, .int .i64 q, .slice (some ⟨b, 0, none⟩) q cc, .slice (some ⟨bL, 0, none⟩) L.length cL, .int .i64 q, .slice (some ⟨bL, 0, none⟩) q cL, .bool true, .bool false, .bool false, .bool false, .slice (some ⟨b, 0, none⟩) L.length cc, .bool true, .bool false, .bool false])
      (fun _ _ w' => Keeps w2 w') () (fun _ => ?hf) (by kernel_rfl) (by kernel_rfl) (keeps_dr (Below.refl _ _)) ?steps ?fin
    case hf =>
      simp only [fill, List.toList_toArray, List.zip_cons_cons, List.zip_nil_left, List.zip_nil_right, List.foldl_cons, List.foldl_nil, Act.put, List.setIfInBounds_toArray, List.set_cons_succ, List.set_cons_zero]
      exact rfl
    case steps =>
      refine StepsU.cons rfl (fun g L' w' hL hr hc hF => ?_) ?_
      · refine StepU.go rfl (fun K hKK => ?_)
        clear hO hI hK
        go_simp
        exact hKK () _ hF
      refine StepsU.cons rfl (fun g L' w' hL hr hc hF => ?_) ?_
      · refine StepU.go rfl (fun K hKK => ?_)
        go_simp
        refine (hO _ hF).mono ?_
        rintro e w3 ⟨rfl, hb3⟩
        exact hKK () _ (Keeps.next hF hb3)
      refine StepsU.cons rfl (fun g L' w' hL hr hc hF => ?_) ?_
      · refine StepU.go rfl (fun K hKK => ?_)
        clear hO hI hK
        go_simp
        exact hKK () _ hF
      refine StepsU.cons rfl (fun g L' w' hL hr hc hF => ?_) ?_
      · refine StepU.go rfl (fun K hKK => ?_)
        clear hO hI hK
        go_simp
        exact hKK () _ hF
      refine StepsU.cons rfl (fun g L' w' hL hr hc hF => ?_) ?_
      · refine StepU.go rfl (fun K hKK => ?_)
        clear hO hI hK
        go_simp
        exact hKK () _ hF
      refine StepsU.cons rfl (fun g L' w' hL hr hc hF => ?_) ?_
      · refine StepU.go rfl (fun K hKK => ?_)
        clear hO hI hK
        go_simp
        exact hKK () _ hF
      refine StepsU.cons rfl (fun g L' w' hL hr hc hF => ?_) ?_
      · refine StepU.go rfl (fun K hKK => ?_)
        clear hO hI hK
        go_simp
        exact hKK () _ hF
      refine StepsU.cons rfl (fun g L' w' hL hr hc hF => ?_) ?_
      · refine StepU.go rfl (fun K hKK => ?_)
        clear hO hI hK
        go_simp
        exact hKK () _ hF
      refine StepsU.cons rfl (fun g L' w' hL hr hc hF => ?_) ?_
      · refine StepU.go rfl (fun K hKK => ?_)
        clear hO hI hK
        go_simp
        exact hKK () _ hF
      refine StepsU.cons rfl (fun g L' w' hL hr hc hF => ?_) ?_
      · refine StepU.go rfl (fun K hKK => ?_)
        clear hO hI hK
        go_simp
        exact hKK () _ hF
      refine StepsU.cons rfl (fun g L' w' hL hr hc hF => ?_) ?_
      · refine StepU.go rfl (fun K hKK => ?_)
        clear hO hI hK
        go_simp
        exact hKK () _ hF
      refine StepsU.cons rfl (fun g L' w' hL hr hc hF => ?_) ?_
      · refine StepU.go rfl (fun K hKK => ?_)
        clear hO hI hK
        go_simp
        exact hKK () _ hF
      refine StepsU.cons rfl (fun g L' w' hL hr hc hF => ?_) ?_
      · refine StepU.go rfl (fun K hKK => ?_)
        clear hO hI hK
        go_simp
        exact hKK () _ hF
      refine StepsU.cons rfl (fun g L' w' hL hr hc hF => ?_) ?_
      · refine StepU.go rfl (fun K hKK => ?_)
        clear hO hI hK
        go_simp
        exact hKK () _ hF
      refine StepsU.cons rfl (fun g L' w' hL hr hc hF => ?_) ?_
      · refine StepU.go rfl (fun K hKK => ?_)
        clear hO hI hK
        go_simp
        exact hKK () _ hF
      refine StepsU.cons rfl (fun g L' w' hL hr hc hF => ?_) ?_
      · refine StepU.go rfl (fun K hKK => ?_)
        clear hO hI hK
        go_simp
        exact hKK () _ hF
      refine StepsU.cons rfl (fun g L' w' hL hr hc hF => ?_) ?_
      · refine StepU.go rfl (fun K hKK => ?_)
        clear hO hI hK
        go_simp
        exact hKK () _ hF
      refine StepsU.cons rfl (fun g L' w' hL hr hc hF => ?_) ?_
      · refine StepU.go rfl (fun K hKK => ?_)
        go_simp
        refine (hI _ hF).mono ?_
        rintro e w3 ⟨rfl, hb3⟩
        exact hKK () _ (Keeps.next hF hb3)
      refine StepsU.cons rfl (fun g L' w' hL hr hc hF => ?_) ?_
      · refine StepU.go rfl (fun K hKK => ?_)
        clear hO hI hK
        go_simp
        exact hKK () _ hF
      refine StepsU.cons rfl (fun g L' w' hL hr hc hF => ?_) ?_
      · refine StepU.go rfl (fun K hKK => ?_)
        clear hO hI hK
        go_simp
        exact hKK () _ hF
      refine StepsU.cons rfl (fun g L' w' hL hr hc hF => ?_) ?_
      · refine StepU.go rfl (fun K hKK => ?_)
        clear hO hI hK
        go_simp
        exact hKK () _ hF
      refine StepsU.cons rfl (fun g L' w' hL hr hc hF => ?_) ?_
      · refine StepU.go rfl (fun K hKK => ?_)
        clear hO hI hK
        go_simp
        exact hKK () _ hF
      refine StepsU.cons rfl (fun g L' w' hL hr hc hF => ?_) ?_
      · refine StepU.go rfl (fun K hKK => ?_)
        go_simp
        refine (hK _ hF).mono ?_
        rintro e w3 ⟨rfl, hb3⟩
        exact hKK () _ (Keeps.next hF hb3)
      refine StepsU.cons rfl (fun g L' w' hL hr hc hF => ?_) ?_
      · refine StepU.go rfl (fun K hKK => ?_)
        clear hO hI hK
        go_simp
        exact hKK () _ hF
      refine StepsU.cons rfl (fun g L' w' hL hr hc hF => ?_) ?_
      · refine StepU.go rfl (fun K hKK => ?_)
        clear hO hI hK
        go_simp
        exact hKK () _ hF
      exact StepsU.nil (by simp)
    case fin =>
    intro g L' w5 hall hF
    clear hall hO hI hK
    have hx5 := hx3.below hF
    have hk5 := Keeps.next hk2 hF
    have hm2 := fun Y => mod_c j ((L.length : Int) - q + 1) hj (by omega) (by omega) Y
    obtain ⟨a0, a1⟩ := modN_in j ((L.length : Int) - q + 1) (by omega)
    generalize modN j ((L.length : Int) - q + 1) = mj at *
    obtain ⟨r, rfl⟩ := Int.eq_ofNat_of_zero_le a0
    obtain ⟨p, hp⟩ : ∃ p, q + r = p := ⟨_, rfl⟩
    have hpn : p ≤ L.length := by omega
    have hqp : q ≤ p := by omega
    have hpc : p ≤ cc := by omega
    have hpcI : (p : Int) ≤ cc := by omega
    have q1 : IntKind.i64.wrap ((L.length : Int) - q) = (L.length : Int) - q := IntWalk.i64_in _ (by omega)
    have q2 : IntKind.i64.wrap ((L.length : Int) - q + 1) = (L.length : Int) - q + 1 := IntWalk.i64_in _ (by omega)
    have q3 : IntKind.i64.wrap ((q : Int) + r) = (p : Int) := by rw [IntWalk.i64_in _ (by omega)]; omega
    have hxl2 := Hxl.out
    have htp : (x.take p).length = p := by rw [List.length_take]; omega
    have hxp : RdI w5 (.slice (some ⟨b, 0, none⟩) p cc) (x.take p) := RdI_take hx5 (by omega)
    have hc3 := complete_some L.length ho1 hp7 (some ⟨b, 0, none⟩) cc p (x.take p) htp hpn (rowsB_take _ _ _ X2.out) hpc x (X4.out p hqp hpn) w5 hxp
    have hI2 : ∀ X b6 cc6, RdI X (.slice (some ⟨b6, 0, none⟩) L.length cc6) x → Keeps w5 X → Calls Try.prog 16 #[.slice (some ⟨b, 0, none⟩) L.length cc, .slice (some ⟨b6, 0, none⟩) L.length cc6] X fun e w' => e = .returned (.bool true) ∧ Keeps X w' := by
      intro X b6 cc6 h6 h
      have h5 := hx5.below h
      rw [hxl2] at h5
      have := ints_c _ _ x x X h5 h6
      rw [decide_eq_true rfl] at this
      refine this.mono ?_
      rintro e w' ⟨h1, m, rfl⟩
      exact ⟨h1, below_drewN (Below.refl _ _)⟩
    clear hxl2 htp hxp hp a0 a1 hpn hqp hpc
    go_wp2_with (first
      | (go_at_call 18; refine (hm2 _).mono ?_; rintro e w6 ⟨rfl, rfl⟩)
      | (go_at_call 19; refine hc3.mono ?_; rintro e w6 ⟨b6, cc6, rfl, h6l, h6c, hx6, hb6⟩; have hI3 := hI2 w6 b6 cc6 hx6 hb6; have hk6 := Keeps.next hk5 hb6; clear h6l)
      | (go_at_call 16; refine hI3.mono ?_; rintro e w7 ⟨rfl, hb7⟩; have hk7 := Keeps.next hk6 hb7)
      | (go_at_call 13; refine (awake_c _).mono ?_; rintro e w8 ⟨rfl, hb8⟩))
    go_ret
    exact ⟨rfl, Keeps.next hk7 hb8⟩
end Go.Proofs.Ythoolekabfemiaa
