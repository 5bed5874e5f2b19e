/- The walk of Path. -/
import Derived.Test.YteffkcnlipdgaaaDoorAe
import Derived.Laws.Concat
namespace Go.Proofs.YteffkcnlipdgaaaDoor
open Go.RowKit
set_option linter.unusedVariables false
set_option linter.unusedSimpArgs false

theorem row_ev {w : World} {g : Nat} {t : TypeId} {e : Int × Int × Int} (a : At w g t (ev e)) : w.cell? ⟨g, 0, none⟩ = some (.int .i64 e.1) ∧ w.cell? ⟨g, 1, none⟩ = some (.int .i64 e.2.1) ∧ w.cell? ⟨g, 2, none⟩ = some (.int .i64 e.2.2) :=
  ⟨(a.cell 0).trans rfl, (a.cell 1).trans rfl, (a.cell 2).trans rfl⟩
def strLen : Value → Nat | .string s => s.size | _ => 0
set_option maxHeartbeats 1000000 in
theorem Path_no (x y z : Int) (hb : trB x y z = false) (w : World) :
    Calls Tryd.prog 19 #[.agg #[.int .i64 x, .int .i64 y, .int .i64 z]] w fun e w' => e = .returned (.tuple #[.string ⟨#[]⟩, .int .i64 2]) ∧ Keeps w w' := by
  have hk : Keeps w (w.alloc (.cells #[.int .i64 x, .int .i64 y, .int .i64 z] 22)) := Keeps.alloc (Below.refl _ _) _
  have cN := newTriple_non x y z hb (w.alloc (.cells #[.int .i64 x, .int .i64 y, .int .i64 z] 22))
  have H := Lib.hid hb
  clear hb
  go_enter Tryd.func19, Tryd.ntmps19
  go_wp2_with (go_at_call 25; refine cN.mono ?_; rintro e w1 ⟨a, b, c, rfl, h1⟩)
  go_ret2
  exact ⟨rfl, Keeps.alloc (Keeps.next hk h1) _⟩
set_option maxHeartbeats 2000000 in
set_option maxRecDepth 20000 in
theorem Path_none (x y z : Int) (hb : trB x y z = true) (h5 : z < 5) (w : World) :
    Calls Tryd.prog 19 #[.agg #[.int .i64 x, .int .i64 y, .int .i64 z]] w fun e w' => e = .returned (.tuple #[.string ⟨#[]⟩, .int .i64 6]) ∧ Keeps w w' := by
  have hk : Keeps w (w.alloc (.cells #[.int .i64 x, .int .i64 y, .int .i64 z] 22)) := Keeps.alloc (Below.refl _ _) _
  have cN := newTriple_yes x y z hb (w.alloc (.cells #[.int .i64 x, .int .i64 y, .int .i64 z] 22))
  have hlt : decide (z < 5) = true := by simpa using h5
  clear hb h5
  go_enter Tryd.func19, Tryd.ntmps19
  go_upto_region 4 with (go_at_call 25; refine cN.mono ?_; rintro e w1 ⟨rfl, h1⟩)
  have hZ := At.new w1 52 #[.int .i64 x, .int .i64 y, .int .i64 z]
  have hk4 : Keeps w (w1.alloc (.cells #[.int .i64 x, .int .i64 y, .int .i64 z] 52)) := Keeps.alloc (Keeps.next hk h1) _
  generalize w1.alloc (.cells #[.int .i64 x, .int .i64 y, .int .i64 z] 52) = Z at *
  refine region_any_inv (G := Unit) (f := ?f4) (fun _ => [.pointer (some ⟨w1.heap.size, 2, none⟩), .int .i64 z, .agg #[.int .i64 1, .int .i64 2, .int .i64 5], .int .i64 5, .bool true])
    (fun _ _ w' => Keeps Z w') () (fun _ => ?hf4) (by kernel_rfl) (by kernel_rfl) (below_drewN (n := 1) (Below.refl _ _)) ?steps4 ?fin4
  case hf4 =>
    simp only [fill, List.toList_toArray, List.zip_cons_cons, List.zip_nil_left, List.zip_nil_right, List.foldl_cons, List.foldl_nil, Act.put, List.setIfInBounds_toArray, List.set_cons_succ, List.set_cons_zero]
    exact rfl
  case steps4 =>
    refine StepsU.cons rfl (fun g L w' hL hr hc hF => ?_) ?_
    · have k3 : Keeps Z w' := hF
      clear hF
      refine StepU.go rfl (fun K hK => ?_)
      go_simp
      exact hK () _ k3
    refine StepsU.cons rfl (fun g L w' hL hr hc hF => ?_) ?_
    · have k3 : Keeps Z w' := hF
      clear hF
      have p1 := (row_six (hZ.later k3)).1
      have p2 := (row_six (hZ.later k3)).2.1
      have p3 := (row_six (hZ.later k3)).2.2.1
      refine StepU.go rfl (fun K hK => ?_)
      go_simp
      exact hK () _ k3
    refine StepsU.cons rfl (fun g L w' hL hr hc hF => ?_) ?_
    · have k3 : Keeps Z w' := hF
      clear hF
      have call9 := start_c w'
      have C9 := Lib.hid call9
      clear call9
      refine StepU.go rfl (fun K hK => ?_)
      go_simp
      refine C9.out.mono ?_
      rintro e w2 ⟨rfl, b3⟩
      exact hK () _ (Keeps.next k3 b3)
    refine StepsU.cons rfl (fun g L w' hL hr hc hF => ?_) ?_
    · have k3 : Keeps Z w' := hF
      clear hF
      refine StepU.go rfl (fun K hK => ?_)
      go_simp
      exact hK () _ k3
    refine StepsU.cons rfl (fun g L w' hL hr hc hF => ?_) ?_
    · have k3 : Keeps Z w' := hF
      clear hF
      refine StepU.go rfl (fun K hK => ?_)
      go_simp
      exact hK () _ k3
    exact StepsU.nil (by simp)
  case fin4 =>
  intro g L w5 hall k5
  clear hall
  go_wp2_with fail
  go_ret2
  exact ⟨rfl, Keeps.next hk4 k5⟩
set_option maxHeartbeats 4000000 in
set_option maxRecDepth 20000 in
theorem Path_yes (x y z : Int) (hb : trB x y z = true) (h5 : 5 ≤ z) (w : World) :
    Calls Tryd.prog 19 #[.agg #[.int .i64 x, .int .i64 y, .int .i64 z]] w fun e w' => e = .returned (.tuple #[.string ⟨(pth (x, y, z)).toArray⟩, .int .i64 0]) ∧ Keeps w w' := by
  have hk : Keeps w (w.alloc (.cells #[.int .i64 x, .int .i64 y, .int .i64 z] 22)) := Keeps.alloc (Below.refl _ _) _
  have cN := newTriple_yes x y z hb (w.alloc (.cells #[.int .i64 x, .int .i64 y, .int .i64 z] 22))
  have hT : TriT (x, y, z) := (trB_iff _ _ _).1 hb
  have hlt : decide (z < 5) = false := by simp; omega
  have hz9 : z ≤ 1000000000 := hT.1.2.2.2
  generalize hP : pth (x, y, z) = P
  have HP := Lib.hid hP
  have H5 := Lib.hid h5
  clear hb hP h5
  go_enter Tryd.func19, Tryd.ntmps19
  go_upto_region 4 with (go_at_call 25; refine cN.mono ?_; rintro e w1 ⟨rfl, h1⟩)
  have hZ := At.new w1 52 #[.int .i64 x, .int .i64 y, .int .i64 z]
  have hk4 : Keeps w (w1.alloc (.cells #[.int .i64 x, .int .i64 y, .int .i64 z] 52)) := Keeps.alloc (Keeps.next hk h1) _
  have hg4 : w.heap.size ≤ w1.heap.size := (Keeps.next hk h1).size
  generalize w1.alloc (.cells #[.int .i64 x, .int .i64 y, .int .i64 z] 52) = Z at *
  refine region_any_inv (G := Unit) (f := ?f4) (fun _ => [.pointer (some ⟨w1.heap.size, 2, none⟩), .int .i64 z, .agg #[.int .i64 1, .int .i64 2, .int .i64 5], .int .i64 5, .bool false])
    (fun _ _ w' => Keeps Z w') () (fun _ => ?hf4) (by kernel_rfl) (by kernel_rfl) (below_drewN (n := 1) (Below.refl _ _)) ?steps4 ?fin4
  case hf4 =>
    simp only [fill, List.toList_toArray, List.zip_cons_cons, List.zip_nil_left, List.zip_nil_right, List.foldl_cons, List.foldl_nil, Act.put, List.setIfInBounds_toArray, List.set_cons_succ, List.set_cons_zero]
    exact rfl
  case steps4 =>
    refine StepsU.cons rfl (fun g L w' hL hr hc hF => ?_) ?_
    · have k3 : Keeps Z w' := hF
      clear hF
      refine StepU.go rfl (fun K hK => ?_)
      go_simp
      exact hK () _ k3
    refine StepsU.cons rfl (fun g L w' hL hr hc hF => ?_) ?_
    · have k3 : Keeps Z w' := hF
      clear hF
      have p1 := (row_six (hZ.later k3)).1
      have p2 := (row_six (hZ.later k3)).2.1
      have p3 := (row_six (hZ.later k3)).2.2.1
      refine StepU.go rfl (fun K hK => ?_)
      go_simp
      exact hK () _ k3
    refine StepsU.cons rfl (fun g L w' hL hr hc hF => ?_) ?_
    · have k3 : Keeps Z w' := hF
      clear hF
      have call9 := start_c w'
      have C9 := Lib.hid call9
      clear call9
      refine StepU.go rfl (fun K hK => ?_)
      go_simp
      refine C9.out.mono ?_
      rintro e w2 ⟨rfl, b3⟩
      exact hK () _ (Keeps.next k3 b3)
    refine StepsU.cons rfl (fun g L w' hL hr hc hF => ?_) ?_
    · have k3 : Keeps Z w' := hF
      clear hF
      refine StepU.go rfl (fun K hK => ?_)
      go_simp
      exact hK () _ k3
    refine StepsU.cons rfl (fun g L w' hL hr hc hF => ?_) ?_
    · have k3 : Keeps Z w' := hF
      clear hF
      refine StepU.go rfl (fun K hK => ?_)
      go_simp
      exact hK () _ k3
    exact StepsU.nil (by simp)
  case fin4 =>
  intro g L w5 hall k5
  clear hall
  have hZ5 := hZ.later k5
  have hk5 := Keeps.next hk4 k5
  clear hZ hk4 k5 hk cN h1
  generalize w1.heap.size = gB at *
  go_wp2_with fail
  go_loopw [6] (fun u wr => ∃ (t : Int × Int × Int) (acc : List UInt8), u = .string ⟨acc.toArray⟩ ∧ TriT t ∧ 5 ≤ t.2.2 ∧ pth t ++ acc = P ∧ acc.length + t.2.2.toNat ≤ z.toNat ∧ At wr gB 52 (ev t) ∧ Keeps w wr) (fun u _ => z.toNat - strLen u)
  case atStart => exact ⟨(x, y, z), [], rfl, hT, H5.out, by rw [List.append_nil]; exact HP.out, by simp, hZ5, hk5⟩
  case round =>
    obtain ⟨t, acc, rfl, ht, ht5, hp, hl, hat, hkr⟩ := hrel
    obtain ⟨a, b, c⟩ := t
    have heq := eq3_tri a b c 1 2 5
    by_cases he : (a, b, c) = ((1, 2, 5) : Int × Int × Int)
    · have hv : eq3 a b c 1 2 5 = true := by injection he with e1 he; injection he with e2 e3; rw [e1, e2, e3]; decide
      have hPa : P = acc := by rw [he, pth_start] at hp; exact hp.symm
      subst hPa
      rw [hv] at heq
      clear hv he hp HP H5 hT hlt ht ht5
      go_upto_region 7 with fail
      refine region_any_inv (G := Unit) (f := ?f7a) (fun _ => [.agg #[.int .i64 a, .int .i64 b, .int .i64 c], .agg #[.int .i64 1, .int .i64 2, .int .i64 5], .bool false])
        (fun _ _ w' => Keeps wr w') () (fun _ => ?hf7a) (by kernel_rfl) (by kernel_rfl) (below_drewN (n := 1) (Below.refl _ _)) ?steps7a ?fin7a
      case hf7a =>
        simp only [fill, List.toList_toArray, List.zip_cons_cons, List.zip_nil_left, List.zip_nil_right, List.foldl_cons, List.foldl_nil, Act.put, List.setIfInBounds_toArray, List.set_cons_succ, List.set_cons_zero]
        exact rfl
      case steps7a =>
        refine StepsU.cons rfl (fun g L w' hL hr hc hF => ?_) ?_
        · have k3 : Keeps wr w' := hF
          clear hF
          have p1 := (row_six (hat.later k3)).1
          have p2 := (row_six (hat.later k3)).2.1
          have p3 := (row_six (hat.later k3)).2.2.1
          clear heq
          refine StepU.go rfl (fun K hK => ?_)
          go_simp
          exact hK () _ k3
        refine StepsU.cons rfl (fun g L w' hL hr hc hF => ?_) ?_
        · have k3 : Keeps wr w' := hF
          clear hF
          have call9 := start_c w'
          have C9 := Lib.hid call9
          clear call9
          clear heq
          refine StepU.go rfl (fun K hK => ?_)
          go_simp
          refine C9.out.mono ?_
          rintro e w2 ⟨rfl, b3⟩
          exact hK () _ (Keeps.next k3 b3)
        refine StepsU.cons rfl (fun g L w' hL hr hc hF => ?_) ?_
        · have k3 : Keeps wr w' := hF
          clear hF
          have h9 := heq w'
          clear heq
          refine StepU.go rfl (fun K hK => ?_)
          go_simp
          exact hK () _ k3
        exact StepsU.nil (by simp)
      case fin7a =>
      intro g L w5 hall k5
      clear hall
      go_wp2_with fail
      go_ret2
      exact ⟨rfl, Keeps.next hkr k5⟩
    · have hv : eq3 a b c 1 2 5 = false := by
        cases h : eq3 a b c 1 2 5
        · rfl
        · rw [eq3_iff] at h; exact absurd (by rw [h.1, h.2.1, h.2.2]) he
      obtain ⟨hs1, hs2, hs3, hs4⟩ := pth_step ht ht5 he
      have hbd := Tri.bds ht
      have hab : a ≤ b := ht.1.2.1
      rw [hv] at heq
      have cU := up_c a b c hbd.1 hbd.2.1 hbd.2.2 hab
      rw [show s3 a b (3 * a * b - c) = upT (a, b, c) from rfl] at cU
      have hbp := Tri.bds hs2
      have cL := left_c (upT (a, b, c)).1 (upT (a, b, c)).2.1 (upT (a, b, c)).2.2 hbp.1 hbp.2.1 hbp.2.2
      have hL : leftT (upT (a, b, c)) = ((upT (a, b, c)).2.1, (upT (a, b, c)).2.2, 3 * (upT (a, b, c)).2.1 * (upT (a, b, c)).2.2 - (upT (a, b, c)).1) := rfl
      have hlt2 : ltr (a, b, c) = if leftT (upT (a, b, c)) = (a, b, c) then 76 else 82 := rfl
      generalize upT (a, b, c) = p at *
      unfold ev at cU
      have heq2 := eq3_tri p.2.1 p.2.2 (3 * p.2.1 * p.2.2 - p.1) a b c
      have hla : acc.length ≤ 1000000000 := by omega
      have ad : ∀ q : UInt8, ∀ W, (Op.stringOp .add ⟨#[q]⟩ ⟨acc.toArray⟩).run Tryd.prog W = .ok (.string ⟨(q :: acc).toArray⟩) W := fun q W => by
        rw [run_string_add_sum W _ _ (by simp [ByteArray.size]; omega)]
        simp [ByteArray.append]
        rfl
      clear hv he HP H5 hT hlt ht ht5 hbd hab hbp
      go_upto_region 7 with fail
      refine region_any_inv (G := Unit) (f := ?f7b) (fun _ => [.agg #[.int .i64 a, .int .i64 b, .int .i64 c], .agg #[.int .i64 1, .int .i64 2, .int .i64 5], .bool true])
        (fun _ _ w' => Keeps wr w') () (fun _ => ?hf7b) (by kernel_rfl) (by kernel_rfl) (below_drewN (n := 1) (Below.refl _ _)) ?steps7b ?fin7b
      case hf7b =>
        simp only [fill, List.toList_toArray, List.zip_cons_cons, List.zip_nil_left, List.zip_nil_right, List.foldl_cons, List.foldl_nil, Act.put, List.setIfInBounds_toArray, List.set_cons_succ, List.set_cons_zero]
        exact rfl
      case steps7b =>
        refine StepsU.cons rfl (fun g L w' hL hr hc hF => ?_) ?_
        · have k3 : Keeps wr w' := hF
          clear hF
          have p1 := (row_six (hat.later k3)).1
          have p2 := (row_six (hat.later k3)).2.1
          have p3 := (row_six (hat.later k3)).2.2.1
          clear heq
          refine StepU.go rfl (fun K hK => ?_)
          go_simp
          exact hK () _ k3
        refine StepsU.cons rfl (fun g L w' hL hr hc hF => ?_) ?_
        · have k3 : Keeps wr w' := hF
          clear hF
          have call9 := start_c w'
          have C9 := Lib.hid call9
          clear call9
          clear heq
          refine StepU.go rfl (fun K hK => ?_)
          go_simp
          refine C9.out.mono ?_
          rintro e w2 ⟨rfl, b3⟩
          exact hK () _ (Keeps.next k3 b3)
        refine StepsU.cons rfl (fun g L w' hL hr hc hF => ?_) ?_
        · have k3 : Keeps wr w' := hF
          clear hF
          have h9 := heq w'
          clear heq
          refine StepU.go rfl (fun K hK => ?_)
          go_simp
          exact hK () _ k3
        exact StepsU.nil (by simp)
      case fin7b =>
      intro g L w5 hall k5
      clear hall
      have hat5 := hat.later k5
      have hk7 := Keeps.next hkr k5
      clear k5 heq hat hkr
      have p1 := (row_ev hat5).1
      have p2 := (row_ev hat5).2.1
      have p3 := (row_ev hat5).2.2
      go_upto_region 9 with (go_at_call 34; refine (cU _).mono ?_; rintro e w6 ⟨rfl, h6⟩; clear p1 p2 p3)
      have h4 := (hat5.later h6).alloc (.cells #[.int .i64 p.1, .int .i64 p.2.1, .int .i64 p.2.2] 52)
      have h7 : At (w6.alloc (.cells #[.int .i64 p.1, .int .i64 p.2.1, .int .i64 p.2.2] 52)) w6.heap.size 52 (ev p) := At.new w6 _ _
      have hk8 : Keeps w (w6.alloc (.cells #[.int .i64 p.1, .int .i64 p.2.1, .int .i64 p.2.2] 52)) := Keeps.alloc (Keeps.next hk7 h6) _
      generalize w6.alloc (.cells #[.int .i64 p.1, .int .i64 p.2.1, .int .i64 p.2.2] 52) = X at *
      generalize w6.heap.size = g7 at *
      have hc : (p.2.1, p.2.2, 3 * p.2.1 * p.2.2 - p.1) = leftT p := hL.symm
      clear hat5 h6 hk7 cU
      cases hB : decide (leftT p = (a, b, c))
      · have hb3 : eq3 (leftT p).1 (leftT p).2.1 (leftT p).2.2 a b c = false := by
          cases h : eq3 (leftT p).1 (leftT p).2.1 (leftT p).2.2 a b c
          · rfl
          · rw [eq3_iff] at h; exact absurd (by rw [← h.1, ← h.2.1, ← h.2.2]) (of_decide_eq_false hB)
        rw [show eq3 p.2.1 p.2.2 (3 * p.2.1 * p.2.2 - p.1) a b c = _ from hb3] at heq2
        rw [if_neg (of_decide_eq_false hB)] at hlt2
        clear hB hb3
        refine region_any_inv (G := Unit) (f := ?f9a) (fun _ => [.agg #[.int .i64 p.1, .int .i64 p.2.1, .int .i64 p.2.2], .agg #[.int .i64 p.2.1, .int .i64 p.2.2, .int .i64 (3 * p.2.1 * p.2.2 - p.1)], .agg #[.int .i64 a, .int .i64 b, .int .i64 c], .bool false])
          (fun _ _ w' => Keeps X w') () (fun _ => ?hf9a) (by kernel_rfl) (by kernel_rfl) (below_drewN (n := 1) (Below.refl _ _)) ?steps9a ?fin9a
        case hf9a =>
          simp only [fill, List.toList_toArray, List.zip_cons_cons, List.zip_nil_left, List.zip_nil_right, List.foldl_cons, List.foldl_nil, Act.put, List.setIfInBounds_toArray, List.set_cons_succ, List.set_cons_zero]
          exact rfl
        case steps9a =>
          refine StepsU.cons rfl (fun g L w' hL hr hc hF => ?_) ?_
          · have k3 : Keeps X w' := hF
            clear hF
            obtain ⟨p4, p5, p6⟩ := row_ev (h7.later k3)
            clear heq2
            refine StepU.go rfl (fun K hK => ?_)
            go_simp
            exact hK () _ k3
          refine StepsU.cons rfl (fun g L w' hL hr hc hF => ?_) ?_
          · have k3 : Keeps X w' := hF
            clear hF
            have call9 := cL w'
            have C9 := Lib.hid call9
            clear call9
            clear heq2
            refine StepU.go rfl (fun K hK => ?_)
            go_simp
            refine C9.out.mono ?_
            rintro e w2 ⟨rfl, b3⟩
            exact hK () _ (Keeps.next k3 b3)
          refine StepsU.cons rfl (fun g L w' hL hr hc hF => ?_) ?_
          · have k3 : Keeps X w' := hF
            clear hF
            have p1 := (row_six (h4.later k3)).1
            have p2 := (row_six (h4.later k3)).2.1
            have p3 := (row_six (h4.later k3)).2.2.1
            clear heq2
            refine StepU.go rfl (fun K hK => ?_)
            go_simp
            exact hK () _ k3
          refine StepsU.cons rfl (fun g L w' hL hr hc hF => ?_) ?_
          · have k3 : Keeps X w' := hF
            clear hF
            have h9 := heq2 w'
            clear heq2
            refine StepU.go rfl (fun K hK => ?_)
            go_simp
            exact hK () _ k3
          exact StepsU.nil (by simp)
        case fin9a =>
        intro g L w5 hall k5
        clear hall
        have h7b := h7.later k5
        have h4b := h4.later k5
        have hk9 := Keeps.next hk8 k5
        clear h7 h4 hk8 k5 heq2
        have ad9 := ad 82
        have p1 := (row_ev h7b).1
        have p2 := (row_ev h7b).2.1
        have p3 := (row_ev h7b).2.2
        have HL := Lib.hid hL
        have HLT := Lib.hid hlt2
        clear hL hlt2 hc ad
        go_wp2_with (refine wpList_store_row rfl 52 _ _ rfl gB (ev p) rfl rfl 52 (ev (a, b, c)) h4b (sizeV _) rfl (oneV _) ?_)
        have h9 := h4b.row (ev p)
        go_roundw
        case rel => exact ⟨_, _, _, _, _, _, _, _, _, _, _, _, _, _, _, _, ⟨p, 82 :: acc, rfl, hs2, hs3, by rw [← hp, hs1, HLT.out]; simp, by simp only [List.length_cons]; omega, h9, below_row hk9 hg4 _⟩, rfl⟩
        case measure =>
          show z.toNat - (82 :: acc).length < z.toNat - acc.length
          simp only [List.length_cons]
          omega
      · have hb3 : eq3 (leftT p).1 (leftT p).2.1 (leftT p).2.2 a b c = true := by
          rw [of_decide_eq_true hB]; simp [eq3]
        rw [show eq3 p.2.1 p.2.2 (3 * p.2.1 * p.2.2 - p.1) a b c = _ from hb3] at heq2
        rw [if_pos (of_decide_eq_true hB)] at hlt2
        clear hB hb3
        refine region_any_inv (G := Unit) (f := ?f9b) (fun _ => [.agg #[.int .i64 p.1, .int .i64 p.2.1, .int .i64 p.2.2], .agg #[.int .i64 p.2.1, .int .i64 p.2.2, .int .i64 (3 * p.2.1 * p.2.2 - p.1)], .agg #[.int .i64 a, .int .i64 b, .int .i64 c], .bool true])
          (fun _ _ w' => Keeps X w') () (fun _ => ?hf9b) (by kernel_rfl) (by kernel_rfl) (below_drewN (n := 1) (Below.refl _ _)) ?steps9b ?fin9b
        case hf9b =>
          simp only [fill, List.toList_toArray, List.zip_cons_cons, List.zip_nil_left, List.zip_nil_right, List.foldl_cons, List.foldl_nil, Act.put, List.setIfInBounds_toArray, List.set_cons_succ, List.set_cons_zero]
          exact rfl
        case steps9b =>
          refine StepsU.cons rfl (fun g L w' hL hr hc hF => ?_) ?_
          · have k3 : Keeps X w' := hF
            clear hF
            obtain ⟨p4, p5, p6⟩ := row_ev (h7.later k3)
            clear heq2
            refine StepU.go rfl (fun K hK => ?_)
            go_simp
            exact hK () _ k3
          refine StepsU.cons rfl (fun g L w' hL hr hc hF => ?_) ?_
          · have k3 : Keeps X w' := hF
            clear hF
            have call9 := cL w'
            have C9 := Lib.hid call9
            clear call9
            clear heq2
            refine StepU.go rfl (fun K hK => ?_)
            go_simp
            refine C9.out.mono ?_
            rintro e w2 ⟨rfl, b3⟩
            exact hK () _ (Keeps.next k3 b3)
          refine StepsU.cons rfl (fun g L w' hL hr hc hF => ?_) ?_
          · have k3 : Keeps X w' := hF
            clear hF
            have p1 := (row_six (h4.later k3)).1
            have p2 := (row_six (h4.later k3)).2.1
            have p3 := (row_six (h4.later k3)).2.2.1
            clear heq2
            refine StepU.go rfl (fun K hK => ?_)
            go_simp
            exact hK () _ k3
          refine StepsU.cons rfl (fun g L w' hL hr hc hF => ?_) ?_
          · have k3 : Keeps X w' := hF
            clear hF
            have h9 := heq2 w'
            clear heq2
            refine StepU.go rfl (fun K hK => ?_)
            go_simp
            exact hK () _ k3
          exact StepsU.nil (by simp)
        case fin9b =>
        intro g L w5 hall k5
        clear hall
        have h7b := h7.later k5
        have h4b := h4.later k5
        have hk9 := Keeps.next hk8 k5
        clear h7 h4 hk8 k5 heq2
        have ad9 := ad 76
        have p1 := (row_ev h7b).1
        have p2 := (row_ev h7b).2.1
        have p3 := (row_ev h7b).2.2
        have HL := Lib.hid hL
        have HLT := Lib.hid hlt2
        clear hL hlt2 hc ad
        go_wp2_with (refine wpList_store_row rfl 52 _ _ rfl gB (ev p) rfl rfl 52 (ev (a, b, c)) h4b (sizeV _) rfl (oneV _) ?_)
        have h9 := h4b.row (ev p)
        go_roundw
        case rel => exact ⟨_, _, _, _, _, _, _, _, _, _, _, _, _, _, _, _, ⟨p, 76 :: acc, rfl, hs2, hs3, by rw [← hp, hs1, HLT.out]; simp, by simp only [List.length_cons]; omega, h9, below_row hk9 hg4 _⟩, rfl⟩
        case measure =>
          show z.toNat - (76 :: acc).length < z.toNat - acc.length
          simp only [List.length_cons]
          omega
end Go.Proofs.YteffkcnlipdgaaaDoor
