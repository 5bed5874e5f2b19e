/- The walk of Matrix. -/
import Derived.Test.YteffkcnlipdgaaaDoorAk
namespace Go.Proofs.YteffkcnlipdgaaaDoor
open Go.RowKit
set_option linter.unusedVariables false
set_option linter.unusedSimpArgs false

/-- The matrix of a word, as far as its numbers are not too great. -/
def matF : Mx → List UInt8 → Option Mx
  | m, [] => some m
  | m, c :: l => if 1152921504606846976 < max4 (mul m (mxOf c)) then none else matF (mul m (mxOf c)) l
theorem mxOf_cases (c : UInt8) : mxOf c = (2, 1, 1, 1) ∨ mxOf c = (5, 2, 2, 1) := by
  unfold mxOf
  split
  · exact Or.inl rfl
  · exact Or.inr rfl
theorem times_c (m : Mx) (c : UInt8) (hm : bdM m) (w : World) :
    Calls Tryd.prog 39 #[.agg #[.int .i64 m.1, .int .i64 m.2.1, .int .i64 m.2.2.1, .int .i64 m.2.2.2], .agg (mv (mxOf c))] w fun e w' => e = .returned (.agg (mv (mul m (mxOf c)))) ∧ Keeps w w' := by
  obtain ⟨a, b, c1, d⟩ := m
  rcases mxOf_cases c with h | h <;> rw [h]
  · refine Calls.mono (times_a a b c1 d hm w) ?_
    rintro e w' ⟨rfl, hk⟩
    exact ⟨by simp [mul, mv], hk⟩
  · refine Calls.mono (times_b a b c1 d hm w) ?_
    rintro e w' ⟨rfl, hk⟩
    exact ⟨by simp [mul, mv], hk⟩
theorem bdM_mul (m : Mx) (c : UInt8) (hm : bdM m) (h : ¬ 1152921504606846976 < max4 (mul m (mxOf c))) : bdM (mul m (mxOf c)) := by
  obtain ⟨a, b, c1, d⟩ := m
  obtain ⟨⟨a1, a2⟩, ⟨b1, b2⟩, ⟨c1', c2⟩, ⟨d1, d2⟩⟩ := hm
  simp only at a1 a2 b1 b2 c1' c2 d1 d2
  rcases mxOf_cases c with e | e <;> rw [e] at h ⊢ <;> simp only [mul, max4, bdM] at h ⊢ <;> omega
set_option maxHeartbeats 1000000 in
theorem Matrix_no (s : ByteArray) (hs : s.size ≤ maxLen) (h : phraseB s = false) (w : World) :
    Calls Tryd.prog 23 #[.string s] w fun e w' => e = .returned (.tuple #[.agg (mv (0, 0, 0, 0)), .int .i64 2]) ∧ Keeps w w' := by
  have cP := fun W => isWord_c s hs W
  rw [h] at cP
  clear h
  have hX := At.new w 45 (mv (0, 0, 0, 0))
  have hk : Keeps w (w.alloc (.cells (mv (0, 0, 0, 0)) 45)) := Keeps.alloc (Below.refl _ _) _
  go_enter Tryd.func23, Tryd.ntmps23
  go_wp2_with (first
    | (go_at_call 38; refine (cP _).mono ?_; rintro e w1 ⟨rfl, h1⟩; have hX1 := hX.later h1)
    | (refine wpList_store_row rfl 45 _ _ rfl w.heap.size (mv (0, 0, 0, 0)) rfl rfl 45 (mv (0, 0, 0, 0)) hX1 (sizeM4 _) rfl (oneM _) ?_))
  have h3 := hX1.row (mv (0, 0, 0, 0))
  exact bodyPost_ret (v := .tuple #[.agg (mv (0, 0, 0, 0)), .int .i64 2]) (results_row_tmp Tryd.results23 _ _ w.heap.size _ _ _ rfl h3 Tryd.underlying45 rfl (sizeM4 _)) rfl ⟨rfl, below_row (Keeps.next hk h1) (by omega) _⟩
/-- What Matrix answers. -/
def MatR (r : Option Mx) (e : Ending) : Prop := match r with
  | none => e = .returned (.tuple #[.agg (mv (0, 0, 0, 0)), .int .i64 5])
  | some m => e = .returned (.tuple #[.agg (mv m), .int .i64 0])
set_option maxHeartbeats 4000000 in
set_option maxRecDepth 20000 in
theorem Matrix_c (s : ByteArray) (h : phraseB s = true) (w : World) :
    Calls Tryd.prog 23 #[.string s] w fun e w' => MatR (matF (1, 0, 0, 1) s.data.toList) e ∧ Keeps w w' := by
  have h40 : s.size ≤ 40 := by unfold phraseB at h; rw [Bool.and_eq_true] at h; exact of_decide_eq_true h.1
  have cP := fun W => isWord_c s (by unfold maxLen; omega) W
  rw [h] at cP
  clear h
  have hX := At.new w 45 (mv (0, 0, 0, 0))
  have hk : Keeps w (w.alloc (.cells (mv (0, 0, 0, 0)) 45)) := Keeps.alloc (Below.refl _ _) _
  go_enter Tryd.func23, Tryd.ntmps23
  go_wp2_with (go_at_call 38; refine (cP _).mono ?_; rintro e w1 ⟨rfl, h1⟩)
  have hA0 := (hX.later h1).alloc (.cells #[.int .i64 1, .int .i64 0, .int .i64 0, .int .i64 1] 65)
  have hB0 : At (w1.alloc (.cells #[.int .i64 1, .int .i64 0, .int .i64 0, .int .i64 1] 65)) w1.heap.size 65 (mv (1, 0, 0, 1)) := At.new w1 _ _
  have hk1 : Keeps w (w1.alloc (.cells #[.int .i64 1, .int .i64 0, .int .i64 0, .int .i64 1] 65)) := Keeps.alloc (Keeps.next hk h1) _
  have hgB0 : w.heap.size < w1.heap.size := by have := h1.size; simp at this; omega
  generalize w1.alloc (.cells #[.int .i64 1, .int .i64 0, .int .i64 0, .int .i64 1] 65) = X at *
  generalize w1.heap.size = gB at *
  have hgB : w.heap.size ≤ gB := by omega
  have hne : w.heap.size ≠ gB := by omega
  clear hX hk h1 cP
  go_loopw [13] (fun s13 wr => ∃ (k : Nat) (m : Mx), k ≤ s.size ∧ s13 = .int .i64 k ∧ bdM m ∧ matF m (s.data.toList.drop k) = matF (1, 0, 0, 1) s.data.toList ∧ At wr gB 65 (mv m) ∧ Keeps w wr ∧ At wr w.heap.size 45 (mv (0, 0, 0, 0))) (fun s13 _ => s.size - (intOf s13).toNat)
  case atStart => exact ⟨0, (1, 0, 0, 1), Nat.zero_le _, rfl, by unfold bdM; decide, rfl, hB0, hk1, hA0⟩
  case round =>
    obtain ⟨k, m, hk, rfl, hm, hf, hat, hkr, hA⟩ := hrel
    clear hB0 hk1 hA0
    by_cases hlt : k < s.size
    · have hkI : (k : Int) < s.size := by omega
      have hdr : s.data.toList.drop k = s[k] :: s.data.toList.drop (k + 1) := by
        rw [List.drop_eq_getElem_cons (by simpa using hlt)]; rfl
      have hq : s[k]? = some s[k] := by simp [hlt]
      rw [hdr, matF] at hf
      have cO := fun W => matrixOf_c s[k] W
      have cT := fun W => times_c m s[k] hm W
      have hb2 := bdM_mul m s[k] hm
      have Hf := Lib.hid hf
      have Hb2 := Lib.hid hb2
      clear hf hb2 hdr hm
      go_upto_region 7 with fail
      refine region_any_inv (G := Unit) (f := ?f7) (fun _ => [.agg #[.int .i64 m.1, .int .i64 m.2.1, .int .i64 m.2.2.1, .int .i64 m.2.2.2], .string s, .int .i64 k, .int .u8 (s[k].toNat : Int), .agg (mv (mxOf s[k])), .agg (mv (mul m (mxOf s[k]))), undef])
        (fun _ L w' => At w' gB 65 (bif L 6 then mv (mul m (mxOf s[k])) else mv m) ∧ Keeps w w' ∧ At w' w.heap.size 45 (mv (0, 0, 0, 0))) () (fun _ => ?hf7) (by kernel_rfl) (by kernel_rfl) ⟨hat.drew, keeps_dr hkr, hA.drew⟩ ?steps7 ?fin7
      case hf7 =>
        simp only [fill, List.toList_toArray, List.zip_cons_cons, List.zip_nil_left, List.zip_nil_right, List.foldl_cons, List.foldl_nil, Act.put, List.setIfInBounds_toArray, List.set_cons_succ, List.set_cons_zero]
        exact rfl
      case steps7 =>
        refine StepsU.cons rfl (fun g L w' hL hr hc hF => ?_) ?_
        · have A0 : At w' gB 65 (bif L 6 then mv (mul m (mxOf s[k])) else mv m) := hF.1
          have k3 : Keeps w w' := hF.2.1
          have A1 : At w' w.heap.size 45 (mv (0, 0, 0, 0)) := hF.2.2
          rw [show L 6 = false from hc.not 6 0 rfl rfl hL, cond_false] at A0
          have p1 := (row_mv A0).1
          have p2 := (row_mv A0).2.1
          have p3 := (row_mv A0).2.2.1
          have p4 := (row_mv A0).2.2.2
          have hL6 : L 6 = false := hc.not 6 0 rfl rfl hL
          clear hF hc hr hat hkr hA
          clear cO cT
          refine StepU.go rfl (fun K hK => ?_)
          go_simp
          exact hK () _ ⟨by rw [show add L 0 6 = L 6 from rfl, hL6]; exact A0, k3, A1⟩
        refine StepsU.cons rfl (fun g L w' hL hr hc hF => ?_) ?_
        · have A0 : At w' gB 65 (bif L 6 then mv (mul m (mxOf s[k])) else mv m) := hF.1
          have k3 : Keeps w w' := hF.2.1
          have A1 : At w' w.heap.size 45 (mv (0, 0, 0, 0)) := hF.2.2
          clear hF hc hr hat hkr hA
          clear cO cT
          refine StepU.go rfl (fun K hK => ?_)
          go_simp
          exact hK () _ ⟨A0, k3, A1⟩
        refine StepsU.cons rfl (fun g L w' hL hr hc hF => ?_) ?_
        · have A0 : At w' gB 65 (bif L 6 then mv (mul m (mxOf s[k])) else mv m) := hF.1
          have k3 : Keeps w w' := hF.2.1
          have A1 : At w' w.heap.size 45 (mv (0, 0, 0, 0)) := hF.2.2
          clear hF hc hr hat hkr hA
          clear cO cT
          refine StepU.go rfl (fun K hK => ?_)
          go_simp
          exact hK () _ ⟨A0, k3, A1⟩
        refine StepsU.cons rfl (fun g L w' hL hr hc hF => ?_) ?_
        · have A0 : At w' gB 65 (bif L 6 then mv (mul m (mxOf s[k])) else mv m) := hF.1
          have k3 : Keeps w w' := hF.2.1
          have A1 : At w' w.heap.size 45 (mv (0, 0, 0, 0)) := hF.2.2
          clear hF hc hr hat hkr hA
          clear cO cT
          refine StepU.go rfl (fun K hK => ?_)
          go_simp
          exact hK () _ ⟨A0, k3, A1⟩
        refine StepsU.cons rfl (fun g L w' hL hr hc hF => ?_) ?_
        · have A0 : At w' gB 65 (bif L 6 then mv (mul m (mxOf s[k])) else mv m) := hF.1
          have k3 : Keeps w w' := hF.2.1
          have A1 : At w' w.heap.size 45 (mv (0, 0, 0, 0)) := hF.2.2
          clear hF hc hr hat hkr hA
          have C9 := Lib.hid (cO w')
          clear cO cT
          refine StepU.go rfl (fun K hK => ?_)
          go_simp
          refine C9.out.mono ?_
          rintro e w2 ⟨rfl, b3⟩
          exact hK () _ ⟨A0.later b3, Keeps.next k3 b3, A1.later b3⟩
        refine StepsU.cons rfl (fun g L w' hL hr hc hF => ?_) ?_
        · have A0 : At w' gB 65 (bif L 6 then mv (mul m (mxOf s[k])) else mv m) := hF.1
          have k3 : Keeps w w' := hF.2.1
          have A1 : At w' w.heap.size 45 (mv (0, 0, 0, 0)) := hF.2.2
          clear hF hc hr hat hkr hA
          have C9 := Lib.hid (cT w')
          clear cO cT
          refine StepU.go rfl (fun K hK => ?_)
          go_simp
          refine C9.out.mono ?_
          rintro e w2 ⟨rfl, b3⟩
          exact hK () _ ⟨A0.later b3, Keeps.next k3 b3, A1.later b3⟩
        refine StepsU.cons rfl (fun g L w' hL hr hc hF => ?_) ?_
        · have A0 : At w' gB 65 (bif L 6 then mv (mul m (mxOf s[k])) else mv m) := hF.1
          have k3 : Keeps w w' := hF.2.1
          have A1 : At w' w.heap.size 45 (mv (0, 0, 0, 0)) := hF.2.2
          rw [show L 6 = false from hL, cond_false] at A0
          have p1 := (row_mv A0).1
          have p2 := (row_mv A0).2.1
          have p3 := (row_mv A0).2.2.1
          have p4 := (row_mv A0).2.2.2
          have f1 := A0.frozen 0
          have f2 := A0.frozen 1
          have f3 := A0.frozen 2
          have f4 := A0.frozen 3
          clear hF hc hr hat hkr hA
          clear cO cT
          generalize mul m (mxOf s[k]) = m2 at *
          refine StepU.go rfl (fun K hK => ?_)
          simp only [mv] at hK ⊢
          go_simp
          exact hK () _ ⟨by rw [add_same, cond_true]; exact (((A0.set 0 _).set 1 _).set 2 _).set 3 _, Below.setCell (Below.setCell (Below.setCell (Below.setCell k3 hgB _) hgB _) hgB _) hgB _, (((A1.far hne _).far hne _).far hne _).far hne _⟩
        exact StepsU.nil (by simp)
      case fin7 =>
      intro g L w5 hall hF
      have A0 : At w5 gB 65 (bif L 6 then mv (mul m (mxOf s[k])) else mv m) := hF.1
      have k5 : Keeps w w5 := hF.2.1
      have A1 : At w5 w.heap.size 45 (mv (0, 0, 0, 0)) := hF.2.2
      rw [hall 6 (by simp), cond_true] at A0
      clear hall hF hat hkr hA
      generalize mul m (mxOf s[k]) = m2 at *
      have cM := Max_c gB m2 w5 A0
      cases hbig : decide (1152921504606846976 < max4 m2)
      · have hn : ¬ 1152921504606846976 < max4 m2 := of_decide_eq_false hbig
        have hf2 := Hf.out
        rw [if_neg hn] at hf2
        have Hf2 := Lib.hid hf2
        have Hb3 := Lib.hid (Hb2.out hn)
        clear hn hf2 Hf Hb2
        go_wp2_with (go_at_call 41; refine cM.mono ?_; rintro e w6 ⟨rfl, h6⟩; have A06 := A0.later h6; have A16 := A1.later h6; have k6 := Keeps.next k5 h6)
        go_roundw
        case rel => exact ⟨k + 1, m2, by omega, by go_num, Hb3.out, Hf2.out, A06, k6, A16⟩
        case measure => simp [intOf]; omega
      · have hn : 1152921504606846976 < max4 m2 := of_decide_eq_true hbig
        have hf2 := Hf.out
        rw [if_pos hn] at hf2
        have Hf2 := Lib.hid hf2
        clear hn hf2 Hf Hb2
        go_wp2_with (first
          | (go_at_call 41; refine cM.mono ?_; rintro e w6 ⟨rfl, h6⟩; have A16 := A1.later h6; have k6 := Keeps.next k5 h6)
          | (refine wpList_store_row rfl 45 _ _ rfl w.heap.size (mv (0, 0, 0, 0)) rfl rfl 45 (mv (0, 0, 0, 0)) A16 (sizeM4 _) rfl (oneM _) ?_))
        have h3 := A16.row (mv (0, 0, 0, 0))
        exact bodyPost_ret (v := .tuple #[.agg (mv (0, 0, 0, 0)), .int .i64 5]) (results_row_tmp Tryd.results23 _ _ w.heap.size _ _ _ rfl h3 Tryd.underlying45 rfl (sizeM4 _)) rfl ⟨by rw [← Hf2.out]; rfl, below_row k6 (by omega) _⟩
    · obtain rfl : k = s.size := by omega
      have hdr : s.data.toList.drop s.size = [] := List.drop_eq_nil_of_le (by rw [Array.length_toList]; exact Nat.le_refl _)
      rw [hdr, matF] at hf
      have Hf := Lib.hid hf
      have p1 := (row_mv hat).1
      have p2 := (row_mv hat).2.1
      have p3 := (row_mv hat).2.2.1
      have p4 := (row_mv hat).2.2.2
      clear hf hdr hm
      go_wp2_with (refine wpList_store_row rfl 45 _ _ rfl w.heap.size (mv m) rfl rfl 45 (mv (0, 0, 0, 0)) hA (sizeM4 _) rfl (oneM _) ?_)
      have h3 := hA.row (mv m)
      exact bodyPost_ret (v := .tuple #[.agg (mv m), .int .i64 0]) (results_row_tmp Tryd.results23 _ _ w.heap.size _ _ _ rfl h3 Tryd.underlying45 rfl (sizeM4 _)) rfl ⟨by rw [← Hf.out]; rfl, below_row hkr (by omega) _⟩
end Go.Proofs.YteffkcnlipdgaaaDoor
